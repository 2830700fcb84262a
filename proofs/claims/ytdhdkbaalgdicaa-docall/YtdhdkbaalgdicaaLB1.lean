/- Rows of whole numbers; one edit in a file. -/
import Derived.Test.YtdhdkbaalgdicaaLA
namespace Go.Proofs.Ytdhdkbaalgdicaa
open Go.RowKit
set_option linter.unusedVariables false

/-- One more. -/
theorem more (w : World) (base : Nat) (a : Option Addr) (i cap : Nat) (f : Nat → Int) (O : Own w base 3 (.slice a i cap) i (In f)) (hi : i < 90000) (x : Int) (hx : x = f i) (hb : base ≤ w.heap.size) (B : Nat) (hB : B = w.heap.size) :
    ∃ a' cap' W, (Builtin.append_ #[24, 24] 24 #[.slice a i cap, .slice (some ⟨B, 0, none⟩) 1 1]).run Try.prog (w.alloc (.cells #[.int .i64 x] 3)) = .ok (.slice a' (i + 1) cap') W ∧
      Own W base 3 (.slice a' (i + 1) cap') (i + 1) (In f) ∧ Mv (fun j => bk a = some j) w W ∧ (bk a' = bk a ∨ ∃ g, bk a' = some g ∧ w.heap.size ≤ g) ∧ Below base w W := by
  have A1 : Mv (fun _ => False) w (w.alloc (.cells #[.int .i64 x] 3)) := Mv.alloc _ _ _
  have O1 := O.mv A1 (fun _ _ h => h)
  obtain ⟨v', W, hr, ho, hg, hf⟩ := append_own 24 24 3 Try.t3 (.int .i64 0) 8 Try.underlying24 info3 (by kernel_rfl) (by kernel_rfl) (by kernel_rfl) rfl (by omega) _ base _ i 1 1 (In f) (In fun _ => x) (some ⟨B, 0, none⟩) O1 (sl_one w x B hB) (fun _ => rfl) (by omega) (fun h => by cases h) (by simp; omega)
  obtain ⟨a', c', rfl, _⟩ := ho.sl
  rw [own_blk, own_blk] at hf
  have hM := Mv.of_grown hg
  rw [own_blk] at hM
  have hM2 : Mv (fun j => bk a = some j) w W := (A1.mono (T := fun j => bk a = some j) (fun _ _ h => h.elim)).trans hM (fun _ _ h => h)
  refine ⟨a', c', W, hr, ho.congr (fun j hj => ?_), hM2, ?_, hM2.below hb (fun k hk e => ?_)⟩
  · unfold cat In
    split
    · rfl
    · obtain rfl : j = i := by omega
      rw [hx]
  · rcases hf with h | ⟨g, h1, h2⟩
    · exact .inl h
    · refine .inr ⟨g, h1, ?_⟩
      simp at h2
      omega
  · have := (O.blk k (by rw [own_blk]; exact e)).1
    omega

theorem among_all (m j : Nat) : among (fun i => (i : Int)) m j = decide (j < m) := by
  induction m with
  | zero => rw [among_zero]; simp
  | succ m ih =>
    rw [among_succ, ih, Bool.eq_iff_iff]
    simp
    omega

/-- A file of n bytes with k more at t. -/
theorem put_length (n t k : Nat) (ht : t ≤ n) : (ins (sp1 ⟨false, 0, n⟩) t t 0 k).length = n + k := by
  have h : (sp1 ⟨false, 0, n⟩).length = n := by rw [sp1_length]; show n - 0 = n; omega
  rw [ins_length _ _ _ _ _ (Nat.le_refl _) (by rw [h]; exact ht), h]
  omega
theorem put_mid (n t k : Nat) (ht : t ≤ n) : ((ins (sp1 ⟨false, 0, n⟩) t t 0 k).take (t + k)).drop t = sp1 ⟨true, 0, k⟩ := by
  have h : ((sp1 ⟨false, 0, n⟩).take t).length = t := by rw [List.length_take, sp1_length]; show min t (n - 0) = t; omega
  have h2 : (sp1 ⟨true, 0, 0 + k⟩).length = k := by rw [sp1_length]; show 0 + k - 0 = k; omega
  unfold ins
  rw [List.take_left' (by rw [List.length_append, h, h2]), List.drop_left' h, Nat.zero_add]
theorem put_at (n t k : Nat) (ht : t ≤ n) (hk : 0 < k) : (ins (sp1 ⟨false, 0, n⟩) t t 0 k)[t]? = some (true, 0) := by
  have h : ((sp1 ⟨false, 0, n⟩).take t).length = t := by rw [List.length_take, sp1_length]; show min t (n - 0) = t; omega
  have h2 : (sp1 ⟨true, 0, 0 + k⟩).length = k := by rw [sp1_length]; show 0 + k - 0 = k; omega
  unfold ins
  rw [List.append_assoc, List.getElem?_append_right (by rw [h]; exact Nat.le_refl _), h, Nat.sub_self, List.getElem?_append_left (by rw [h2]; exact hk), sp1_get (by show 0 < 0 + k - 0; omega)]
theorem put_has (n t k x : Nat) (hx : x < n) : (false, x) ∈ ins (sp1 ⟨false, 0, n⟩) t t 0 k := by
  have h : ((false, x) : Bt) ∈ sp1 ⟨false, 0, n⟩ := sp1_mem.2 ⟨rfl, Nat.zero_le _, hx⟩
  rw [← List.take_append_drop t (sp1 ⟨false, 0, n⟩)] at h
  unfold ins
  rcases List.mem_append.1 h with h | h
  · exact List.mem_append_left _ (List.mem_append_left _ h)
  · exact List.mem_append_right _ h
theorem put_spell (G A f : Nat → Int) (k : Nat) : (sp1 ⟨true, 0, k⟩).map (bt G (catI A 0 f)) = (List.range k).map f := by
  unfold sp1
  rw [List.map_map]
  apply List.ext_getElem
  · simp
  · intro i h1 h2
    simp [bt, catI]
theorem no_reads {d : Pd} {R' : List Int} {n : Nat} {X : List Bt} (h : Rd d [] R' (fun x => (false, x) ∈ X) n) (hX : ∀ x, (false, x) ∉ X) : R' = [] := by
  cases R' with
  | nil => rfl
  | cons y r =>
    rcases h.1 y List.mem_cons_self with h | ⟨x, h, _⟩
    · cases h
    · exact (hX x h).elim
theorem Dd.monoK {w0 w : World} {dp fq tp : Nat} {d : Pd} {mo : Int} {l : List Int} {bad : Nat → Bool} {R : List Int} {L : List Bt} {m : Nat} {A : Nat → Int} {K J : Nat → Prop} (h : Dd w0 w dp fq tp d mo l bad R L m A K) (hk : ∀ j, J j → K j) : Dd w0 w dp fq tp d mo l bad R L m A J := by
  obtain ⟨Y, Z, D, k, lo, B⟩ := h
  exact ⟨Y, Z, D, fun j hj => k j (hk j hj), lo, B⟩

end Go.Proofs.Ytdhdkbaalgdicaa
