/- Rows of whole numbers. -/
import Derived.Test.YtjlnmkoggobbgaaN6
import Derived.Test.YtjlnmkoggobbgaaC2
namespace Go.Proofs.Ytjlnmkoggobbgaa
open Go.RowKit

/-- One more. -/
theorem more (w : World) (base : Nat) (a : Option Addr) (i cap : Nat) (f : Nat → Int) (O : Own w base 3 (.slice a i cap) i (In f)) (hi : i < 90000) (x : Int) (hx : x = f i) (hb : base ≤ w.heap.size) (B : Nat) (hB : B = w.heap.size) :
    ∃ a' cap' W, (Builtin.append_ #[31, 31] 31 #[.slice a i cap, .slice (some ⟨B, 0, none⟩) 1 1]).run Try.prog (w.alloc (.cells #[.int .i64 x] 3)) = .ok (.slice a' (i + 1) cap') W ∧
      Own W base 3 (.slice a' (i + 1) cap') (i + 1) (In f) ∧ Mv (fun j => bk a = some j) w W ∧ (bk a' = bk a ∨ ∃ g, bk a' = some g ∧ w.heap.size ≤ g) ∧ Below base w W := by
  have A1 : Mv (fun _ => False) w (w.alloc (.cells #[.int .i64 x] 3)) := Mv.alloc _ _ _
  have O1 := O.mv A1 (fun _ _ h => h)
  obtain ⟨v', W, hr, ho, hg, hf⟩ := append_own 31 31 3 Try.t3 (.int .i64 0) 8 Try.underlying31 info3 (by kernel_rfl) (by kernel_rfl) (by kernel_rfl) rfl (by omega) _ base _ i 1 1 (In f) (In fun _ => x) (some ⟨B, 0, none⟩) O1 (sl_one w x B hB) (fun _ => rfl) (by omega) (fun h => by cases h) (by simp; omega)
  obtain ⟨a', c', rfl, _⟩ := ho.sl
  rw [own_blk, own_blk] at hf
  have hM := Mv.of_grown hg
  rw [own_blk] at hM
  have hM2 : Mv (fun j => bk a = some j) w W := (A1.mono (T := fun j => bk a = some j) (fun _ _ h => h.elim)).trans hM (fun _ _ h => h)
  refine ⟨a', c', W, hr, ho.congr (fun j hj => ?_), hM2, ?_, hM2.below hb (fun k hk e => ?_)⟩
  · unfold cat In
    split
    · rfl
    · obtain rfl : j = i := by omega
      rw [hx]
  · rcases hf with h | ⟨g, h1, h2⟩
    · exact .inl h
    · refine .inr ⟨g, h1, ?_⟩
      simp at h2
      omega
  · have := (O.blk k (by rw [own_blk]; exact e)).1
    omega

/-- Room for n, none there yet. -/
theorem made0 (w : World) (n : Nat) (hn : n < 90000) (f : Nat → Int) : ∃ W, (Instr.makeSlice 31 (.int .i64 0) (.int .i64 n)).run Try.prog w = .ok (.slice (some ⟨w.heap.size, 0, none⟩) 0 n) W ∧
    Own W w.heap.size 3 (.slice (some ⟨w.heap.size, 0, none⟩) 0 n) 0 (In f) ∧ Below w.heap.size w W := by
  obtain ⟨W, hr, ho, hg⟩ := run_make_own (P := Try.prog) w w.heap.size 31 3 Try.t3 (.int .i64 0) 1 Try.underlying31 info3 (by kernel_rfl) (by kernel_rfl) .i64 .i64 n (by show 8 * n ≤ _; omega) (by simp only [maxLen]; omega) (Nat.le_refl _)
  exact ⟨W, hr, ho, (Mv.of_grown hg).below (Nat.le_refl _) (fun _ _ e => by cases e)⟩

/-- Which key is the i-th. -/
def kof (S : List Kw) (i : Nat) : Int := (S[i]?.map Prod.fst).getD 0
theorem kof_map {L : List Nd} {i : Nat} {x : Nd} (h : L[i]? = some x) : kof (L.map kw) i = x.k := by
  unfold kof
  rw [List.getElem?_map, h]; rfl
def lenS : Value → Nat
  | .slice _ n _ => n
  | _ => 0

theorem Ca.below {w : World} {c o : Nat} {mo : Int} {M : Option Nat} {L : List Nd} {X : Nat → Prop} {w' : World} (h : Ca w c o mo M L X) (hb : Below w.heap.size w w') : Ca w' c o mo M L (fun j => X j ∨ w.heap.size ≤ j) := by
  have hm : Mv (fun _ => False) w w' := (Mv.of_below hb).mono (fun k hk e => by omega)
  exact h.mv hm (fun _ h => h.elim)
theorem Ch.below {w : World} {c o : Nat} {mo : Int} {S : List Kw} {X : Nat → Prop} {w' : World} (h : Ch w c o mo S X) (hb : Below w.heap.size w w') : Ch w' c o mo S (fun j => X j ∨ w.heap.size ≤ j) := by
  obtain ⟨M, L, h, e⟩ := h
  exact ⟨M, L, h.below hb, e⟩

end Go.Proofs.Ytjlnmkoggobbgaa
