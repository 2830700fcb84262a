/- A file opened; a page of it. -/
import Derived.Test.YtjlnmkoggobbgaaF2
namespace Go.Proofs.Ytjlnmkoggobbgaa
open Go.RowKit

theorem two_cells (w : World) (a b : Value) (t : TypeId) : (w.alloc (.cells #[a, b] t)).cell? ⟨w.heap.size, 0, none⟩ = some a ∧ (w.alloc (.cells #[a, b] t)).cell? ⟨w.heap.size, 1, none⟩ = some b :=
  ⟨(alloc_new w _ t 0 _ rfl).1, (alloc_new w _ t 1 _ rfl).1⟩

theorem fnew_any {w : World} {d : Pd} {ra : Option Addr} {rc : Nat} {bad : Nat → Bool} {R : List Int} {Y : Nat → Prop} (mo : Int) (h : Pg w d ra rc bad R.length (lof R)) (hY : ∀ j, Y j → j < w.heap.size ∧ j ≠ d.bp ∧ j ≠ d.bl ∧ bk ra ≠ some j) :
    Calls Try.prog 25 #[.pointer (some ⟨d.bp, 0, none⟩), .int .i64 mo] w fun e w' => e = .returned (.pointer (some ⟨w.heap.size + 1, 0, none⟩)) ∧ Hid (Fs w' (w.heap.size + 1) d mo [] bad R Y ∧ Below w.heap.size w w') := by
  have N := bnew mo w
  have e1 : (w.alloc (.cells #[.int .i64 mo, .map none, .pointer none, .pointer none] 86)).heap.size = w.heap.size + 1 := by simp
  have fin : Hid (Fs ((w.alloc (.cells #[.int .i64 mo, .map none, .pointer none, .pointer none] 86)).alloc (.cells #[.pointer (some ⟨d.bp, 0, none⟩), .pointer (some ⟨w.heap.size, 0, none⟩)] 75)) (w.heap.size + 1) d mo [] bad R Y ∧ Below w.heap.size w ((w.alloc (.cells #[.int .i64 mo, .map none, .pointer none, .pointer none] 86)).alloc (.cells #[.pointer (some ⟨d.bp, 0, none⟩), .pointer (some ⟨w.heap.size, 0, none⟩)] 75))) := by
    have C0 := Ch.new w 2 mo 86 (fun j => j < w.heap.size) (fun j h => h) (by omega)
    have A : Mv (fun _ => False) (w.alloc (.cells #[.int .i64 mo, .map none, .pointer none, .pointer none] 86)) ((w.alloc (.cells #[.int .i64 mo, .map none, .pointer none, .pointer none] 86)).alloc (.cells #[.pointer (some ⟨d.bp, 0, none⟩), .pointer (some ⟨w.heap.size, 0, none⟩)] 75)) := Mv.alloc _ _ _
    have C1 := C0.mv A (fun _ h => h.elim)
    rw [e1] at C1
    have T := two_cells (w.alloc (.cells #[.int .i64 mo, .map none, .pointer none, .pointer none] 86)) (.pointer (some ⟨d.bp, 0, none⟩)) (.pointer (some ⟨w.heap.size, 0, none⟩)) 75
    rw [e1] at T
    have A0 : Mv (fun _ => False) w (w.alloc (.cells #[.int .i64 mo, .map none, .pointer none, .pointer none] 86)) := Mv.alloc _ _ _
    have tp := h.tp
    refine ⟨⟨w.heap.size, ra, rc, [], fun j => j < w.heap.size ∨ j = w.heap.size + 1, ⟨T.1, T.2, (h.mv A0 (fun _ h => h.elim)).mv A (fun _ h => h.elim), C1.mono (fun j hj => ?_), fun j hj => .inl (hY j hj).1, fun j hj => .inl (by omega), .inr rfl, fun j hj => .inl (h.reads.blk j (by rw [own_blk]; exact hj)).2, fun j hj => ?_, fun j hj => ⟨(hY j hj).2.1, (hY j hj).2.2.1, (hY j hj).2.2.2, by have := (hY j hj).1; omega⟩, ⟨by omega, fun e => by have := (h.reads.blk _ (by rw [own_blk]; exact e)).2; omega⟩, by simp; omega, fun p hp => by cases hp⟩, rfl⟩, ?_⟩
    · rcases hj with hj | hj
      · exact .inl hj
      · exact .inr (by omega)
    · simp
      omega
    · exact ((Below.refl _ w).alloc (Nat.le_refl _) _).alloc (by simp) _
  clear h e1
  go_enter Try.func25, Try.ntmps25
  go_wp2_with fail
  refine N.mono ?_
  rintro e w1 ⟨rfl, hw⟩
  obtain rfl := hw.symm
  clear hw N
  go_wp2_with fail
  go_ret
  exact ⟨rfl, fin⟩

theorem fnew_nil (mo : Int) (w : World) : Calls Try.prog 25 #[.pointer none, .int .i64 mo] w fun e w' => ∃ q, e = .returned (.pointer (some ⟨q, 0, none⟩)) ∧ w'.cell? ⟨q, 0, none⟩ = some (.pointer none) ∧ Hid (Below w.heap.size w w') := by
  have N := bnew mo w
  go_enter Try.func25, Try.ntmps25
  go_wp2_with fail
  refine N.mono ?_
  rintro e w1 ⟨rfl, hw⟩
  obtain rfl := hw.symm
  clear hw N
  have T := two_cells (w.alloc (.cells #[.int .i64 mo, .map none, .pointer none, .pointer none] 86)) (.pointer none) (.pointer (some ⟨w.heap.size, 0, none⟩)) 75
  rw [show (w.alloc (.cells #[.int .i64 mo, .map none, .pointer none, .pointer none] 86)).heap.size = w.heap.size + 1 by simp] at T
  have T1 : Hid _ := T
  clear T
  go_wp2_with fail
  go_ret
  exact ⟨w.heap.size + 1, rfl, T1.out.1, ((Below.refl _ w).alloc (Nat.le_refl _) _).alloc (by simp) _⟩

def cap (mo : Int) : Nat := (max mo 1).toNat
theorem cap_eq (mo : Int) : (cap mo : Int) = max mo 1 := by unfold cap; omega

/-- What a page that is told leaves. -/
def Got (w w' : World) (q : Nat) (d : Pd) (mo : Int) (l : List Int) (bad : Nat → Bool) (R : List Int) (Y : Nat → Prop) (i g : Nat) : Prop :=
  Fs w' q d mo l bad R Y ∧ Mv (fun j => ¬ Y j) w w' ∧ (∀ j, j < plen d i → w'.cell? ⟨g, j, none⟩ = some (.int .u8 (d.f (i * d.sz + j)))) ∧ ¬ Y g ∧ g < w'.heap.size

section
variable {w : World} {q : Nat} {d : Pd} {mo : Int} {l : List Int} {bad : Nat → Bool} {R : List Int} {Y : Nat → Prop}

theorem fits_nat {i : Nat} (h : i < 5000) : fits (i : Int) := WalkArith.wf_i64 (by omega)
theorem fpage_hit (h : Fs w q d mo l bad R Y) {i : Nat} (hi : (i : Int) ∈ l) :
    Calls Try.prog 50 #[.pointer (some ⟨q, 0, none⟩), .int .i64 i] w fun e w' => ∃ g, e = .returned (.slice (some ⟨g, 0, none⟩) (plen d i) (plen d i)) ∧ Hid (Got w w' q d mo (step (cap mo) l i) bad R Y i g) := by
  have hN := h.nodup
  have hsm := h.small
  obtain ⟨c, ra, rc, S, X, h, rfl⟩ := h
  cases hf : sfnd S (i : Int) with
  | none => exact (sfnd_none_iff.1 hf hi).elim
  | some p =>
    obtain ⟨hp, hk⟩ := sfnd_key hf
    obtain ⟨i', g, h1, h2, h3, h4, h5, h6, h7, h8⟩ := h.pg p hp
    obtain rfl : i' = i := by omega
    have L := bget_some h.C (fits_nat (by omega)) hf
    rw [h3] at L
    have hc := h.fk
    have fin : ∀ w', Hid (Ch w' c 2 mo (p :: sdel S i') X ∧ Mv (fun j => ¬ X j) w w') → Hid (Got w w' q d mo (step (cap mo) (ks S) i') bad R Y i' g) := by
      intro w' hw
      have hl := sdel_length h.C.nodup hf
      have hle := h.len
      refine ⟨⟨c, ra, rc, p :: sdel S i', X, h.cache hw.out.1 hw.out.2 ?_ ?_, ?_⟩, h.away hw.out.2, fun j hj => hw.out.2.cell (h8 j hj) (fun e => e h6), h7, Nat.lt_of_lt_of_le (h.xw g h6) hw.out.2.size⟩
      · rw [List.length_cons]; omega
      · intro p' hp'
        rcases List.mem_cons.1 hp' with rfl | hp'
        · exact h.pg _ hp
        · exact h.pg _ (List.mem_filter.1 hp').1
      · unfold step
        show p.1 :: ks (sdel S i') = _
        rw [ks_sdel, hk, List.take_of_length_le]
        have e1 := cap_eq mo
        rw [List.length_cons, ← ks_sdel, ks_length]
        omega
    clear h hf hN hsm hi h8 h7 h6 h5 h4
    generalize plen d i' = n at L ⊢
    go_enter Try.func50, Try.ntmps50
    go_wp2_with fail
    refine L.mono ?_
    rintro e w1 ⟨rfl, C⟩
    clear L
    go_wp2_with fail
    go_ret
    exact ⟨g, rfl, fin w1 C⟩
end
end Go.Proofs.Ytjlnmkoggobbgaa
