/- Rows of places: again. -/
import Derived.Test.YtkclkhfcmjhogaaDoorZ4
namespace Go.Proofs.YtkclkhfcmjhogaaDoor
open Go.RowKit
set_option linter.unusedVariables false

/-- The rows from i on. -/
def fromM (S : Mat) (i : Nat) : Mat := fun r j => decide (i ≤ r) && S r j
/-- While a row of places is filled from its end. -/
structure Rb (w wr : World) (g N : Nat) (S : Mat) (i : Nat) : Prop where
  own : Own wr w.heap.size 23 (.slice (some ⟨g, 0, none⟩) N N) N (Ux (fromM S i))
  qt : Qt w wr
theorem limb_congr0 {p q : Nat → Bool} (h : ∀ k, p k = q k) : limb p 0 = limb q 0 := by rw [show p = q from funext h]
theorem Rb.start (w : World) (N : Nat) (S : Mat) (hN : N < 100000) : (Instr.makeSlice 65 (.int .i64 N) (.int .i64 N)).run Tryd.prog w = .ok (.slice (some ⟨w.heap.size, 0, none⟩) N N) (w.alloc (.cells (madeCells #[.int .u64 0] N) 23)) ∧ Hid (Rb w (w.alloc (.cells (madeCells #[.int .u64 0] N) 23)) w.heap.size N S N) := by
  obtain ⟨h1, h2⟩ := made 65 23 Tryd.t23 (.int .u64 0) 8 Tryd.underlying65 info23 zero23 size23 bytes23 rfl (by decide) N hN w w.heap.size (Nat.le_refl _)
  refine ⟨h1, h2.congr (fun r hr => ?_), Mv.alloc _ _ _⟩
  unfold Ux
  rw [limb_congr0 (q := fun _ => false) (fun k => by unfold fromM; rw [decide_eq_false (by omega)]; rfl), limb_none]
  rfl
theorem Rb.put {w wr : World} {g N : Nat} {S : Mat} {i : Nat} (h : Rb w wr g N S (i + 1)) : Rb w (wr.setCell ⟨g, i, none⟩ (Ux S i)) g N S i := by
  have hb := (h.own.blk g rfl).1
  refine ⟨?_, Mv.trans h.qt (Mv.setCell wr ⟨g, i, none⟩ _) (fun j hj e => by simp at e; omega)⟩
  have h1 := (World.ownsRow.stored h.own i (Ux S i)).1
  rw [row_set] at h1
  refine Own.congr h1 (fun r hr => ?_)
  by_cases e : r = i
  · rw [if_pos e, e]
    unfold Ux
    rw [limb_congr0 (p := fromM S i i) (q := S i) (fun k => by unfold fromM; rw [decide_eq_true (Nat.le_refl _)]; rfl)]
  · rw [if_neg e]
    unfold Ux
    rw [limb_congr0 (p := fromM S (i + 1) r) (q := fromM S i r) (fun k => by
      unfold fromM
      by_cases h2 : i + 1 ≤ r
      · rw [decide_eq_true h2, decide_eq_true (show i ≤ r by omega)]
      · rw [decide_eq_false h2, decide_eq_false (show ¬ i ≤ r by omega)])]
theorem Rb.done {w wr : World} {g N : Nat} {S : Mat} (h : Rb w wr g N S 0) : Own wr w.heap.size 23 (.slice (some ⟨g, 0, none⟩) N N) N (Ux S) :=
  Own.congr h.own (fun r hr => by
    unfold Ux
    rw [limb_congr0 (p := fromM S 0 r) (q := S r) (fun k => by unfold fromM; rw [decide_eq_true (Nat.zero_le _)]; rfl)])
/-- One row of a star, out of those behind it. -/
theorem star_row {N : Nat} {f : Mat} (hf : Fwd N f) {i : Nat} (hi : i < N) : limb (fun j => (j == i) || endsP N (fromM (starM N f) (i + 1)) (fun k => f i k && !(k == i)) j) 0 = limb (starM N f i) 0 := by
  refine limb_congr0 (fun j => ?_)
  rw [starM_step hf hi]
  congr 1
  unfold endsP
  rw [Bool.eq_iff_iff, any_range, any_range]
  constructor
  · rintro ⟨k, h1, h2⟩
    unfold fromM at h2
    simp only [Bool.and_eq_true] at h2 ⊢
    exact ⟨k, h1, h2.1, h2.2.2⟩
  · rintro ⟨k, h1, h2⟩
    unfold fromM
    simp only [Bool.and_eq_true, Bool.not_eq_true', beq_eq_false_iff_ne, decide_eq_true_eq] at h2 ⊢
    have := (hf i k h2.1.1).1
    exact ⟨k, h1, h2.1, by omega, h2.2⟩
theorem bits_not1 (P : Nat → Bool) (i : Nat) (hi : i < 64) : bits .andNot .u64 (limb P 0 : Int) ((limb (fun j => j == i) 0 : Nat) : Int) = ((limb (fun k => P k && !(k == i)) 0 : Nat) : Int) := by
  have h := u64_andNot_nat (limb P 0) (limb (fun j => j == i) 0) (limb_lt _ _) (limb_lt _ _)
  rw [limb_not, limb_and] at h
  exact h

set_option maxHeartbeats 2000000 in
theorem againX_any (N : Nat) (f : Mat) (a : Option Addr) (c : Nat) (w : World) (hN : N ≤ 61) (hF : Fwd N f) (hf : Hid (Sl w a N (Ux f))) (hT : Hid (Tab w)) :
    Calls Tryd.prog 64 #[.slice a N c] w fun e w' => Tm w N (starM N f) e w' := by
  obtain ⟨hmk, B0⟩ := Rb.start w N (starM N f) (by omega)
  have HN : Hid (N ≤ 61) := hN
  have HFW : Hid (Fwd N f) := hF
  have hNi : (N : Int) ≤ 61 := by omega
  clear hN hF
  go_enter Tryd.func64, Tryd.ntmps64
  go_wp2_with fail
  obtain ⟨g, hg⟩ : ∃ g, g = w.heap.size := ⟨_, rfl⟩
  rw [← hg] at B0
  rw [← hg]
  clear hg hmk
  generalize w.alloc (.cells (madeCells #[.int .u64 0] N) 23) = W0 at *
  go_loopw [4] (fun s4 wr => ∃ i : Nat, i ≤ N ∧ s4 = .int .i64 ((i : Int) - 1) ∧ Hid (Rb w wr g N (starM N f) i)) (fun s4 _ => (intOf s4 + 1).toNat)
  case atStart => exact ⟨N, by omega, rfl, B0⟩
  case round =>
    obtain ⟨i, hi, rfl, B⟩ := hrel
    cases i with
    | zero =>
      go_wp2_with fail
      go_ret
      exact ⟨g, rfl, B.out.done, B.out.qt⟩
    | succ i =>
      obtain ⟨b1, o1, ha, k1⟩ := (hf.out.mv B.out.qt (fun _ _ h => h)).cellx (i := i) (by omega)
      subst ha
      obtain ⟨k3, k4⟩ := B.out.own.at (i := i) (by omega)
      have hends := ends_any N (fromM (starM N f) (i + 1)) (fun k => f i k && !(k == i)) (some ⟨g, 0, none⟩) N wr HN.out (fun k hk => (HFW.out i k (by simp at hk; exact hk.1)).2 (by omega)) (by
        obtain ⟨a3, c3, h3, h4, _⟩ := B.out.own.sl
        cases h3
        exact h4) (hT.out.qt B.out.qt)
      have BN : Hid _ := B.out.put
      have hst := star_row HFW.out (i := i) (by omega)
      have hux : Ux (starM N f) i = .int .u64 ((limb (fun j => (j == i) || endsP N (fromM (starM N f) (i + 1)) (fun k => f i k && !(k == i)) j) 0 : Nat) : Int) := by unfold Ux; rw [hst]
      rw [hux] at BN
      have hor := bits_orL (fun j => j == i) (endsP N (fromM (starM N f) (i + 1)) (fun k => f i k && !(k == i)))
      have han := bits_not1 (f i) i (by have := HN.out; omega)
      have hsh := shl_one i (by have := HN.out; omega)
      have hii : ((i + 1 : Nat) : Int) - 1 = (i : Int) := by omega
      rw [hii]
      clear hux hst
      generalize Ux (fromM (starM N f) (i + 1)) i = z0 at k3
      generalize limb (fun j => (j == i) || endsP N (fromM (starM N f) (i + 1)) (fun k => f i k && !(k == i)) j) 0 = z at *
      generalize limb (endsP N (fromM (starM N f) (i + 1)) (fun k => f i k && !(k == i))) 0 = y at *
      generalize limb (fun k => f i k && !(k == i)) 0 = x2 at *
      generalize limb (fun j => j == i) 0 = h0 at *
      generalize limb (f i) 0 = x at *
      go_wp2_with fail
      refine hends.mono ?_
      rintro e1 w1 ⟨rfl, hw1⟩
      obtain rfl := hw1.symm
      go_wp2_with fail
      refine ⟨⟨i, by omega, by go_num, BN⟩, by simp [intOf]⟩

end Go.Proofs.YtkclkhfcmjhogaaDoor
