/- What extremes of lists have to do with each other. -/
import Derived.Test.YthfadeoanjjiaaaO1
namespace Go.Proofs.Ythfadeoanjjiaaa
open Go.RowKit Srt

theorem ord_both {side : Int} (hs : side = -1 ∨ side = 1) {x y : Nat} (h : ordB x y ≠ side) (k : ordB y x ≠ side) : ordB x y = 0 := by
  have a := ord_anti x y
  have t := ord_three x y
  omega

/-- Lists of the same numbers have the same one. -/
theorem ext_uniq {side : Int} (hs : side = -1 ∨ side = 1) {f g : Nat → Nat} {n m x y : Nat} {is iy : Bool} (h : Ext side f n x is) (k : Ext side g m y iy) (h1 : ∀ i, i < n → ∃ j, j < m ∧ g j = f i) (h2 : ∀ i, i < m → ∃ j, j < n ∧ f j = g i) : is = iy ∧ ordB x y = 0 := by
  rcases h with ⟨a1, a2, a3⟩ | ⟨a1, ⟨i, hi, a2⟩, a3, a4⟩ <;> rcases k with ⟨b1, b2, b3⟩ | ⟨b1, ⟨j, hj, b2⟩, b3, b4⟩
  · exact ⟨a1.trans b1.symm, by rw [a2, b2]; exact ordB_self _⟩
  · obtain ⟨i, hi, e⟩ := h2 j hj
    have := a3 i hi
    rw [e, ← b2, b3] at this; cases this
  · obtain ⟨j, hj, e⟩ := h1 i hi
    have := b3 j hj
    rw [e, ← a2, a3] at this; cases this
  · refine ⟨a1.trans b1.symm, ord_both hs ?_ ?_⟩
    · obtain ⟨j', hj', e⟩ := h1 i hi
      rw [a2, ← e]
      exact b4 j' hj' (by rw [e, ← a2]; exact a3)
    · obtain ⟨i', hi', e⟩ := h2 j hj
      rw [b2, ← e]
      exact a4 i' hi' (by rw [e, ← b2]; exact b3)

theorem ext_sides {f : Nat → Nat} {n x y : Nat} {is iy : Bool} (h : Ext (-1) f n x is) (k : Ext 1 f n y iy) : is = iy := by
  rcases h with ⟨a1, a2, a3⟩ | ⟨a1, ⟨i, hi, a2⟩, a3, a4⟩ <;> rcases k with ⟨b1, b2, b3⟩ | ⟨b1, ⟨j, hj, b2⟩, b3, b4⟩
  · exact a1.trans b1.symm
  · have := a3 j hj; rw [← b2, b3] at this; cases this
  · have := b3 i hi; rw [← a2, a3] at this; cases this
  · exact a1.trans b1.symm

theorem cat_lo (f g : Nat → Nat) {n i : Nat} (h : i < n) : cat f n g i = f i := by unfold cat; rw [if_pos h]
theorem cat_hi (f g : Nat → Nat) (n i : Nat) : cat f n g (n + i) = g i := by unfold cat; rw [if_neg (by omega), Nat.add_sub_cancel_left]

theorem ext_twice {side : Int} (hs : side = -1 ∨ side = 1) {f : Nat → Nat} {n x y : Nat} {is iy : Bool} (h : Ext side f n x is) (k : Ext side (cat f n f) (n + n) y iy) : is = iy ∧ ordB x y = 0 := by
  refine ext_uniq hs h k (fun i hi => ⟨i, by omega, cat_lo f f hi⟩) (fun i hi => ?_)
  by_cases e : i < n
  · exact ⟨i, e, (cat_lo f f e).symm⟩
  · refine ⟨i - n, by omega, ?_⟩
    have := cat_hi f f n (i - n)
    rw [show n + (i - n) = i from by omega] at this
    exact this.symm

/-- Two lists together. -/
theorem ext_cat {side : Int} (hs : side = -1 ∨ side = 1) {f g : Nat → Nat} {n k x y z : Nat} {is iy iz : Bool} (h1 : Ext side f n x is) (h2 : Ext side g k y iy) (h3 : Ext side (cat f n g) (n + k) z iz) :
    iz = (is || iy) ∧ (is = true → (iy = true → ordB y x ≠ side) → ordB z x = 0) ∧ (iy = true → (is = true → ordB y x = side) → ordB z y = 0) := by
  have lo : ∀ i, i < n → Fl.nan (f i) = false → iz = true → ordB (f i) z ≠ side := by
    intro i hi hn hz
    rcases h3 with ⟨c1, _⟩ | ⟨_, _, _, c4⟩
    · rw [c1] at hz; cases hz
    · have := c4 i (by omega); rw [cat_lo f g hi] at this; exact this hn
  have hi : ∀ i, i < k → Fl.nan (g i) = false → iz = true → ordB (g i) z ≠ side := by
    intro i hi hn hz
    rcases h3 with ⟨c1, _⟩ | ⟨_, _, _, c4⟩
    · rw [c1] at hz; cases hz
    · have := c4 (n + i) (by omega); rw [cat_hi] at this; exact this hn
  have inn : iz = true → (∃ i, i < n ∧ z = f i) ∨ ∃ i, i < k ∧ z = g i := by
    intro hz
    rcases h3 with ⟨c1, _⟩ | ⟨_, ⟨i, hi, c2⟩, _, _⟩
    · rw [c1] at hz; cases hz
    · by_cases e : i < n
      · exact .inl ⟨i, e, by rw [c2, cat_lo f g e]⟩
      · refine .inr ⟨i - n, by omega, ?_⟩
        rw [c2, ← cat_hi f g n (i - n), show n + (i - n) = i from by omega]
  have nz : iz = true → Fl.nan z = false := by
    intro hz
    rcases h3 with ⟨c1, _⟩ | ⟨_, _, c3, _⟩
    · rw [c1] at hz; cases hz
    · exact c3
  have e : iz = (is || iy) := by
    cases hz : iz
    · rcases h3 with ⟨_, _, c3⟩ | ⟨c1, _⟩
      · rcases h1 with ⟨a1, _⟩ | ⟨_, ⟨i, hi, a2⟩, a3, _⟩
        · rcases h2 with ⟨b1, _⟩ | ⟨_, ⟨i, hi, b2⟩, b3, _⟩
          · rw [a1, b1]; rfl
          · have := c3 (n + i) (by omega); rw [cat_hi, ← b2, b3] at this; cases this
        · have := c3 i (by omega); rw [cat_lo f g hi, ← a2, a3] at this; cases this
      · rw [hz] at c1; cases c1
    · rcases inn hz with ⟨i, hi, e⟩ | ⟨i, hi, e⟩
      · rcases h1 with ⟨_, _, a3⟩ | ⟨a1, _⟩
        · have := a3 i hi; rw [← e, nz hz] at this; cases this
        · rw [a1]; rfl
      · rcases h2 with ⟨_, _, b3⟩ | ⟨b1, _⟩
        · have := b3 i hi; rw [← e, nz hz] at this; cases this
        · rw [b1]; cases is <;> rfl
  refine ⟨e, ?_, ?_⟩
  · intro his hy
    have hz : iz = true := by rw [e, his]; rfl
    rcases h1 with ⟨a1, _⟩ | ⟨_, ⟨i, hi1, a2⟩, a3, a4⟩
    · rw [a1] at his; cases his
    · have p1 : ordB x z ≠ side := by rw [a2]; exact lo i hi1 (by rw [← a2]; exact a3) hz
      refine ord_both hs ?_ p1
      rcases inn hz with ⟨j, hj, e2⟩ | ⟨j, hj, e2⟩
      · rw [e2]; exact a4 j hj (by rw [← e2]; exact nz hz)
      · rcases h2 with ⟨_, _, b3⟩ | ⟨b1, ⟨j', hj', b2⟩, b3, b4⟩
        · have := b3 j hj; rw [← e2, nz hz] at this; cases this
        · have q1 : ordB z y ≠ side := by rw [e2]; exact b4 j hj (by rw [← e2]; exact nz hz)
          intro c
          have q2 := hy b1
          -- z stands on that side of x, y does not: then z stands so to y
          unfold ordB cmpI at *
          rcases hs with rfl | rfl <;> (repeat' split at *) <;> omega
  · intro hiy hx
    have hz : iz = true := by rw [e, hiy]; cases is <;> rfl
    rcases h2 with ⟨b1, _⟩ | ⟨_, ⟨i, hi1, b2⟩, b3, b4⟩
    · rw [b1] at hiy; cases hiy
    · have p1 : ordB y z ≠ side := by rw [b2]; exact hi i hi1 (by rw [← b2]; exact b3) hz
      refine ord_both hs ?_ p1
      rcases inn hz with ⟨j, hj, e2⟩ | ⟨j, hj, e2⟩
      · rcases h1 with ⟨_, _, a3⟩ | ⟨a1, ⟨j', hj', a2⟩, a3, a4⟩
        · have := a3 j hj; rw [← e2, nz hz] at this; cases this
        · have q1 : ordB z x ≠ side := by rw [e2]; exact a4 j hj (by rw [← e2]; exact nz hz)
          have q2 := hx a1
          exact ord_side hs q1 q2
      · rw [e2]; exact b4 j hj (by rw [← e2]; exact nz hz)

theorem sumO_congr {f g : Nat → Nat} {n : Nat} (h : ∀ i, i < n → g i = f i) : sumO g n = sumO f n := by
  induction n with
  | zero => rfl
  | succ n ih => unfold sumO; rw [ih (fun i hi => h i (by omega)), h n (by omega)]
/-- A sum goes on from what it was. -/
theorem sum_more {f : Nat → Nat} {n x r s t : Nat} (hr : Got (sumO (cat f n (at' [x])) (n + 1)) r) (hs : Got (sumO f n) s) (ht : Got (Ieee.double.add s x) t) : (ordB r t == 0) = true := by
  have e : sumO (cat f n (at' [x])) (n + 1) = (sumO f n).bind fun s => Ieee.double.add s x := by
    have h0 : cat f n (at' [x]) n = x := by have := cat_hi f (at' [x]) n 0; rw [Nat.add_zero] at this; exact this
    rw [sumO, h0, sumO_congr (fun i hi => cat_lo f _ hi)]
  rw [e] at hr
  rw [hr.same (hs.next ht)]
  rfl
theorem same_true {x y : Nat} (h : ordB x y = 0) : (ordB x y == 0) = true := by rw [h]; rfl

end Go.Proofs.Ythfadeoanjjiaaa
