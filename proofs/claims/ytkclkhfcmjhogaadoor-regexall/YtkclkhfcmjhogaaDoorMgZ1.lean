/- Which places a match leads to: matrices of bits, and one step of a row of bits. -/
import Derived.Test.YtkclkhfcmjhogaaDoorMgT2
namespace Go.Proofs.YtkclkhfcmjhogaaDoor
open Go.RowKit
set_option linter.unusedVariables false

abbrev Mat := Nat → Nat → Bool
/-- From one place to the next, over a byte of a set. -/
def setM (p : Nat → Bool) (b : Nat → Nat) (n : Nat) : Mat := fun i j => decide (i < n) && (p (b i) && (j == i + 1))
def idM : Mat := fun i j => j == i
def orM (f g : Mat) : Mat := fun i j => f i j || g i j
def thenM (N : Nat) (f g : Mat) : Mat := fun i j => (List.range N).any (fun k => f i k && g k j)
/-- Any number of matches, so many steps at most. -/
def stM (N : Nat) (f : Mat) : Nat → Mat
  | 0 => idM
  | t + 1 => fun i j => (j == i) || (List.range N).any (fun k => (f i k && !(k == i)) && stM N f t k j)
def starM (N : Nat) (f : Mat) : Mat := stM N f N
/-- Matches go forward, within the places. -/
def Fwd (N : Nat) (f : Mat) : Prop := ∀ i j, f i j = true → i ≤ j ∧ (i < N → j < N)
theorem setM_fwd (p : Nat → Bool) (b : Nat → Nat) (n : Nat) : Fwd (n + 1) (setM p b n) := by
  intro i j h
  unfold setM at h
  simp at h
  omega
theorem idM_fwd (N : Nat) : Fwd N idM := by intro i j h; unfold idM at h; simp at h; omega
theorem orM_fwd {N : Nat} {f g : Mat} (hf : Fwd N f) (hg : Fwd N g) : Fwd N (orM f g) := by
  intro i j h
  unfold orM at h
  rcases Bool.or_eq_true _ _ ▸ h with h | h
  · exact hf i j h
  · exact hg i j h
theorem any_range {N : Nat} {q : Nat → Bool} : (List.range N).any q = true ↔ ∃ k, k < N ∧ q k = true := by
  rw [List.any_eq_true]; simp
theorem thenM_true {N : Nat} {f g : Mat} {i j : Nat} : thenM N f g i j = true ↔ ∃ k, k < N ∧ f i k = true ∧ g k j = true := by
  unfold thenM; rw [any_range]; simp
theorem thenM_fwd {N : Nat} {f g : Mat} (hf : Fwd N f) (hg : Fwd N g) : Fwd N (thenM N f g) := by
  intro i j h
  obtain ⟨k, hk, h1, h2⟩ := thenM_true.1 h
  have a := hf i k h1
  have b := hg k j h2
  exact ⟨by omega, fun hi => b.2 hk⟩
theorem stM_succ {N : Nat} {f : Mat} {t i j : Nat} : stM N f (t + 1) i j = true ↔ j = i ∨ ∃ k, k < N ∧ f i k = true ∧ k ≠ i ∧ stM N f t k j = true := by
  rw [stM, Bool.or_eq_true, any_range]
  simp only [beq_iff_eq, Bool.and_eq_true, Bool.not_eq_true', beq_eq_false_iff_ne]
  constructor
  · rintro (h | ⟨k, h1, ⟨h2, h3⟩, h4⟩)
    · exact .inl h
    · exact .inr ⟨k, h1, h2, h3, h4⟩
  · rintro (h | ⟨k, h1, h2, h3, h4⟩)
    · exact .inl h
    · exact .inr ⟨k, h1, ⟨h2, h3⟩, h4⟩
theorem stM_fwd {N : Nat} {f : Mat} (hf : Fwd N f) : ∀ t, Fwd N (stM N f t)
  | 0 => idM_fwd N
  | t + 1 => by
    intro i j h
    rcases stM_succ.1 h with rfl | ⟨k, hk, h1, h2, h3⟩
    · exact ⟨Nat.le_refl _, id⟩
    · have a := hf i k h1
      have b := stM_fwd hf t k j h3
      exact ⟨by omega, fun _ => b.2 hk⟩
/-- Enough steps are enough. -/
theorem stM_more {N : Nat} {f : Mat} (hf : Fwd N f) : ∀ (d t u i j : Nat), N ≤ i + d + 1 → d ≤ t → d ≤ u → stM N f t i j = true → stM N f u i j = true
  | 0, t, u, i, j, h, _, _, hs => by
    have he : j = i := by
      cases t with
      | zero => unfold stM idM at hs; simpa using hs
      | succ t =>
        rcases stM_succ.1 hs with e | ⟨k, hk, h1, h2, h3⟩
        · exact e
        · have := (hf i k h1).1; omega
    subst he
    cases u with
    | zero => unfold stM idM; simp
    | succ u => exact stM_succ.2 (.inl rfl)
  | d + 1, 0, u, i, j, h, ht, _, hs => by omega
  | d + 1, t, 0, i, j, h, _, hu, hs => by omega
  | d + 1, t + 1, u + 1, i, j, h, ht, hu, hs => by
    rcases stM_succ.1 hs with e | ⟨k, hk, h1, h2, h3⟩
    · exact stM_succ.2 (.inl e)
    · have := (hf i k h1).1
      exact stM_succ.2 (.inr ⟨k, hk, h1, h2, stM_more hf d t u k j (by omega) (by omega) (by omega) h3⟩)
/-- A star, one step on. -/
theorem starM_step {N : Nat} {f : Mat} (hf : Fwd N f) {i j : Nat} (hi : i < N) : starM N f i j = ((j == i) || (List.range N).any (fun k => (f i k && !(k == i)) && starM N f k j)) := by
  unfold starM
  obtain ⟨M, rfl⟩ : ∃ M, N = M + 1 := ⟨N - 1, by omega⟩
  rw [Bool.eq_iff_iff, stM_succ, Bool.or_eq_true, any_range]
  simp only [beq_iff_eq, Bool.and_eq_true, Bool.not_eq_true', beq_eq_false_iff_ne]
  constructor
  · rintro (h | ⟨k, h1, h2, h3, h4⟩)
    · exact .inl h
    · have := (hf i k h2).1
      exact .inr ⟨k, h1, ⟨h2, h3⟩, stM_more hf (M - k) M (M + 1) k j (by omega) (by omega) (by omega) h4⟩
  · rintro (h | ⟨k, h1, ⟨h2, h3⟩, h4⟩)
    · exact .inl h
    · have := (hf i k h2).1
      exact .inr ⟨k, h1, h2, h3, stM_more hf (M - k) (M + 1) M k j (by omega) (by omega) (by omega) h4⟩
theorem starM_fwd {N : Nat} {f : Mat} (hf : Fwd N f) : Fwd N (starM N f) := stM_fwd hf N

/-- The lowest one of a row of bits is taken off. -/
theorem limb_clear {P : Nat → Bool} {k : Nat} (hk : k < 64) (hp : P k = true) (hl : ∀ c, c < k → P c = false) : limb P 0 &&& (limb P 0 - 1) = limb (fun c => P c && !(c == k)) 0 := by
  have hb : ∀ j, (limb P 0).testBit j = (decide (j < 64) && P j) := fun j => by rw [limb_bit']; simp
  have hm : limb P 0 % 2 ^ (k + 1) = 2 ^ k := by
    apply Nat.eq_of_testBit_eq
    intro j
    rw [Nat.testBit_mod_two_pow, hb, Nat.testBit_two_pow]
    by_cases h1 : j < k
    · rw [hl j h1]; simp; omega
    · by_cases h2 : j = k
      · subst h2; simp [hp, hk]
      · rw [decide_eq_false (show ¬ j < k + 1 by omega), decide_eq_false (show ¬ k = j by omega)]; rfl
  have hx : limb P 0 = 2 ^ (k + 1) * (limb P 0 / 2 ^ (k + 1)) + 2 ^ k := by
    have := Nat.div_add_mod (limb P 0) (2 ^ (k + 1))
    rw [hm] at this
    exact this.symm
  have h2k : 2 ^ k < 2 ^ (k + 1) := Nat.pow_lt_pow_right (by omega) (by omega)
  have hpos : 0 < 2 ^ k := Nat.two_pow_pos k
  have hx1 : limb P 0 - 1 = 2 ^ (k + 1) * (limb P 0 / 2 ^ (k + 1)) + (2 ^ k - 1) := by omega
  apply Nat.eq_of_testBit_eq
  intro j
  rw [Nat.testBit_and, hb, hx1, Nat.testBit_two_pow_mul_add _ (by omega), limb_bit']
  by_cases h1 : j < k + 1
  · rw [if_pos h1, Nat.testBit_two_pow_sub_one]
    by_cases h3 : j < k
    · simp [hl j h3]
    · obtain rfl : j = k := by omega
      simp
  · rw [if_neg h1]
    have h4 : (limb P 0).testBit j = (limb P 0 / 2 ^ (k + 1)).testBit (j - (k + 1)) := by
      conv => lhs; rw [hx]
      rw [Nat.testBit_two_pow_mul_add _ h2k, if_neg h1]
    rw [← h4, hb]
    have h5 : (j == k) = false := by simp; omega
    simp [h5]

end Go.Proofs.YtkclkhfcmjhogaaDoor
