/- Quotients of whole numbers, rounded once: what the word is. -/
import Derived.Test.YthfadeoanjjiaaaEx
namespace Go.Proofs.Ythfadeoanjjiaaa.Fl
open Ieee Go

/-- p / q to the nearest whole number, between two the even one. -/
def rne (p q : Nat) : Nat := p / q + if q < 2 * (p % q) ∨ q = 2 * (p % q) ∧ p / q % 2 = 1 then 1 else 0

theorem rne_low (p q : Nat) : p / q ≤ rne p q ∧ rne p q ≤ p / q + 1 := by
  unfold rne
  split <;> omega
theorem rne_exact (k q : Nat) (hq : 0 < q) : rne (k * q) q = k := by
  unfold rne
  rw [Nat.mul_mod_left, Nat.mul_div_cancel _ hq, if_neg (by omega)]
  rfl
theorem rne_scale (c p q : Nat) (hc : 0 < c) : rne (c * p) (c * q) = rne p q := by
  unfold rne
  rw [Nat.mul_div_mul_left _ _ hc, Nat.mul_mod_mul_left]
  have e1 : c * q < 2 * (c * (p % q)) ↔ q < 2 * (p % q) := by
    rw [Nat.mul_left_comm]
    exact Nat.mul_lt_mul_left hc
  have e2 : c * q = 2 * (c * (p % q)) ↔ q = 2 * (p % q) := by
    rw [Nat.mul_left_comm]
    exact ⟨fun h => Nat.eq_of_mul_eq_mul_left hc h, fun h => congrArg (fun x => c * x) h⟩
  simp only [e1, e2]

theorem cut_even (neg : Bool) (n drop : Nat) (h : drop ≤ n.log2 + 2) : Toward.even.cut neg n drop = rne n (2 ^ drop) := by
  unfold Toward.cut rne
  rw [Nat.min_eq_left h, Nat.one_shiftLeft]
  simp only
  congr 1
  by_cases h1 : 2 ^ drop < 2 * (n % 2 ^ drop)
  · simp [h1]
  · by_cases h2 : 2 ^ drop = 2 * (n % 2 ^ drop) ∧ n / 2 ^ drop % 2 = 1
    · rw [if_pos (.inr h2)]
      have a := h2.1
      have b := h2.2
      rw [← a, b]
      simp
    · rw [if_neg (by rintro (h | h); exact h1 h; exact h2 h)]
      have : (decide (2 ^ drop < 2 * (n % 2 ^ drop)) || (2 ^ drop == 2 * (n % 2 ^ drop) && n / 2 ^ drop % 2 == 1)) = false := by
        rw [Bool.or_eq_false_iff]
        refine ⟨decide_eq_false h1, ?_⟩
        rw [Bool.and_eq_false_iff]
        by_cases h3 : 2 ^ drop = 2 * (n % 2 ^ drop)
        · right
          rw [beq_eq_false_iff_ne]
          intro h4
          exact h2 ⟨h3, h4⟩
        · left
          rw [beq_eq_false_iff_ne]
          exact h3
      rw [this]
      rfl

/-- The digit more tells enough of what is left over. -/
theorem sticky (X M g : Nat) (hM : 0 < M) (hg : 0 < g) : rne (2 * (X / M) + (X % M != 0).toNat) (2 * (2 * g)) = rne X (M * (2 * g)) := by
  have hs : (X % M != 0).toNat ≤ 1 := by cases X % M != 0 <;> decide
  have hs2 : (X % M != 0).toNat = 0 ↔ X % M = 0 := by
    by_cases h : X % M = 0
    · simp [h]
    · simp [h]
  have ht : X % M < M := Nat.mod_lt _ hM
  have hd : X / (M * (2 * g)) = X / M / (2 * g) := (Nat.div_div_eq_div_mul X M (2 * g)).symm
  have hm : X % (M * (2 * g)) = X % M + M * (X / M % (2 * g)) := Nat.mod_mul
  have hu : X / M % (2 * g) < 2 * g := Nat.mod_lt _ (by omega)
  unfold rne
  generalize hsv : (X % M != 0).toNat = s at *
  generalize X / M = Q at *
  generalize X % M = t at *
  have e1 : (2 * Q + s) / (2 * (2 * g)) = Q / (2 * g) := by
    rw [← Nat.div_div_eq_div_mul, show (2 * Q + s) / 2 = Q from by omega]
  have e2 : (2 * Q + s) % (2 * (2 * g)) = 2 * (Q % (2 * g)) + s := by
    rw [Nat.mod_mul, show (2 * Q + s) / 2 = Q from by omega, show (2 * Q + s) % 2 = s from by omega]
    omega
  rw [e1, e2, hd, hm]
  generalize Q / (2 * g) = L at *
  generalize Q % (2 * g) = u at *
  congr 1
  have a1 : 2 * (2 * g) < 2 * (2 * u + s) ↔ M * (2 * g) < 2 * (t + M * u) := by
    rcases Nat.lt_trichotomy u g with h | h | h
    · have : M * (u + 1) ≤ M * g := Nat.mul_le_mul_left _ h
      rw [Nat.mul_add, Nat.mul_one] at this
      have e : M * (2 * g) = 2 * (M * g) := by rw [Nat.mul_left_comm]
      constructor <;> intro k <;> omega
    · subst h
      have e : M * (2 * u) = 2 * (M * u) := by rw [Nat.mul_left_comm]
      constructor <;> intro k <;> omega
    · have : M * (g + 1) ≤ M * u := Nat.mul_le_mul_left _ h
      rw [Nat.mul_add, Nat.mul_one] at this
      have e : M * (2 * g) = 2 * (M * g) := by rw [Nat.mul_left_comm]
      constructor <;> intro k <;> omega
  have a2 : 2 * (2 * g) = 2 * (2 * u + s) ↔ M * (2 * g) = 2 * (t + M * u) := by
    rcases Nat.lt_trichotomy u g with h | h | h
    · have : M * (u + 1) ≤ M * g := Nat.mul_le_mul_left _ h
      rw [Nat.mul_add, Nat.mul_one] at this
      have e : M * (2 * g) = 2 * (M * g) := by rw [Nat.mul_left_comm]
      constructor <;> intro k <;> omega
    · subst h
      have e : M * (2 * u) = 2 * (M * u) := by rw [Nat.mul_left_comm]
      constructor <;> intro k <;> omega
    · have : M * (g + 1) ≤ M * u := Nat.mul_le_mul_left _ h
      rw [Nat.mul_add, Nat.mul_one] at this
      have e : M * (2 * g) = 2 * (M * g) := by rw [Nat.mul_left_comm]
      constructor <;> intro k <;> omega
  simp only [a1, a2]

theorem log2_of {n k : Nat} (h1 : 2 ^ k ≤ n) (h2 : n < 2 ^ (k + 1)) : n.log2 = k := by
  have h0 : n ≠ 0 := by have := Nat.two_pow_pos k; omega
  have a := (Nat.log2_lt h0).2 h2
  have b : k ≤ n.log2 := (Nat.le_log2 h0).2 h1
  omega
theorem log2_kept {n : Nat} (h0 : 0 < n) (h : n < 9007199254740992) : (kept n).log2 = 52 := by
  have := kept_range h0 h
  exact log2_of (by omega) (by omega)

/-- The word of a quotient, before it is asked where it lies. -/
theorem quo_nearest {n m : Nat} (hn0 : 0 < n) (hn : n < 9007199254740992) (hm0 : 0 < m) (hm : m < 9007199254740992) :
    quoW n m = double.nearest false (2 * (kept n * 2 ^ 54 / kept m) + (kept n * 2 ^ 54 % kept m != 0).toNat) ((n.log2 : Int) - m.log2 - 55) := by
  have hk := kept_range hm0 hm
  have e := div_some hn hm0 hm
  unfold Format.div at e
  rw [read_fN hm0 hm, read_fN hn0 hn] at e
  simp only [Datum.quotient] at e
  rw [if_neg (by omega)] at e
  simp only [Option.map_some, Option.some.injEq, log2_kept hm0 hm, log2_kept hn0 hn, Nat.shiftLeft_eq] at e
  rw [← e]
  show double.nearest _ _ _ = _
  have e1 : double.fractionBits + 2 + 52 - 52 = 54 := rfl
  rw [e1]
  have e2 : ((n.log2 : Int) - 52 - ((m.log2 : Int) - 52) - ((54 : Nat) : Int) - 1) = (n.log2 : Int) - m.log2 - 55 := by omega
  rw [e2]
  rfl

theorem nearest_far (mag : Nat) (place : Int) (l : Nat) (h0 : mag ≠ 0) (hl : mag.log2 = l) (h1 : 52 ≤ l) (h2 : l ≤ 100) (hp : -200 ≤ place) (hp2 : place ≤ 200) :
    double.nearest false mag place = min ((place + l - 52 + 1074).toNat * 4503599627370496 + rne mag (2 ^ (l - 52))) 9218868437227405312 := by
  unfold Format.nearest
  rw [if_neg h0]
  simp only [bin, ir, lp, hl]
  have e : max (place + (l : Int) - double.fractionBits) (-1074) = place + l - 52 := by
    show max (place + (l : Int) - (52 : Nat)) (-1074) = _
    omega
  rw [e]
  have e1 : (place - (place + (l : Int) - 52)).toNat = 0 := by omega
  have e2 : (place + (l : Int) - 52 - place).toNat = l - 52 := by omega
  have e3 : (place + (l : Int) - 52 - -1074) = place + l - 52 + 1074 := by omega
  rw [e1, e2, e3, Nat.shiftLeft_zero, cut_even _ _ _ (by omega)]
  unfold Format.word
  simp

theorem quo_form {n m : Nat} (hn0 : 0 < n) (hn : n < 9007199254740992) (hm0 : 0 < m) (hm : m < 9007199254740992) :
    (kept m ≤ kept n ∧ quoW n m + m.log2 * 4503599627370496 = (1022 + n.log2) * 4503599627370496 + rne (kept n * 4503599627370496) (kept m)) ∨
    (kept n < kept m ∧ quoW n m + (m.log2 + 1) * 4503599627370496 = (1022 + n.log2) * 4503599627370496 + rne (kept n * 9007199254740992) (kept m)) := by
  have kn := kept_range hn0 hn
  have km := kept_range hm0 hm
  have ln := log2_le hn0 hn
  have lm := log2_le hm0 hm
  rw [quo_nearest hn0 hn hm0 hm]
  have hs : (kept n * 2 ^ 54 % kept m != 0).toNat ≤ 1 := by cases kept n * 2 ^ 54 % kept m != 0 <;> decide
  by_cases hc : kept m ≤ kept n
  · left
    refine ⟨hc, ?_⟩
    have q1 : 18014398509481984 ≤ kept n * 2 ^ 54 / kept m := by
      rw [Nat.le_div_iff_mul_le (by omega)]
      omega
    have q2 : kept n * 2 ^ 54 / kept m < 36028797018963968 := by
      rw [Nat.div_lt_iff_lt_mul (by omega)]
      omega
    have hl : (2 * (kept n * 2 ^ 54 / kept m) + (kept n * 2 ^ 54 % kept m != 0).toNat).log2 = 55 := log2_of (by omega) (by omega)
    rw [nearest_far _ _ 55 (by omega) hl (by omega) (by omega) (by omega) (by omega)]
    have st := sticky (kept n * 2 ^ 54) (kept m) 2 (by omega) (by omega)
    rw [show (2 : Nat) ^ (55 - 52) = 2 * (2 * 2) from rfl, st]
    have sc := rne_scale 4 (kept n * 4503599627370496) (kept m) (by omega)
    rw [show kept n * 2 ^ 54 = 4 * (kept n * 4503599627370496) from by omega, show kept m * (2 * 2) = 4 * kept m from by omega, sc]
    have r := rne_low (kept n * 4503599627370496) (kept m)
    have r2 : kept n * 4503599627370496 / kept m < 9007199254740992 := by
      rw [Nat.div_lt_iff_lt_mul (by omega)]
      omega
    have e3 : ((n.log2 : Int) - m.log2 - 55 + (55 : Nat) - 52 + 1074).toNat = 1022 + n.log2 - m.log2 := by omega
    rw [e3, Nat.min_eq_left (by omega)]
    omega
  · right
    refine ⟨by omega, ?_⟩
    have q1 : 9007199254740992 ≤ kept n * 2 ^ 54 / kept m := by
      rw [Nat.le_div_iff_mul_le (by omega)]
      omega
    have q2 : kept n * 2 ^ 54 / kept m < 18014398509481984 := by
      rw [Nat.div_lt_iff_lt_mul (by omega)]
      omega
    have hl : (2 * (kept n * 2 ^ 54 / kept m) + (kept n * 2 ^ 54 % kept m != 0).toNat).log2 = 54 := log2_of (by omega) (by omega)
    rw [nearest_far _ _ 54 (by omega) hl (by omega) (by omega) (by omega) (by omega)]
    have st := sticky (kept n * 2 ^ 54) (kept m) 1 (by omega) (by omega)
    rw [show (2 : Nat) ^ (54 - 52) = 2 * (2 * 1) from rfl, st]
    have sc := rne_scale 2 (kept n * 9007199254740992) (kept m) (by omega)
    rw [show kept n * 2 ^ 54 = 2 * (kept n * 9007199254740992) from by omega, show kept m * (2 * 1) = 2 * kept m from by omega, sc]
    have r := rne_low (kept n * 9007199254740992) (kept m)
    have r2 : kept n * 9007199254740992 / kept m < 9007199254740992 := by
      rw [Nat.div_lt_iff_lt_mul (by omega)]
      omega
    have e3 : ((n.log2 : Int) - m.log2 - 55 + (54 : Nat) - 52 + 1074).toNat = 1021 + n.log2 - m.log2 := by omega
    rw [e3, Nat.min_eq_left (by omega)]
    omega

theorem pow_join (x a b c : Nat) (h : a + b = c) : x * 2 ^ a * 2 ^ b = x * 2 ^ c := by
  rw [Nat.mul_assoc, ← Nat.pow_add, h]

/-- Where a quotient lies, and the word that it has. -/
theorem quo_char {n m : Nat} (hn0 : 0 < n) (hn : n < 9007199254740992) (hm0 : 0 < m) (hm : m < 9007199254740992) :
    ∃ E, m * 2 ^ E ≤ n * 2 ^ 60 ∧ n * 2 ^ 60 < m * 2 ^ (E + 1) ∧ quoW n m = (E + 962) * 4503599627370496 + rne (n * 2 ^ 112) (m * 2 ^ E) := by
  have kn := kept_range hn0 hn
  have km := kept_range hm0 hm
  have ln := log2_le hn0 hn
  have lm := log2_le hm0 hm
  have p8 : 0 < 2 ^ (8 + n.log2) := Nat.two_pow_pos _
  have p7 : 0 < 2 ^ (7 + n.log2) := Nat.two_pow_pos _
  rcases quo_form hn0 hn hm0 hm with ⟨hc, hq⟩ | ⟨hc, hq⟩
  · have en : kept n * 2 ^ (8 + n.log2) = n * 2 ^ 60 := pow_join _ _ _ _ (by omega)
    have em : kept m * 2 ^ (8 + n.log2) = m * 2 ^ (60 + n.log2 - m.log2) := pow_join _ _ _ _ (by omega)
    refine ⟨60 + n.log2 - m.log2, ?_, ?_, ?_⟩
    · rw [← en, ← em]
      exact Nat.mul_le_mul_right _ hc
    · rw [← pow_join m (60 + n.log2 - m.log2) 1 _ rfl, ← en, ← em, Nat.mul_right_comm]
      exact Nat.mul_lt_mul_of_pos_right (by omega) p8
    · have sc := rne_scale (2 ^ (8 + n.log2)) (kept n * 4503599627370496) (kept m) p8
      rw [Nat.mul_comm _ (kept m), em] at sc
      have e : 2 ^ (8 + n.log2) * (kept n * 4503599627370496) = n * 2 ^ 112 := by
        rw [← Nat.mul_assoc, Nat.mul_comm _ (kept n), en]
        exact pow_join n 60 52 112 rfl
      rw [e] at sc
      rw [sc]
      omega
  · have en : kept n * 2 ^ (7 + n.log2) = n * 2 ^ 59 := pow_join _ _ _ _ (by omega)
    have em : kept m * 2 ^ (7 + n.log2) = m * 2 ^ (59 + n.log2 - m.log2) := pow_join _ _ _ _ (by omega)
    have e60 : n * 2 ^ 60 = n * 2 ^ 59 * 2 := (pow_join n 59 1 60 rfl).symm
    refine ⟨59 + n.log2 - m.log2, ?_, ?_, ?_⟩
    · rw [e60, ← en, ← em, Nat.mul_right_comm]
      exact Nat.mul_le_mul_right _ (by omega)
    · rw [← pow_join m (59 + n.log2 - m.log2) 1 _ rfl, e60, ← en, ← em]
      exact Nat.mul_lt_mul_of_pos_right (Nat.mul_lt_mul_of_pos_right hc p7) (by omega)
    · have sc := rne_scale (2 ^ (7 + n.log2)) (kept n * 9007199254740992) (kept m) p7
      rw [Nat.mul_comm _ (kept m), em] at sc
      have e : 2 ^ (7 + n.log2) * (kept n * 9007199254740992) = n * 2 ^ 112 := by
        rw [← Nat.mul_assoc, Nat.mul_comm _ (kept n), en]
        exact pow_join n 59 53 112 rfl
      rw [e] at sc
      rw [sc]
      omega

/-- A quotient's place is its own. -/
theorem place_le {n m n2 m2 E F : Nat} (hr : n * m2 ≤ n2 * m) (hm1 : 0 < m) (h1 : m * 2 ^ E ≤ n * 2 ^ 60) (h2 : n2 * 2 ^ 60 < m2 * 2 ^ (F + 1)) : E ≤ F := by
  apply Nat.le_of_lt_succ
  apply Nat.lt_of_not_le
  intro hle
  have a : 2 ^ (F + 1) ≤ 2 ^ E := Nat.pow_le_pow_right (by omega) hle
  have b : m * 2 ^ (F + 1) ≤ n * 2 ^ 60 := Nat.le_trans (Nat.mul_le_mul_left _ a) h1
  have b2 : m * 2 ^ (F + 1) * m2 ≤ n * 2 ^ 60 * m2 := Nat.mul_le_mul_right _ b
  have c : n * m2 * 2 ^ 60 ≤ n2 * m * 2 ^ 60 := Nat.mul_le_mul_right _ hr
  have d : n2 * 2 ^ 60 * m < m2 * 2 ^ (F + 1) * m := Nat.mul_lt_mul_of_pos_right h2 hm1
  have r1 : n * 2 ^ 60 * m2 = n * m2 * 2 ^ 60 := Nat.mul_right_comm _ _ _
  have r2 : n2 * 2 ^ 60 * m = n2 * m * 2 ^ 60 := Nat.mul_right_comm _ _ _
  have r3 : m2 * 2 ^ (F + 1) * m = m * 2 ^ (F + 1) * m2 := by rw [Nat.mul_comm m2, Nat.mul_assoc, Nat.mul_comm m2 m, ← Nat.mul_assoc, Nat.mul_comm _ m]
  omega

theorem quo_scale {c n m : Nat} (hc : 0 < c) (hn0 : 0 < n) (hn : c * n < 9007199254740992) (hm0 : 0 < m) (hm : c * m < 9007199254740992) : quoW (c * n) (c * m) = quoW n m := by
  have hn' : n ≤ c * n := Nat.le_mul_of_pos_left _ hc
  have hm' : m ≤ c * m := Nat.le_mul_of_pos_left _ hc
  obtain ⟨E, a1, a2, a3⟩ := quo_char hn0 (by omega) hm0 (by omega)
  obtain ⟨F, b1, b2, b3⟩ := quo_char (Nat.mul_pos hc hn0) hn (Nat.mul_pos hc hm0) hm
  have e1 : E ≤ F := place_le (m2 := c * m) (n2 := c * n) (by rw [Nat.mul_left_comm, Nat.mul_assoc]; exact Nat.le_refl _) hm0 a1 b2
  have e2 : F ≤ E := place_le (m2 := m) (n2 := n) (by rw [Nat.mul_left_comm, Nat.mul_assoc]; exact Nat.le_refl _) (Nat.mul_pos hc hm0) b1 a2
  have e : F = E := by omega
  subst e
  rw [a3, b3]
  have sc := rne_scale c (n * 2 ^ 112) (m * 2 ^ F) hc
  rw [Nat.mul_assoc, Nat.mul_assoc, sc]
end Go.Proofs.Ythfadeoanjjiaaa.Fl
