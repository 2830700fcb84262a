/- Words of quotients, sums and products of whole numbers. -/
import Derived.Test.YthfadeoanjjiaaaV1
namespace Go.Proofs.Ythfadeoanjjiaaa.Fl
open Ieee Go

theorem word_val {P K : Nat} (h1 : 4503599627370496 ≤ K) (h2 : K ≤ 9007199254740992) : val (P * 4503599627370496 + K) = K * 2 ^ P := by
  unfold val mag place
  rw [if_neg (by omega), if_neg (by omega)]
  by_cases h : K < 9007199254740992
  · have e1 : (P * 4503599627370496 + K) % 4503599627370496 = K - 4503599627370496 := by omega
    have e2 : (P * 4503599627370496 + K) / 4503599627370496 = P + 1 := by omega
    rw [e1, e2, show 4503599627370496 + (K - 4503599627370496) = K from by omega, Nat.add_sub_cancel]
  · have e0 : K = 9007199254740992 := by omega
    have e1 : (P * 4503599627370496 + K) % 4503599627370496 = 0 := by omega
    have e2 : (P * 4503599627370496 + K) / 4503599627370496 = P + 2 := by omega
    rw [e1, e2, e0, show P + 2 - 1 = P + 1 from by omega, Nat.pow_succ]
    omega

theorem quo_val {n m : Nat} (hn0 : 0 < n) (hn : n < 9007199254740992) (hm0 : 0 < m) (hm : m < 9007199254740992) :
    ∃ E K, m * 2 ^ E ≤ n * 2 ^ 60 ∧ n * 2 ^ 60 < m * 2 ^ (E + 1) ∧ K = rne (n * 2 ^ 112) (m * 2 ^ E) ∧ 4503599627370496 ≤ K ∧ K ≤ 9007199254740992 ∧ val (quoW n m) = K * 2 ^ (E + 962) := by
  obtain ⟨E, a1, a2, a3⟩ := quo_char hn0 hn hm0 hm
  have r := rne_low (n * 2 ^ 112) (m * 2 ^ E)
  have hp : 0 < m * 2 ^ E := Nat.mul_pos hm0 (Nat.two_pow_pos _)
  have e : n * 2 ^ 112 = n * 2 ^ 60 * 4503599627370496 := (pow_join n 60 52 112 rfl).symm
  have f : m * 2 ^ (E + 1) = m * 2 ^ E * 2 := (pow_join m E 1 (E + 1) rfl).symm
  have l1 : 4503599627370496 ≤ n * 2 ^ 112 / (m * 2 ^ E) := by
    rw [Nat.le_div_iff_mul_le hp, e, Nat.mul_comm]
    exact Nat.mul_le_mul_right _ a1
  have l2 : n * 2 ^ 112 / (m * 2 ^ E) < 9007199254740992 := by
    rw [Nat.div_lt_iff_lt_mul hp, e, show 9007199254740992 * (m * 2 ^ E) = m * 2 ^ (E + 1) * 4503599627370496 from by rw [f]; omega]
    exact Nat.mul_lt_mul_of_pos_right a2 (by omega)
  refine ⟨E, _, a1, a2, rfl, by omega, by omega, ?_⟩
  rw [a3]
  exact word_val (by omega) (by omega)

/-- Halves are exact. -/
theorem quo_two {n : Nat} (hn0 : 0 < n) (hn : n < 9007199254740992) (u : Nat) (hu : u ≤ 1) : ∃ E K, 2 ^ u * 2 ^ E ≤ n * 2 ^ 60 ∧ K * (2 ^ u * 2 ^ E) = n * 2 ^ 112 ∧ K ≤ 9007199254740992 ∧ val (quoW n (2 ^ u)) = K * 2 ^ (E + 962) ∧ val (quoW n (2 ^ u)) * 2 ^ u = n * unit := by
  have hm : 2 ^ u < 9007199254740992 := by
    have : 2 ^ u ≤ 2 ^ 1 := Nat.pow_le_pow_right (by omega) hu
    omega
  obtain ⟨E, K, a1, _, a3, _, a4, a5⟩ := quo_val hn0 hn (Nat.two_pow_pos u) hm
  have hE : E + u < 113 := by
    apply Nat.lt_of_not_le
    intro hle
    have h1 : 2 ^ 113 ≤ 2 ^ u * 2 ^ E := by
      rw [← Nat.pow_add]
      exact Nat.pow_le_pow_right (by omega) (by omega)
    have h2 : (2 : Nat) ^ 113 = 9007199254740992 * 2 ^ 60 := by decide
    have h3 : n * 2 ^ 60 < 9007199254740992 * 2 ^ 60 := Nat.mul_lt_mul_of_pos_right hn (by decide)
    omega
  have e : n * 2 ^ 112 = n * 2 ^ (112 - E - u) * (2 ^ u * 2 ^ E) := by
    rw [← Nat.pow_add, Nat.mul_assoc, ← Nat.pow_add, show 112 - E - u + (u + E) = 112 from by omega]
  have k : K = n * 2 ^ (112 - E - u) := by
    rw [a3, e]
    exact rne_exact _ _ (Nat.mul_pos (Nat.two_pow_pos _) (Nat.two_pow_pos _))
  refine ⟨E, K, a1, by rw [k, ← e], a4, a5, ?_⟩
  rw [a5, k, pow_join n (112 - E - u) (E + 962) (1074 - u) (by omega), pow_join n (1074 - u) u 1074 (by omega)]
  unfold unit
  rfl

theorem quo_one {n : Nat} (hn0 : 0 < n) (hn : n < 9007199254740992) : quoW n 1 = fN n := by
  obtain ⟨_, _, _, _, _, _, h⟩ := quo_two hn0 hn 0 (by omega)
  apply val_inj
  rw [val_fN hn, ← h, Nat.pow_zero, Nat.mul_one]

/-- What is no less than an exact one is rounded to no less. -/
theorem quo_ge {n n2 m2 : Nat} (hn0 : 0 < n) (hn : n < 9007199254740992) (hn2 : 0 < n2) (hn2' : n2 < 9007199254740992) (hm2 : 0 < m2) (hm2' : m2 < 9007199254740992) (h : n * m2 ≤ n2 * 2) : val (quoW n 2) ≤ val (quoW n2 m2) := by
  obtain ⟨E, K, a1, a2, a3, a4, _⟩ := quo_two hn0 hn 1 (by omega)
  obtain ⟨F, L, _, b2, b3, b4, _, b5⟩ := quo_val hn2 hn2' hm2 hm2'
  rw [show (2 : Nat) ^ 1 = 2 from rfl] at a1 a2 a4
  have hEF : E ≤ F := place_le h (by omega) a1 b2
  rw [a4, b5]
  by_cases he : E = F
  · subst he
    apply Nat.mul_le_mul_right
    have hp : 0 < m2 * 2 ^ E := Nat.mul_pos hm2 (Nat.two_pow_pos _)
    have : K ≤ n2 * 2 ^ 112 / (m2 * 2 ^ E) := by
      rw [Nat.le_div_iff_mul_le hp]
      have c : n * m2 * 2 ^ 112 ≤ n2 * 2 * 2 ^ 112 := Nat.mul_le_mul_right _ h
      have d : K * (m2 * 2 ^ E) * 2 = n * m2 * 2 ^ 112 := by
        have : K * (m2 * 2 ^ E) * 2 = K * (2 * 2 ^ E) * m2 := by
          rw [Nat.mul_assoc, Nat.mul_assoc, Nat.mul_assoc, Nat.mul_comm (2 ^ E) 2, Nat.mul_comm m2]
        rw [this, a2, Nat.mul_right_comm]
      have d2 : n2 * 2 * 2 ^ 112 = n2 * 2 ^ 112 * 2 := Nat.mul_right_comm _ _ _
      omega
    have r := rne_low (n2 * 2 ^ 112) (m2 * 2 ^ E)
    omega
  · have p : 2 ^ (F + 962) = 2 ^ (E + 962) * 2 * 2 ^ (F - E - 1) := by
      rw [← Nat.pow_succ, ← Nat.pow_add, show E + 962 + 1 + (F - E - 1) = F + 962 from by omega]
    have q : 0 < 2 ^ (F - E - 1) := Nat.two_pow_pos _
    rw [p]
    have s1 : K * 2 ^ (E + 962) ≤ 9007199254740992 * 2 ^ (E + 962) := Nat.mul_le_mul_right _ a3
    have s2 : 4503599627370496 * (2 ^ (E + 962) * 2 * 2 ^ (F - E - 1)) ≤ L * (2 ^ (E + 962) * 2 * 2 ^ (F - E - 1)) := Nat.mul_le_mul_right _ b4
    have s3 : 2 ^ (E + 962) * 2 ≤ 2 ^ (E + 962) * 2 * 2 ^ (F - E - 1) := Nat.le_mul_of_pos_right _ q
    generalize 2 ^ (E + 962) * 2 * 2 ^ (F - E - 1) = z at *
    generalize 2 ^ (E + 962) = y at *
    omega

theorem log2_mul {n t : Nat} (h0 : 0 < n) : (n * 2 ^ t).log2 = n.log2 + t := by
  apply log2_of
  · rw [Nat.pow_add]
    exact Nat.mul_le_mul_right _ (Nat.log2_self_le (by omega))
  · rw [show n.log2 + t + 1 = n.log2 + 1 + t from by omega, Nat.pow_add]
    exact Nat.mul_lt_mul_of_pos_right Nat.lt_log2_self (Nat.two_pow_pos _)

/-- What has few digits is written as it is. -/
theorem nearest_exact {n : Nat} (t u : Nat) (hn0 : 0 < n) (hn : n < 9007199254740992) (hu : u ≤ 1) : double.nearest false (n * 2 ^ t) (-(t : Int) - u) = (1022 + n.log2 - u) * 4503599627370496 + kept n := by
  have hl := log2_le hn0 hn
  have hk := kept_range hn0 hn
  have hp : 0 < n * 2 ^ t := Nat.mul_pos hn0 (Nat.two_pow_pos _)
  unfold Format.nearest
  rw [if_neg (by omega)]
  simp only [bin, ir, lp, log2_mul hn0]
  have e : max (-(t : Int) - u + ((n.log2 + t : Nat) : Int) - double.fractionBits) (-1074) = (n.log2 : Int) - 52 - u := by
    show max (-(t : Int) - u + ((n.log2 + t : Nat) : Int) - (52 : Nat)) (-1074) = _
    omega
  rw [e]
  have e3 : ((n.log2 : Int) - 52 - u - -1074).toNat = 1022 + n.log2 - u := by omega
  rw [e3]
  have c : Toward.even.cut false ((n * 2 ^ t) <<< (-(t : Int) - u - ((n.log2 : Int) - 52 - u)).toNat) ((n.log2 : Int) - 52 - u - (-(t : Int) - u)).toNat = kept n := by
    rw [Nat.shiftLeft_eq]
    by_cases ht : t ≤ 52 - n.log2
    · have e1 : (-(t : Int) - u - ((n.log2 : Int) - 52 - u)).toNat = 52 - n.log2 - t := by omega
      have e2 : ((n.log2 : Int) - 52 - u - (-(t : Int) - u)).toNat = 0 := by omega
      rw [e1, e2, cut_zero]
      exact pow_join _ _ _ _ (by omega)
    · have e1 : (-(t : Int) - u - ((n.log2 : Int) - 52 - u)).toNat = 0 := by omega
      have e2 : ((n.log2 : Int) - 52 - u - (-(t : Int) - u)).toNat = t - (52 - n.log2) := by omega
      rw [e1, e2, Nat.pow_zero, Nat.mul_one, cut_even _ _ _ (by rw [log2_mul hn0]; omega)]
      have : n * 2 ^ t = kept n * 2 ^ (t - (52 - n.log2)) := (pow_join _ _ _ _ (by omega)).symm
      rw [this]
      exact rne_exact _ _ (Nat.two_pow_pos _)
  rw [c]
  unfold Format.word
  rw [Nat.min_eq_left (by omega)]
  simp
theorem nearest_whole {n : Nat} (t : Nat) (hn : n < 9007199254740992) : double.nearest false (n * 2 ^ t) (-(t : Int)) = fN n := by
  by_cases h0 : n = 0
  · subst h0
    rw [Nat.zero_mul, fN_zero]
    unfold Format.nearest Format.word
    simp
  · have := nearest_exact t 0 (by omega) hn (by omega)
    rw [fN_pos (by omega) hn, ← show -(t : Int) - (0 : Nat) = -(t : Int) from by omega, this, Nat.sub_zero]
end Go.Proofs.Ythfadeoanjjiaaa.Fl
