/- Words of 64 bits read as numbers: how two of them stand, by their signs and rungs alone. -/
import Ieee.Arith
namespace Go.Proofs.Ythfadeoanjjiaaa.Fl
open Ieee

def mag (r : Nat) : Nat := if r < 4503599627370496 then r else 4503599627370496 + r % 4503599627370496
def place (r : Nat) : Nat := if r < 4503599627370496 then 0 else r / 4503599627370496 - 1
def val (r : Nat) : Nat := mag r * 2 ^ place r

theorem val_lt {r s : Nat} (h : r < s) : val r < val s := by
  unfold val mag place
  by_cases hs : s < 4503599627370496
  · have hr : r < 4503599627370496 := by omega
    simp [hr, hs, h]
  · rw [if_neg hs, if_neg hs]
    have hp : 0 < 2 ^ (s / 4503599627370496 - 1) := Nat.two_pow_pos _
    by_cases hr : r < 4503599627370496
    · rw [if_pos hr, if_pos hr]
      have : 4503599627370496 + s % 4503599627370496 ≤ (4503599627370496 + s % 4503599627370496) * 2 ^ (s / 4503599627370496 - 1) := Nat.le_mul_of_pos_right _ hp
      omega
    · rw [if_neg hr, if_neg hr]
      have hle : r / 4503599627370496 ≤ s / 4503599627370496 := Nat.div_le_div_right (by omega)
      by_cases he : r / 4503599627370496 = s / 4503599627370496
      · rw [he]
        exact Nat.mul_lt_mul_of_pos_right (by omega) hp
      · have e : 2 ^ (s / 4503599627370496 - 1) = 2 ^ (r / 4503599627370496 - 1) * 2 * 2 ^ (s / 4503599627370496 - 1 - (r / 4503599627370496 - 1) - 1) := by
          rw [← Nat.pow_succ, ← Nat.pow_add]
          congr 1
          omega
        have h2 : 0 < 2 ^ (s / 4503599627370496 - 1 - (r / 4503599627370496 - 1) - 1) := Nat.two_pow_pos _
        have h3 : 0 < 2 ^ (r / 4503599627370496 - 1) := Nat.two_pow_pos _
        rw [e]
        generalize 2 ^ (s / 4503599627370496 - 1 - (r / 4503599627370496 - 1) - 1) = k at *
        generalize 2 ^ (r / 4503599627370496 - 1) = p at *
        have a1 : (4503599627370496 + r % 4503599627370496) * p < 4503599627370496 * 2 * p := Nat.mul_lt_mul_of_pos_right (by omega) h3
        have a2 : 4503599627370496 * (p * 2 * k) ≤ (4503599627370496 + s % 4503599627370496) * (p * 2 * k) := Nat.mul_le_mul_right _ (by omega)
        have a3 : 4503599627370496 * (p * 2) ≤ 4503599627370496 * (p * 2 * k) := Nat.mul_le_mul_left _ (Nat.le_mul_of_pos_right _ h2)
        omega

theorem val_inj {r s : Nat} (h : val r = val s) : r = s := by
  rcases Nat.lt_trichotomy r s with h1 | h1 | h1
  · have := val_lt h1; omega
  · exact h1
  · have := val_lt h1; omega

theorem val_lt_iff {r s : Nat} : val r < val s ↔ r < s := by
  constructor
  · intro h
    rcases Nat.lt_trichotomy r s with h1 | h1 | h1
    · exact h1
    · subst h1; omega
    · have := val_lt h1; omega
  · exact val_lt

theorem val_zero : val 0 = 0 := by simp [val, mag, place]

/-- Is it no number? -/
def nan (b : Nat) : Bool := decide (9218868437227405312 < b % 9223372036854775808)
/-- Where it stands: the rung, with its sign. -/
def od (b : Nat) : Int := if b < 9223372036854775808 then (b : Int) else 9223372036854775808 - (b : Int)
def ng (b : Nat) : Bool := decide (9223372036854775808 ≤ b)

theorem sw : double.signWeight = 9223372036854775808 := by unfold Format.signWeight double; rfl
theorem bin : double.binade = 4503599627370496 := by unfold Format.binade double; rfl
theorem ir : double.infRung = 9218868437227405312 := by unfold Format.infRung Format.binade double; rfl
theorem lp : double.leastPlace = -1074 := by unfold Format.leastPlace double; rfl

theorem ng_eq {b : Nat} (hb : b < 18446744073709551616) : (b / 9223372036854775808 % 2 == 1) = ng b := by
  unfold ng
  rw [Bool.eq_iff_iff, beq_iff_eq, decide_eq_true_iff]
  omega

theorem read_fin {b : Nat} (hb : b < 18446744073709551616) (h : b % 9223372036854775808 < 9218868437227405312) :
    double.read b = .number (ng b) (mag (b % 9223372036854775808)) (-1074 + (place (b % 9223372036854775808) : Nat)) := by
  unfold Format.read
  simp only [sw, bin, ir, lp, ng_eq hb]
  unfold mag place
  by_cases h1 : b % 9223372036854775808 < 4503599627370496
  · rw [if_pos h1, if_pos h1, if_pos h1]; rfl
  · rw [if_neg h1, if_pos h, if_neg h1, if_neg h1]

theorem read_inf {b : Nat} (hb : b < 18446744073709551616) (h : b % 9223372036854775808 = 9218868437227405312) :
    double.read b = .infinity (ng b) := by
  unfold Format.read
  simp only [sw, bin, ir, lp, ng_eq hb]
  rw [if_neg (by omega), if_neg (by omega), if_pos h]

theorem read_nan {b : Nat} (hb : b < 18446744073709551616) (h : 9218868437227405312 < b % 9223372036854775808) :
    double.read b = .nan (ng b) (b % 9223372036854775808 - 9218868437227405312) := by
  unfold Format.read
  simp only [sw, bin, ir, lp, ng_eq hb]
  rw [if_neg (by omega), if_neg (by omega), if_neg (by omega)]


theorem cmp_ite (x y : Int) : compare x y = if x < y then .lt else if y < x then .gt else .eq := by
  split
  · exact Int.compare_eq_lt.2 (by assumption)
  · split
    · exact Int.compare_eq_gt.2 (by assumption)
    · exact Int.compare_eq_eq.2 (by omega)

theorem signed_eq (s : Bool) (m up : Nat) : signed s m up = if s then -((m * 2 ^ up : Nat) : Int) else ((m * 2 ^ up : Nat) : Int) := by
  unfold signed
  rw [Nat.shiftLeft_eq]

/-- What a rung and a sign come to. -/
def sv (s : Bool) (r : Nat) : Int := if s then -(val r : Int) else (val r : Int)

theorem scale (s t : Bool) (m n p q : Nat) (o : Ordering) (h : compare (if s then -((m * 2 ^ p : Nat) : Int) else ((m * 2 ^ p : Nat) : Int)) (if t then -((n * 2 ^ q : Nat) : Int) else ((n * 2 ^ q : Nat) : Int)) = o) :
    compare (signed s m (((-1074 + (p : Int)) - min (-1074 + (p : Int)) (-1074 + (q : Int))).toNat)) (signed t n (((-1074 + (q : Int)) - min (-1074 + (p : Int)) (-1074 + (q : Int))).toNat)) = o := by
  have e1 : ((-1074 + (p : Int)) - min (-1074 + (p : Int)) (-1074 + (q : Int))).toNat = p - min p q := by omega
  have e2 : ((-1074 + (q : Int)) - min (-1074 + (p : Int)) (-1074 + (q : Int))).toNat = q - min p q := by omega
  rw [e1, e2, signed_eq, signed_eq]
  have k1 : m * 2 ^ p = m * 2 ^ (p - min p q) * 2 ^ min p q := by
    rw [Nat.mul_assoc, ← Nat.pow_add]; congr 2; omega
  have k2 : n * 2 ^ q = n * 2 ^ (q - min p q) * 2 ^ min p q := by
    rw [Nat.mul_assoc, ← Nat.pow_add]; congr 2; omega
  have hp : 0 < 2 ^ min p q := Nat.two_pow_pos _
  rw [k1, k2] at h
  generalize m * 2 ^ (p - min p q) = a at *
  generalize n * 2 ^ (q - min p q) = b at *
  generalize 2 ^ min p q = k at *
  rw [← h]
  have m1 : ∀ x y : Nat, x * k < y * k ↔ x < y := fun x y => Nat.mul_lt_mul_right hp
  have c1 := m1 a b
  have c2 := m1 b a
  have c3 := m1 0 a
  have c4 := m1 0 b
  rw [Nat.zero_mul] at c3 c4
  clear h m1 k1 k2
  generalize a * k = ak at *
  generalize b * k = bk at *
  rw [cmp_ite, cmp_ite]
  cases s <;> cases t <;> simp only [Bool.false_eq_true, if_false, if_true] <;> repeat' split
  all_goals first | rfl | (exfalso; omega)

theorem place_val (r : Nat) : mag r * 2 ^ place r = val r := rfl

theorem order_fin {b c : Nat} (hb : b < 18446744073709551616) (hc : c < 18446744073709551616) (h : b % 9223372036854775808 < 9218868437227405312) (g : c % 9223372036854775808 < 9218868437227405312) :
    double.order b c = some (compare (od b) (od c)) := by
  unfold Format.order
  rw [read_fin hb h, read_fin hc g]
  simp only [Datum.order]
  rw [scale (ng b) (ng c) (mag (b % 9223372036854775808)) (mag (c % 9223372036854775808)) (place (b % 9223372036854775808)) (place (c % 9223372036854775808)) (compare (od b) (od c)) ?_]
  rw [place_val, place_val]
  have c1 := @val_lt_iff (b % 9223372036854775808) (c % 9223372036854775808)
  have c2 := @val_lt_iff (c % 9223372036854775808) (b % 9223372036854775808)
  have c3 := @val_lt_iff 0 (b % 9223372036854775808)
  have c4 := @val_lt_iff 0 (c % 9223372036854775808)
  rw [val_zero] at c3 c4
  generalize val (b % 9223372036854775808) = x at *
  generalize val (c % 9223372036854775808) = y at *
  rw [cmp_ite, cmp_ite]
  unfold ng od
  by_cases h1 : b < 9223372036854775808 <;> by_cases h2 : c < 9223372036854775808
  · have g1 : ¬ 9223372036854775808 ≤ b := by omega
    have g2 : ¬ 9223372036854775808 ≤ c := by omega
    simp only [h1, h2, g1, g2, decide_false, Bool.false_eq_true, if_false, if_true]
    repeat' split
    all_goals first | rfl | (exfalso; omega)
  · have g1 : ¬ 9223372036854775808 ≤ b := by omega
    have g2 : 9223372036854775808 ≤ c := by omega
    simp only [h1, h2, g1, g2, decide_false, decide_true, Bool.false_eq_true, if_false, if_true]
    repeat' split
    all_goals first | rfl | (exfalso; omega)
  · have g1 : 9223372036854775808 ≤ b := by omega
    have g2 : ¬ 9223372036854775808 ≤ c := by omega
    simp only [h1, h2, g1, g2, decide_false, decide_true, Bool.false_eq_true, if_false, if_true]
    repeat' split
    all_goals first | rfl | (exfalso; omega)
  · have g1 : 9223372036854775808 ≤ b := by omega
    have g2 : 9223372036854775808 ≤ c := by omega
    simp only [h1, h2, g1, g2, decide_true, if_false, if_true]
    repeat' split
    all_goals first | rfl | (exfalso; omega)

/-- How two words stand that are numbers. -/
theorem order_num {b c : Nat} (hb : b < 18446744073709551616) (hc : c < 18446744073709551616) (h : nan b = false) (g : nan c = false) :
    double.order b c = some (compare (od b) (od c)) := by
  have h' := of_decide_eq_false h
  have g' := of_decide_eq_false g
  by_cases h1 : b % 9223372036854775808 < 9218868437227405312 <;> by_cases h2 : c % 9223372036854775808 < 9218868437227405312
  · exact order_fin hb hc h1 h2
  · unfold Format.order
    rw [read_fin hb h1, read_inf hc (by omega)]
    simp only [Datum.order]
    rw [cmp_ite]
    unfold ng od
    by_cases k1 : b < 9223372036854775808 <;> by_cases k2 : c < 9223372036854775808 <;> simp only [k1, k2, if_true, if_false, decide_eq_true_iff] <;> repeat' split
    all_goals first | rfl | (exfalso; omega)
  · unfold Format.order
    rw [read_inf hb (by omega), read_fin hc h2]
    simp only [Datum.order]
    rw [cmp_ite]
    unfold ng od
    by_cases k1 : b < 9223372036854775808 <;> by_cases k2 : c < 9223372036854775808 <;> simp only [k1, k2, if_true, if_false, decide_eq_true_iff] <;> repeat' split
    all_goals first | rfl | (exfalso; omega)
  · unfold Format.order
    rw [read_inf hb (by omega), read_inf hc (by omega)]
    simp only [Datum.order]
    rw [cmp_ite]
    unfold ng od
    by_cases k1 : b < 9223372036854775808 <;> by_cases k2 : c < 9223372036854775808
    · have g1 : ¬ 9223372036854775808 ≤ b := by omega
      have g2 : ¬ 9223372036854775808 ≤ c := by omega
      simp only [k1, k2, g1, g2, decide_false, if_true]
      repeat' split
      all_goals first | rfl | (exfalso; omega)
    · have g1 : ¬ 9223372036854775808 ≤ b := by omega
      have g2 : 9223372036854775808 ≤ c := by omega
      simp only [k1, k2, g1, g2, decide_false, decide_true, if_true, if_false]
      repeat' split
      all_goals first | rfl | (exfalso; omega)
    · have g1 : 9223372036854775808 ≤ b := by omega
      have g2 : ¬ 9223372036854775808 ≤ c := by omega
      simp only [k1, k2, g1, g2, decide_false, decide_true, if_true, if_false]
      repeat' split
      all_goals first | rfl | (exfalso; omega)
    · have g1 : 9223372036854775808 ≤ b := by omega
      have g2 : 9223372036854775808 ≤ c := by omega
      simp only [k1, k2, g1, g2, decide_true, if_false]
      repeat' split
      all_goals first | rfl | (exfalso; omega)

theorem order_nan {b c : Nat} (hb : b < 18446744073709551616) (hc : c < 18446744073709551616) (h : nan b = true ∨ nan c = true) :
    double.order b c = none := by
  unfold Format.order
  rcases h with h | h
  · rw [read_nan hb (of_decide_eq_true h)]; rfl
  · rw [read_nan hc (of_decide_eq_true h)]
    cases double.read b <;> rfl

/-- The four questions. -/
theorem is_lt {b c : Nat} (hb : b < 18446744073709551616) (hc : c < 18446744073709551616) :
    (double.order b c == some .lt) = (!nan b && !nan c && decide (od b < od c)) := by
  cases h : nan b
  · cases g : nan c
    · rw [order_num hb hc h g, cmp_ite]
      by_cases k : od b < od c
      · simp [k]
      · rw [if_neg k]; split <;> simp [k]
    · rw [order_nan hb hc (.inr g)]; rfl
  · rw [order_nan hb hc (.inl h)]; rfl

theorem is_gt {b c : Nat} (hb : b < 18446744073709551616) (hc : c < 18446744073709551616) :
    (double.order b c == some .gt) = (!nan b && !nan c && decide (od c < od b)) := by
  cases h : nan b
  · cases g : nan c
    · rw [order_num hb hc h g, cmp_ite]
      by_cases k : od b < od c
      · have : ¬ od c < od b := by omega
        simp [k, this]
      · rw [if_neg k]; split <;> simp [*]
    · rw [order_nan hb hc (.inr g)]; rfl
  · rw [order_nan hb hc (.inl h)]; rfl

theorem is_eq {b c : Nat} (hb : b < 18446744073709551616) (hc : c < 18446744073709551616) :
    (double.order b c == some .eq) = (!nan b && !nan c && decide (od b = od c)) := by
  cases h : nan b
  · cases g : nan c
    · rw [order_num hb hc h g, cmp_ite]
      by_cases k : od b < od c
      · have : ¬ od b = od c := by omega
        simp [k, this]
      · rw [if_neg k]
        split
        · have : ¬ od b = od c := by omega
          simp [this]
        · have : od b = od c := by omega
          simp [this]
    · rw [order_nan hb hc (.inr g)]; rfl
  · rw [order_nan hb hc (.inl h)]; rfl

def Ok (b : Nat) : Prop := b < 18446744073709551616

theorem ne_self (b : Nat) (hb : Ok b) : (double.order b b != some .eq) = nan b := by
  have h := is_eq hb hb
  rw [bne, h]
  cases nan b <;> simp

/-- The number that stands as the words do. -/
def key (b : Nat) : Nat := if nan b then 18446744073709551615 else if ng b then 18446744073709551615 - b else b + 9223372036854775808

end Go.Proofs.Ythfadeoanjjiaaa.Fl
