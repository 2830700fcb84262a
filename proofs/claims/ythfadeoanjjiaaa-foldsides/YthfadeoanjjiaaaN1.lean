/- Rounding does not ask how a number is written; what has a word is that word; signs turn. -/
import Derived.Test.YthfadeoanjjiaaaV2
import Derived.Test.YthfadeoanjjiaaaAr
namespace Go.Proofs.Ythfadeoanjjiaaa.Fl
open Ieee Go

theorem cut_far (neg : Bool) (n drop : Nat) (h : n.log2 + 2 ≤ drop) : Toward.even.cut neg n drop = 0 := by
  unfold Toward.cut
  rw [Nat.min_eq_right h]
  have h1 : n < 2 ^ (n.log2 + 1) := Nat.lt_log2_self
  have h2 : (1 : Nat) <<< (n.log2 + 2) = 2 * 2 ^ (n.log2 + 1) := by rw [Nat.shiftLeft_eq, Nat.one_mul, show n.log2 + 2 = n.log2 + 1 + 1 from rfl, Nat.pow_succ, Nat.mul_comm]
  rw [h2]
  generalize 2 ^ (n.log2 + 1) = g at *
  have e1 : n / (2 * g) = 0 := Nat.div_eq_of_lt (by omega)
  have e2 : n % (2 * g) = n := Nat.mod_eq_of_lt (by omega)
  simp only [e1, e2]
  have e4 : (2 * g == 2 * n) = false := by rw [beq_eq_false_iff_ne]; omega
  simp [e4]
  omega

theorem cut_scale (neg : Bool) (n k e : Nat) (h0 : 0 < n) : Toward.even.cut neg (n * 2 ^ k) (k + e) = Toward.even.cut neg n e := by
  have hl := log2_mul (n := n) (t := k) h0
  by_cases h : e ≤ n.log2 + 2
  · rw [cut_even _ _ _ (by rw [hl]; omega), cut_even _ _ _ h, Nat.pow_add, Nat.mul_comm n, rne_scale _ _ _ (Nat.two_pow_pos _)]
  · rw [cut_far _ _ _ (by rw [hl]; omega), cut_far _ _ _ (by omega)]

theorem cut_whole (neg : Bool) (n k : Nat) (h0 : 0 < n) : Toward.even.cut neg (n * 2 ^ k) k = n := by
  have := cut_scale neg n k 0 h0
  rw [Nat.add_zero, cut_zero] at this
  exact this

theorem nearest_scale (s : Bool) (m k : Nat) (p q : Int) (h : p = q - k) : double.nearest s (m * 2 ^ k) p = double.nearest s m q := by
  subst h
  unfold Format.nearest
  by_cases h0 : m = 0
  · subst h0; simp
  · have hp : 0 < m := by omega
    have hpk : 0 < m * 2 ^ k := Nat.mul_pos hp (Nat.two_pow_pos _)
    rw [if_neg (by omega), if_neg h0, log2_mul hp]
    have e1 : q - (k : Int) + ((m.log2 + k : Nat) : Int) - (double.fractionBits : Int) = q + (m.log2 : Int) - (double.fractionBits : Int) := by omega
    simp only [e1]
    generalize max (q + (m.log2 : Int) - (double.fractionBits : Int)) double.leastPlace = last
    have key : Toward.even.cut s ((m * 2 ^ k) <<< (q - (k : Int) - last).toNat) (last - (q - (k : Int))).toNat = Toward.even.cut s (m <<< (q - last).toNat) (last - q).toNat := by
      rw [Nat.shiftLeft_eq, Nat.shiftLeft_eq]
      by_cases c1 : last ≤ q - k
      · rw [show (last - (q - (k : Int))).toNat = 0 from by omega, show (last - q).toNat = 0 from by omega, Nat.mul_assoc, ← Nat.pow_add, show k + (q - (k : Int) - last).toNat = (q - last).toNat from by omega]
      · rw [show (q - (k : Int) - last).toNat = 0 from by omega, Nat.pow_zero, Nat.mul_one]
        by_cases c2 : last ≤ q
        · rw [show (last - q).toNat = 0 from by omega, cut_zero]
          have := cut_whole s (m * 2 ^ (q - last).toNat) (last - (q - (k : Int))).toNat (Nat.mul_pos hp (Nat.two_pow_pos _))
          rw [Nat.mul_assoc, ← Nat.pow_add, show (q - last).toNat + (last - (q - (k : Int))).toNat = k from by omega] at this
          exact this
        · rw [show (q - last).toNat = 0 from by omega, Nat.pow_zero, Nat.mul_one, show (last - (q - (k : Int))).toNat = k + (last - q).toNat from by omega]
          exact cut_scale s m k _ hp
    rw [key]

theorem word_of {b : Nat} (hb : Ok b) : double.word (ng b) (b % 9223372036854775808) = b := by
  unfold Format.word
  rw [sw]
  unfold Ok at hb
  by_cases h : 9223372036854775808 ≤ b
  · rw [show ng b = true from decide_eq_true h, if_pos rfl]; omega
  · rw [show ng b = false from decide_eq_false h]; simp; omega

theorem write_read {b : Nat} (hb : Ok b) (h : b % 9223372036854775808 < 9218868437227405312) : double.nearest (ng b) (mag (b % 9223372036854775808)) (-1074 + (place (b % 9223372036854775808) : Nat)) = b := by
  have hw := word_of hb
  generalize b % 9223372036854775808 = r at *
  generalize ng b = s at *
  refine Eq.trans ?_ hw
  clear hw hb
  unfold Format.nearest
  rw [bin, ir, lp]
  unfold mag place
  by_cases h1 : r < 4503599627370496
  · rw [if_pos h1, if_pos h1]
    by_cases h0 : r = 0
    · subst h0; simp
    · rw [if_neg h0]
      have hl : r.log2 < 52 := (Nat.log2_lt h0).2 h1
      have e1 : max (-1074 + ((0 : Nat) : Int) + (r.log2 : Int) - (double.fractionBits : Int)) (-1074) = -1074 := by
        show max (-1074 + ((0 : Nat) : Int) + (r.log2 : Int) - ((52 : Nat) : Int)) (-1074) = -1074
        omega
      simp only [e1]
      have e2 : ((-1074 : Int) + ((0 : Nat) : Int) - (-1074)).toNat = 0 := by omega
      have e3 : ((-1074 : Int) - (-1074 + ((0 : Nat) : Int))).toNat = 0 := by omega
      have e4 : ((-1074 : Int) - (-1074)).toNat = 0 := by omega
      rw [e2, e3, e4, Nat.shiftLeft_zero, cut_zero, Nat.zero_mul, Nat.zero_add, Nat.min_eq_left (by omega)]
  · rw [if_neg h1, if_neg h1]
    have h0 : ¬ 4503599627370496 + r % 4503599627370496 = 0 := by omega
    rw [if_neg h0]
    have hl : (4503599627370496 + r % 4503599627370496).log2 = 52 := log2_of (k := 52) (by show 4503599627370496 ≤ _; omega) (by show _ < 9007199254740992; omega)
    rw [hl]
    have hd : 1 ≤ r / 4503599627370496 := by omega
    have e1 : max (-1074 + ((r / 4503599627370496 - 1 : Nat) : Int) + ((52 : Nat) : Int) - (double.fractionBits : Int)) (-1074) = -1074 + ((r / 4503599627370496 - 1 : Nat) : Int) := by
      show max (-1074 + ((r / 4503599627370496 - 1 : Nat) : Int) + ((52 : Nat) : Int) - ((52 : Nat) : Int)) (-1074) = _
      omega
    simp only [e1]
    generalize hE : r / 4503599627370496 - 1 = E at *
    have e2 : ((-1074 : Int) + (E : Int) - (-1074 + (E : Int))).toNat = 0 := by omega
    have e4 : ((-1074 : Int) + (E : Int) - (-1074)).toNat = E := by omega
    have e5 : E * 4503599627370496 + (4503599627370496 + r % 4503599627370496) = r := by omega
    rw [e2, e4, Nat.shiftLeft_zero, cut_zero, e5, Nat.min_eq_left (by omega)]

theorem word_opp (s : Bool) (r : Nat) (h : r < 9223372036854775808) : double.word (!s) r = opp (double.word s r) := by
  unfold Format.word opp
  rw [sw]
  cases s
  · simp; rw [if_pos h]; omega
  · simp; omega
theorem nearest_opp (s : Bool) (m : Nat) (p : Int) : double.nearest (!s) m p = opp (double.nearest s m p) := by
  unfold Format.nearest
  split
  · exact word_opp s 0 (by omega)
  · have e : ∀ n d, Toward.even.cut (!s) n d = Toward.even.cut s n d := fun n d => by unfold Toward.cut; rfl
    simp only [e]
    apply word_opp
    rw [ir]
    omega
theorem write_opp (d : Datum) (h : d.isNaN = false) : double.write d.opposite = opp (double.write d) := by
  cases d with
  | number s m p => exact nearest_opp s m p
  | infinity s =>
    show double.word (!s) double.infRung = opp (double.word s double.infRung)
    rw [ir]
    exact word_opp s _ (by omega)
  | nan s t => cases h
theorem read_opp {b : Nat} (hb : Ok b) (h : nan b = false) : double.read (opp b) = (double.read b).opposite := by
  have ho := opp_ok hb
  have hm : opp b % 9223372036854775808 = b % 9223372036854775808 := by unfold opp; split <;> omega
  have hn : ng (opp b) = !ng b := by
    unfold ng opp
    unfold Ok at hb
    split
    · rw [decide_eq_true (by omega), decide_eq_false (by omega)]; rfl
    · rw [decide_eq_false (by omega), decide_eq_true (by omega)]; rfl
  have h2 : ¬ 9218868437227405312 < b % 9223372036854775808 := of_decide_eq_false h
  by_cases h1 : b % 9223372036854775808 < 9218868437227405312
  · rw [read_fin hb h1, read_fin ho (by rw [hm]; exact h1), hm, hn]; rfl
  · rw [read_inf hb (by omega), read_inf ho (by rw [hm]; omega), hn]; rfl

theorem product_opp (x y : Datum) : x.opposite.product y = (x.product y).map Datum.opposite := by
  cases x <;> cases y <;> simp only [Datum.opposite, Datum.product]
  all_goals first | rfl | (split <;> simp [Datum.opposite]) | simp [Datum.opposite]

/-- What is turned ahead is turned behind. -/
theorem mul_opp {a b : Nat} (ha : Ok a) (h : nan a = false) : double.mul (opp a) b = (double.mul a b).map opp := by
  unfold Format.mul
  rw [read_opp ha h, product_opp]
  cases e : (double.read a).product (double.read b) with
  | none => rfl
  | some d => exact congrArg some (write_opp d (prod_num e))

/-- What a word reads as is written as that word. -/
theorem write_back {b : Nat} (hb : Ok b) (h : nan b = false) : double.write (double.read b) = b := by
  have h2 : ¬ 9218868437227405312 < b % 9223372036854775808 := of_decide_eq_false h
  by_cases h1 : b % 9223372036854775808 < 9218868437227405312
  · rw [read_fin hb h1]; exact write_read hb h1
  · rw [read_inf hb (by omega)]
    show double.word (ng b) double.infRung = b
    rw [ir, show (9218868437227405312 : Nat) = b % 9223372036854775808 from by omega]
    exact word_of hb

theorem read_one : double.read (floatOfInt .f64 1) = .number false 4503599627370496 (-52) := by decide +kernel
theorem read_two : double.read (floatOfInt .f64 2) = .number false 4503599627370496 (-51) := by decide +kernel

theorem mul_one {a : Nat} (ha : Ok a) (h : nan a = false) : double.mul a (floatOfInt .f64 1) = some a := by
  unfold Format.mul
  rw [read_one]
  have h2 : ¬ 9218868437227405312 < a % 9223372036854775808 := of_decide_eq_false h
  by_cases h1 : a % 9223372036854775808 < 9218868437227405312
  · rw [read_fin ha h1]
    show some (double.nearest (ng a ^^ false) (mag (a % 9223372036854775808) * 2 ^ 52) (-1074 + (place (a % 9223372036854775808) : Nat) + (-52))) = _
    rw [Bool.xor_false, nearest_scale _ _ 52 _ (-1074 + (place (a % 9223372036854775808) : Nat)) (by omega), write_read ha h1]
  · have e := write_back ha h
    rw [read_inf ha (by omega)] at e ⊢
    show some (double.word (ng a ^^ false) double.infRung) = _
    rw [Bool.xor_false]
    exact congrArg some e

theorem mul_two {a : Nat} (ha : Ok a) : double.mul a (floatOfInt .f64 2) = double.add a a := by
  unfold Format.mul Format.add
  rw [read_two]
  by_cases h2 : 9218868437227405312 < a % 9223372036854775808
  · rw [read_nan ha h2]; rfl
  · by_cases h1 : a % 9223372036854775808 < 9218868437227405312
    · rw [read_fin ha h1]
      generalize ng a = s
      generalize mag (a % 9223372036854775808) = m
      generalize (-1074 + (place (a % 9223372036854775808) : Nat) : Int) = i
      simp only [Datum.product, Datum.sum, Option.map_some, Bool.xor_false]
      have e1 : min i i = i := by omega
      rw [e1, show (i - i).toNat = 0 from by omega]
      have e2 : signed s m 0 = if s then -(m : Int) else (m : Int) := by unfold signed; rw [Nat.shiftLeft_zero]
      rw [e2]
      show some (double.nearest s (m * 2 ^ 52) (i + (-51))) = some (double.nearest _ _ i)
      congr 1
      rw [show m * 2 ^ 52 = (2 * m) * 2 ^ 51 from by omega, nearest_scale _ _ 51 _ i (by omega)]
      by_cases h0 : m = 0
      · subst h0
        cases s <;> simp
      · cases s
        · simp only [Bool.false_eq_true, if_false, Bool.and_self]
          rw [if_neg (by omega), show ((m : Int) + (m : Int)).natAbs = 2 * m from by omega, decide_eq_false (by omega)]
        · simp only [if_true, Bool.and_self]
          rw [if_neg (by omega), show (-(m : Int) + -(m : Int)).natAbs = 2 * m from by omega, decide_eq_true (by omega)]
    · rw [read_inf ha (by omega)]
      simp only [Datum.product, Datum.sum, Option.map_some, Bool.xor_false, if_true]
      rfl

theorem read_zero : double.read 0 = .number false 0 (-1074) := by decide +kernel
/-- Nought and a number other than nought. -/
theorem add_zero {a : Nat} (ha : Ok a) (h : nan a = false) (h0 : a % 9223372036854775808 ≠ 0) : double.add 0 a = some a := by
  unfold Format.add
  rw [read_zero]
  have h2 : ¬ 9218868437227405312 < a % 9223372036854775808 := of_decide_eq_false h
  by_cases h1 : a % 9223372036854775808 < 9218868437227405312
  · have hw := write_read ha h1
    rw [read_fin ha h1]
    have hm : 0 < mag (a % 9223372036854775808) := by unfold mag; split <;> omega
    generalize ng a = s at *
    generalize mag (a % 9223372036854775808) = m at *
    generalize place (a % 9223372036854775808) = P at *
    simp only [Datum.sum, Option.map_some]
    have e1 : min (-1074 : Int) (-1074 + (P : Nat)) = -1074 := by omega
    rw [e1, show ((-1074 : Int) + (P : Nat) - (-1074)).toNat = P from by omega, show ((-1074 : Int) - (-1074)).toNat = 0 from by omega]
    have e2 : signed false 0 0 = 0 := by unfold signed; simp
    rw [e2, signed_eq, Int.zero_add]
    have hp : 0 < m * 2 ^ P := Nat.mul_pos hm (Nat.two_pow_pos _)
    show some (double.nearest _ _ (-1074)) = _
    rw [← hw, ← nearest_scale s m P (-1074) _ (by omega)]
    generalize m * 2 ^ P = Z at *
    cases s
    · simp only [Bool.false_eq_true, if_false]
      rw [if_neg (by omega), decide_eq_false (by omega), Int.natAbs_natCast]
    · simp only [if_true]
      rw [if_neg (by omega), decide_eq_true (by omega), Int.natAbs_neg, Int.natAbs_natCast]
  · have e := write_back ha h
    rw [read_inf ha (by omega)] at e ⊢
    exact congrArg some e

end Go.Proofs.Ythfadeoanjjiaaa.Fl
