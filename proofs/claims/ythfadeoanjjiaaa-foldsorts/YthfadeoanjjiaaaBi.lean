/- Bits of words of 64 bits, as sums and differences. -/
import Derived.Laws.BitsAllLaws
import Derived.Test.YthfadeoanjjiaaaFl
namespace Go.Proofs.Ythfadeoanjjiaaa.Fl
open Go

theorem xor_top_lo (b k : Nat) (h : b < 2 ^ k) : b ^^^ 2 ^ k = b + 2 ^ k := by
  rw [Nat.add_comm]
  apply Nat.eq_of_testBit_eq
  intro i
  rw [Nat.testBit_xor, Nat.testBit_two_pow]
  rcases Nat.lt_trichotomy i k with g | g | g
  · rw [Nat.testBit_two_pow_add_gt g]
    have : ¬ k = i := by omega
    simp [this]
  · subst g
    rw [Nat.testBit_two_pow_add_eq]
    simp [Nat.testBit_lt_two_pow h]
  · have hb : b < 2 ^ i := Nat.lt_of_lt_of_le h (Nat.pow_le_pow_right (by omega) (by omega))
    have hs : 2 ^ k + b < 2 ^ i := by
      have h1 : 2 ^ (k + 1) ≤ 2 ^ i := Nat.pow_le_pow_right (by omega) (by omega)
      rw [Nat.pow_succ] at h1
      omega
    rw [Nat.testBit_lt_two_pow hb, Nat.testBit_lt_two_pow hs]
    have : ¬ k = i := by omega
    simp [this]

theorem xor_top_hi (b k : Nat) (h : 2 ^ k ≤ b) (h2 : b < 2 ^ k + 2 ^ k) : b ^^^ 2 ^ k = b - 2 ^ k := by
  have h1 : b - 2 ^ k < 2 ^ k := by omega
  have e := xor_top_lo (b - 2 ^ k) k h1
  rw [Nat.sub_add_cancel h] at e
  have e2 : b ^^^ 2 ^ k = ((b - 2 ^ k) ^^^ 2 ^ k) ^^^ 2 ^ k := by rw [e]
  rw [e2, Nat.xor_assoc, Nat.xor_self, Nat.xor_zero]

theorem xor63_lo (b : Nat) (h : b < 9223372036854775808) : b ^^^ 9223372036854775808 = b + 9223372036854775808 := xor_top_lo b 63 h
theorem xor63_hi (b : Nat) (h : 9223372036854775808 ≤ b) (h2 : b < 18446744073709551616) : b ^^^ 9223372036854775808 = b - 9223372036854775808 := xor_top_hi b 63 h h2

theorem xor_ones (b : Nat) (h : b < 18446744073709551616) : 18446744073709551615 ^^^ b = 18446744073709551615 - b := by
  have e := congrArg BitVec.toNat (BitVec.allOnes_xor (x := BitVec.ofNat 64 b))
  rw [BitVec.toNat_xor, BitVec.toNat_not, BitVec.toNat_allOnes, BitVec.toNat_ofNat, Nat.mod_eq_of_lt h] at e
  exact e

theorem or63 (b : Nat) (h : b < 9223372036854775808) : b ||| 9223372036854775808 = b + 9223372036854775808 := by
  have e := nat_join 63 9223372036854775808 b (by omega) h
  rw [Nat.or_comm, e, Nat.add_comm]

theorem and63 (b : Nat) (h : b < 18446744073709551616) : b &&& 9223372036854775808 = if 9223372036854775808 ≤ b then 9223372036854775808 else 0 := by
  have e := nat_bit 63 b
  rw [show (2 : Nat) ^ 63 = 9223372036854775808 from rfl] at e
  rw [e]
  split <;> omega

theorem key_nan {b : Nat} (h : nan b = true) : key b = 18446744073709551615 := by unfold key; rw [h]; rfl
theorem key_neg {b : Nat} (h : nan b = false) (g : ng b = true) : key b = 18446744073709551615 - b := by unfold key; rw [h, g]; rfl
theorem key_pos {b : Nat} (h : nan b = false) (g : ng b = false) : key b = b + 9223372036854775808 := by unfold key; rw [h, g]; rfl

theorem max64 : IntKind.u64.max = 18446744073709551615 := rfl
theorem int_nan {b : Nat} (h : nan b = true) : (18446744073709551615 : Int) = (key b : Int) := by rw [key_nan h]; rfl
theorem int_neg {b : Nat} (hb : Ok b) (h : nan b = false) (g : ng b = true) : bits .xor .u64 IntKind.u64.max (b : Int) = (key b : Int) := by
  rw [key_neg h g, max64]
  exact (u64_xor_nat 18446744073709551615 b (by omega) hb).trans (by rw [xor_ones b hb])
theorem int_pos {b : Nat} (hb : Ok b) (h : nan b = false) (g : ng b = false) : bits .xor .u64 (b : Int) 9223372036854775808 = (key b : Int) := by
  rw [key_pos h g]
  have g' := of_decide_eq_false g
  exact (u64_xor_nat b 9223372036854775808 hb (by omega)).trans (by rw [xor63_lo b (by omega)])
theorem int_pos_or {b : Nat} (hb : Ok b) (h : nan b = false) (g : ng b = false) : bits .or .u64 (b : Int) 9223372036854775808 = (key b : Int) := by
  rw [key_pos h g]
  have g' := of_decide_eq_false g
  exact (u64_or_nat b 9223372036854775808 hb (by omega)).trans (by rw [or63 b (by omega)])
theorem key_ok {b : Nat} (hb : Ok b) : Ok (key b) := by
  unfold Ok at *
  unfold key ng
  split
  · omega
  · split
    · omega
    · rename_i h; simp at h; omega

/-- The word whose key it is, no number where there is none. -/
def back (k : Nat) : Nat := if 9223372036854775808 ≤ k then k - 9223372036854775808 else 18446744073709551615 - k
def of (k : Nat) : Nat := if nan (back k) then 9221120237041090561 else back k
def tops (k : Nat) : Bool := decide (9223372036854775808 ≤ k)
theorem back_ok {k : Nat} (h : Ok k) : Ok (back k) := by unfold Ok back at *; split <;> omega
theorem of_ok {k : Nat} (h : Ok k) : Ok (of k) := by
  unfold of
  split
  · unfold Ok; omega
  · exact back_ok h
theorem and_top {k : Nat} (h : Ok k) : (bits .and .u64 (k : Int) 9223372036854775808 == 0) = !tops k := by
  have e := u64_and_nat k 9223372036854775808 h (by omega)
  rw [and63 k h] at e
  unfold tops
  by_cases g : 9223372036854775808 ≤ k
  · rw [if_pos g] at e
    rw [show bits .and .u64 (k : Int) 9223372036854775808 = 9223372036854775808 from e]
    simp [g]
  · rw [if_neg g] at e
    rw [show bits .and .u64 (k : Int) 9223372036854775808 = 0 from e]
    simp [g]
theorem back_hi {k : Nat} (h : Ok k) (g : tops k = true) : bits .xor .u64 (k : Int) 9223372036854775808 = (back k : Int) := by
  have g' := of_decide_eq_true g
  unfold back
  rw [if_pos g']
  exact (u64_xor_nat k 9223372036854775808 h (by omega)).trans (by rw [xor63_hi k g' h])
theorem back_lo {k : Nat} (h : Ok k) (g : tops k = false) : bits .xor .u64 IntKind.u64.max (k : Int) = (back k : Int) := by
  have g' := of_decide_eq_false g
  unfold back
  rw [if_neg g', max64]
  exact (u64_xor_nat 18446744073709551615 k (by omega) h).trans (by rw [xor_ones k h])
/-- The other sign. -/
def opp (b : Nat) : Nat := if b < 9223372036854775808 then b + 9223372036854775808 else b - 9223372036854775808
theorem opp_eq {b : Nat} (hb : Ok b) : Op.negFloat .f64 b = opp b := by
  unfold Op.negFloat opp
  show b ^^^ 2 ^ 63 = _
  split
  · exact xor63_lo b (by assumption)
  · exact xor63_hi b (by omega) hb
theorem opp_ok {b : Nat} (hb : Ok b) : Ok (opp b) := by unfold Ok opp at *; split <;> omega

/-- Of which kind it is. -/
def kind (b : Nat) : Int := if nan b then 0 else if od b = -9218868437227405312 then 1 else if od b < 0 then 2 else if od b = 0 then (if ng b then 3 else 4) else if od b < 9218868437227405312 then 5 else 6
def eqNInf (b : Nat) : Bool := decide (od b = -9218868437227405312)
def ltZero (b : Nat) : Bool := decide (od b < 0)
def eqZero (b : Nat) : Bool := decide (od b = 0)
def ltInf (b : Nat) : Bool := decide (od b < 9218868437227405312)
theorem kind_eq (b : Nat) : kind b = if nan b then 0 else if eqNInf b then 1 else if ltZero b then 2 else if eqZero b then (if ng b then 3 else 4) else if ltInf b then 5 else 6 := by
  unfold kind eqNInf ltZero eqZero ltInf
  simp only [decide_eq_true_iff]
theorem ok_lit {n : Nat} (h : n < 18446744073709551616) : Ok n := h
theorem c_ninf {b : Nat} (hb : Ok b) (h : nan b = false) : (FloatKind.f64.format.order b 18442240474082181120 == some .eq) = eqNInf b := by
  have e := is_eq hb (ok_lit (n := 18442240474082181120) (by omega))
  rw [h, show nan 18442240474082181120 = false from by decide, show od 18442240474082181120 = -9218868437227405312 from by decide] at e
  exact e
theorem c_zlt {b : Nat} (hb : Ok b) (h : nan b = false) : (FloatKind.f64.format.order b 0 == some .lt) = ltZero b := by
  have e := is_lt hb (ok_lit (n := 0) (by omega))
  rw [h, show nan 0 = false from by decide, show od 0 = 0 from by decide] at e
  exact e
theorem c_zeq {b : Nat} (hb : Ok b) (h : nan b = false) : (FloatKind.f64.format.order b 0 == some .eq) = eqZero b := by
  have e := is_eq hb (ok_lit (n := 0) (by omega))
  rw [h, show nan 0 = false from by decide, show od 0 = 0 from by decide] at e
  exact e
theorem c_inf {b : Nat} (hb : Ok b) (h : nan b = false) : (FloatKind.f64.format.order b 9218868437227405312 == some .lt) = ltInf b := by
  have e := is_lt hb (ok_lit (n := 9218868437227405312) (by omega))
  rw [h, show nan 9218868437227405312 = false from by decide, show od 9218868437227405312 = 9218868437227405312 from by decide] at e
  exact e
theorem od_range {b : Nat} (hb : Ok b) (h : nan b = false) : -9218868437227405312 ≤ od b ∧ od b ≤ 9218868437227405312 := by
  have h' := of_decide_eq_false h
  unfold Ok at hb
  unfold od
  split <;> omega
/-- The reference asks beyond the greatest number. -/
theorem c_nmax {b : Nat} (hb : Ok b) (h : nan b = false) : (FloatKind.f64.format.order b 18442240474082181119 == some .lt) = eqNInf b := by
  have e := is_lt hb (ok_lit (n := 18442240474082181119) (by omega))
  rw [h, show nan 18442240474082181119 = false from by decide, show od 18442240474082181119 = -9218868437227405311 from by decide] at e
  rw [show FloatKind.f64.format = Ieee.double from rfl, e]
  have := od_range hb h
  unfold eqNInf
  simp only [Bool.not_false, Bool.and_self, Bool.true_and]
  rw [Bool.eq_iff_iff, decide_eq_true_iff, decide_eq_true_iff]
  omega
theorem c_max {b : Nat} (hb : Ok b) (h : nan b = false) : (FloatKind.f64.format.order b 9218868437227405311 == some .gt) = !ltInf b := by
  have e := is_gt hb (ok_lit (n := 9218868437227405311) (by omega))
  rw [h, show nan 9218868437227405311 = false from by decide, show od 9218868437227405311 = 9218868437227405311 from by decide] at e
  rw [show FloatKind.f64.format = Ieee.double from rfl, e]
  have := od_range hb h
  unfold ltInf
  simp only [Bool.not_false, Bool.and_self, Bool.true_and]
  rw [← decide_not, Bool.eq_iff_iff, decide_eq_true_iff, decide_eq_true_iff]
  omega
theorem c_self {b : Nat} (hb : Ok b) : (FloatKind.f64.format.order b b != some .eq) = nan b := ne_self b hb
end Go.Proofs.Ythfadeoanjjiaaa.Fl
