/- Whole numbers below 2^53 as words, and their quotients. -/
import Derived.Laws.FloatArith
import Derived.Test.YthfadeoanjjiaaaBi
namespace Go.Proofs.Ythfadeoanjjiaaa.Fl
open Ieee Go

/-- The word of a whole number. -/
def fN (n : Nat) : Nat := floatOfInt .f64 (n : Int)
theorem fN_eq (n : Nat) : fN n = double.nearest false n 0 := by
  unfold fN floatOfInt FloatKind.nearest FloatKind.encode Format.write
  show double.nearest (decide ((n : Int) < 0)) (n : Int).natAbs 0 = _
  rw [Int.natAbs_natCast, decide_eq_false (by omega)]
theorem fN_zero : fN 0 = 0 := by rw [fN_eq]; unfold Format.nearest Format.word; simp
theorem fN_ok (n : Nat) : Ok (fN n) := by
  rw [fN_eq]
  exact double.nearest_lt false n 0

theorem cut_zero (neg : Bool) (n : Nat) : Toward.even.cut neg n 0 = n := by
  unfold Toward.cut
  simp [Nat.mod_one]

/-- With how many noughts behind. -/
def kept (n : Nat) : Nat := n * 2 ^ (52 - n.log2)
theorem log2_le {n : Nat} (h0 : 0 < n) (h : n < 9007199254740992) : n.log2 ≤ 52 := by
  have : n.log2 < 53 := (Nat.log2_lt (by omega)).2 h
  omega
theorem kept_range {n : Nat} (h0 : 0 < n) (h : n < 9007199254740992) : 4503599627370496 ≤ kept n ∧ kept n < 9007199254740992 := by
  have hl := log2_le h0 h
  have h1 : 2 ^ n.log2 ≤ n := Nat.log2_self_le (by omega)
  have h2 : n < 2 ^ (n.log2 + 1) := Nat.lt_log2_self
  have hp : 0 < 2 ^ (52 - n.log2) := Nat.two_pow_pos _
  have e1 : 2 ^ n.log2 * 2 ^ (52 - n.log2) = 4503599627370496 := by
    rw [← Nat.pow_add, show n.log2 + (52 - n.log2) = 52 from by omega]
  have e2 : 2 ^ (n.log2 + 1) * 2 ^ (52 - n.log2) = 9007199254740992 := by
    rw [← Nat.pow_add, show n.log2 + 1 + (52 - n.log2) = 53 from by omega]
  unfold kept
  constructor
  · rw [← e1]; exact Nat.mul_le_mul_right _ h1
  · rw [← e2]; exact Nat.mul_lt_mul_of_pos_right h2 hp

theorem fN_pos {n : Nat} (h0 : 0 < n) (h : n < 9007199254740992) : fN n = (1022 + n.log2) * 4503599627370496 + kept n := by
  have hl := log2_le h0 h
  have hk := kept_range h0 h
  rw [fN_eq]
  unfold Format.nearest
  rw [if_neg (by omega)]
  simp only [bin, ir, lp]
  have e : max (0 + (n.log2 : Int) - double.fractionBits) (-1074) = (n.log2 : Int) - 52 := by
    show max (0 + (n.log2 : Int) - (52 : Nat)) (-1074) = _
    omega
  rw [e]
  have e1 : (0 - ((n.log2 : Int) - 52)).toNat = 52 - n.log2 := by omega
  have e2 : ((n.log2 : Int) - 52 - 0).toNat = 0 := by omega
  have e3 : ((n.log2 : Int) - 52 - -1074).toNat = 1022 + n.log2 := by omega
  rw [e1, e2, e3, cut_zero, Nat.shiftLeft_eq]
  show double.word false (min ((1022 + n.log2) * 4503599627370496 + kept n) 9218868437227405312) = _
  unfold Format.word
  rw [Nat.min_eq_left (by omega)]
  simp

theorem read_fN {n : Nat} (h0 : 0 < n) (h : n < 9007199254740992) : double.read (fN n) = .number false (kept n) ((n.log2 : Int) - 52) := by
  have hl := log2_le h0 h
  have hk := kept_range h0 h
  have e := fN_pos h0 h
  have hr : fN n % 9223372036854775808 = fN n := Nat.mod_eq_of_lt (by omega)
  rw [read_fin (fN_ok n) (by omega), hr]
  have g : ng (fN n) = false := by unfold ng; simp; omega
  unfold mag place
  rw [g, if_neg (by omega), if_neg (by omega)]
  have e1 : fN n % 4503599627370496 = kept n - 4503599627370496 := by omega
  have e2 : fN n / 4503599627370496 = 1023 + n.log2 := by omega
  rw [e1, e2, show 4503599627370496 + (kept n - 4503599627370496) = kept n from by omega, show (-1074 + ((1023 + n.log2 - 1 : Nat) : Int)) = (n.log2 : Int) - 52 from by omega]

/-- How many of the least steps one is. -/
def unit : Nat := 2 ^ 1074
theorem val_fN {n : Nat} (h : n < 9007199254740992) : val (fN n) = n * unit := by
  by_cases h0 : n = 0
  · subst h0; rw [fN_zero, val_zero, Nat.zero_mul]
  · have hl := log2_le (by omega) h
    have hk := kept_range (by omega) h
    have e := fN_pos (by omega) h
    unfold val mag place
    rw [if_neg (by omega), if_neg (by omega)]
    have e1 : fN n % 4503599627370496 = kept n - 4503599627370496 := by omega
    have e2 : fN n / 4503599627370496 = 1023 + n.log2 := by omega
    rw [e1, e2, show 4503599627370496 + (kept n - 4503599627370496) = kept n from by omega]
    unfold kept
    rw [Nat.mul_assoc, ← Nat.pow_add, show 52 - n.log2 + (1023 + n.log2 - 1) = 1074 from by omega]
    unfold unit
    rfl

theorem fN_num (n : Nat) (h : n < 9007199254740992) : fN n < 9218868437227405312 := by
  by_cases h0 : n = 0
  · subst h0; rw [fN_zero]; omega
  · have hl := log2_le (by omega) h
    have hk := kept_range (by omega) h
    have e := fN_pos (by omega) h
    omega

/-- The quotient of two whole numbers. -/
def quoW (n m : Nat) : Nat := (double.div (fN n) (fN m)).getD 0
theorem div_some {n m : Nat} (hn : n < 9007199254740992) (hm : 0 < m) (h : m < 9007199254740992) : double.div (fN n) (fN m) = some (quoW n m) := by
  have hk := kept_range hm h
  have e : (double.div (fN n) (fN m)).isSome = true := by
    unfold Format.div
    rw [Option.isSome_map, read_fN hm h]
    by_cases h0 : n = 0
    · subst h0
      rw [fN_zero, read_fin (by omega) (by omega)]
      simp only [Datum.quotient]
      rw [if_neg (by omega)]
      rfl
    · rw [read_fN (by omega) hn]
      simp only [Datum.quotient]
      rw [if_neg (by omega)]
      rfl
  unfold quoW
  cases hd : double.div (fN n) (fN m) with
  | none => rw [hd] at e; cases e
  | some r => rfl
theorem quoW_ok {n m : Nat} (hn : n < 9007199254740992) (hm : 0 < m) (h : m < 9007199254740992) : Ok (quoW n m) := double.div_lt (div_some hn hm h)
end Go.Proofs.Ythfadeoanjjiaaa.Fl
