/- Keys and words, there and back. -/
import Derived.Test.YthfadeoanjjiaaaL2
namespace Go.Proofs.Ythfadeoanjjiaaa

theorem key_back {k : Nat} (hk : Fl.Ok k) (h : Fl.nan (Fl.back k) = false) : Fl.key (Fl.back k) = k := by
  unfold Fl.Ok at hk
  by_cases g : 9223372036854775808 ≤ k
  · have e : Fl.back k = k - 9223372036854775808 := by unfold Fl.back; rw [if_pos g]
    have n : Fl.ng (Fl.back k) = false := by unfold Fl.ng; rw [e]; simp; omega
    rw [Fl.key_pos h n, e]
    omega
  · have e : Fl.back k = 18446744073709551615 - k := by unfold Fl.back; rw [if_neg g]
    have n : Fl.ng (Fl.back k) = true := by unfold Fl.ng; rw [e]; simp; omega
    rw [Fl.key_neg h n, e]
    omega

theorem back_key {b : Nat} (hb : Fl.Ok b) (h : Fl.nan b = false) : Fl.back (Fl.key b) = b := by
  unfold Fl.Ok at hb
  cases n : Fl.ng b
  · rw [Fl.key_pos h n]
    unfold Fl.back
    rw [if_pos (by omega)]
    omega
  · rw [Fl.key_neg h n]
    have := of_decide_eq_true n
    unfold Fl.back
    rw [if_neg (by omega)]
    omega

theorem nan_word : Fl.nan 9221120237041090561 = true := by decide +kernel

theorem cmp_self (x : Int) : cmpI x x = 0 := by unfold cmpI; simp
theorem ordB_self (a : Nat) : ordB a a = 0 := cmp_self _
theorem ordB_nan {a b : Nat} (ha : Fl.nan a = true) (hb : Fl.nan b = true) : ordB a b = 0 := by
  unfold ordB
  rw [Fl.key_nan ha, Fl.key_nan hb]
  exact cmp_self _

theorem key_of_key {a : Nat} (ha : Fl.Ok a) : Fl.key (Fl.of (Fl.key a)) = Fl.key a := by
  cases h : Fl.nan a
  · have e : Fl.of (Fl.key a) = a := by unfold Fl.of; rw [back_key ha h, h]; rfl
    rw [e]
  · rw [Fl.key_nan h]
    decide +kernel
theorem of_key {a : Nat} (ha : Fl.Ok a) : ordB (Fl.of (Fl.key a)) a = 0 := by
  unfold ordB
  rw [key_of_key ha]
  exact cmp_self _
theorem ordB_lt {a b : Nat} (h : (Fl.key a : Int) < Fl.key b) : ordB a b = -1 := by unfold ordB cmpI; rw [if_pos h]
theorem ordB_gt {a b : Nat} (h : (Fl.key b : Int) < Fl.key a) : ordB a b = 1 := by unfold ordB cmpI; rw [if_neg (by omega), if_pos h]
theorem ordB_eq0 {a b : Nat} (h : (Fl.key a : Int) = Fl.key b) : ordB a b = 0 := by unfold ordB cmpI; rw [if_neg (by omega), if_neg (by omega)]
end Go.Proofs.Ythfadeoanjjiaaa
