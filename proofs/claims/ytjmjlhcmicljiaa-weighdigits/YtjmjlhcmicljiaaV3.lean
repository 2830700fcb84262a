/- Sums and products of whole numbers as words. -/
import Derived.Test.YtjmjlhcmicljiaaV2
namespace Go.Proofs.Ytjmjlhcmicljiaa.Fl
open Ieee Go

theorem read_whole {n : Nat} (h : n < 9007199254740992) : ∃ t : Nat, t ≤ 1074 ∧ double.read (fN n) = .number false (n * 2 ^ t) (-(t : Int)) := by
  by_cases h0 : n = 0
  · subst h0
    have key : ∀ t : Nat, t = 1074 → t ≤ 1074 ∧ double.read (fN 0) = .number false (0 * 2 ^ t) (-(t : Int)) := by
      intro t ht
      rw [Nat.zero_mul, fN_zero, ht]
      exact ⟨Nat.le_refl _, by decide +kernel⟩
    exact ⟨_, key _ rfl⟩
  · have hl := log2_le (by omega) h
    refine ⟨52 - n.log2, by omega, ?_⟩
    rw [read_fN (by omega) h]
    have e : (n.log2 : Int) - 52 = -((52 - n.log2 : Nat) : Int) := by omega
    rw [e]
    rfl

theorem mul_fN {a b : Nat} (ha : a < 9007199254740992) (hb : b < 9007199254740992) (hab : a * b < 9007199254740992) : double.mul (fN a) (fN b) = some (fN (a * b)) := by
  obtain ⟨s, _, hs⟩ := read_whole ha
  obtain ⟨t, _, ht⟩ := read_whole hb
  unfold Format.mul
  rw [hs, ht]
  simp only [Datum.product, Option.map_some, Option.some.injEq]
  show double.nearest (false ^^ false) _ _ = _
  have e : a * 2 ^ s * (b * 2 ^ t) = a * b * 2 ^ (s + t) := by
    rw [Nat.pow_add, Nat.mul_mul_mul_comm]
  have e2 : -(s : Int) + -(t : Int) = -((s + t : Nat) : Int) := by omega
  rw [e, e2]
  exact nearest_whole _ hab

theorem add_fN {a b : Nat} (ha : a < 9007199254740992) (hb : b < 9007199254740992) (hab : a + b < 9007199254740992) : double.add (fN a) (fN b) = some (fN (a + b)) := by
  obtain ⟨s, _, hs⟩ := read_whole ha
  obtain ⟨t, _, ht⟩ := read_whole hb
  unfold Format.add
  rw [hs, ht]
  simp only [Datum.sum, Option.map_some, Option.some.injEq]
  have e1 : (-(s : Int) - min (-(s : Int)) (-(t : Int))).toNat = max s t - s := by omega
  have e2 : (-(t : Int) - min (-(s : Int)) (-(t : Int))).toNat = max s t - t := by omega
  have e3 : min (-(s : Int)) (-(t : Int)) = -((max s t : Nat) : Int) := by omega
  rw [e1, e2, e3, signed_eq, signed_eq, pow_join a s (max s t - s) (max s t) (by omega), pow_join b t (max s t - t) (max s t) (by omega)]
  simp only [Bool.false_eq_true, if_false]
  have e4 : ((a * 2 ^ max s t : Nat) : Int) + ((b * 2 ^ max s t : Nat) : Int) = (((a + b) * 2 ^ max s t : Nat) : Int) := by
    rw [Nat.add_mul]
    omega
  rw [e4, Int.natAbs_natCast]
  have e5 : (if (((a + b) * 2 ^ max s t : Nat) : Int) = 0 then false && false else decide ((((a + b) * 2 ^ max s t : Nat) : Int) < 0)) = false := by
    split
    · rfl
    · exact decide_eq_false (by omega)
  rw [e5]
  exact nearest_whole _ hab

theorem read_half : double.read 4602678819172646912 = .number false 4503599627370496 (-53) := by decide +kernel

theorem add_half {a : Nat} (ha : 2 * a + 1 < 9007199254740992) : double.add (fN a) 4602678819172646912 = some (quoW (2 * a + 1) 2) := by
  obtain ⟨s, _, hs⟩ := read_whole (n := a) (by omega)
  unfold Format.add
  rw [hs, read_half]
  simp only [Datum.sum, Option.map_some, Option.some.injEq]
  have e1 : (-(s : Int) - min (-(s : Int)) (-53)).toNat = max s 53 - s := by omega
  have e2 : (-53 - min (-(s : Int)) (-53)).toNat = max s 53 - 53 := by omega
  have e3 : min (-(s : Int)) (-53) = -((max s 53 - 1 : Nat) : Int) - (1 : Nat) := by omega
  have hh : 4503599627370496 * 2 ^ (max s 53 - 53) = 1 * 2 ^ (max s 53 - 1) := by
    have := pow_join 1 52 (max s 53 - 53) (max s 53 - 1) (by omega)
    rw [← this]
  have ha2 : a * 2 ^ max s 53 = 2 * a * 2 ^ (max s 53 - 1) := by
    rw [Nat.mul_comm 2 a, Nat.mul_assoc, ← Nat.pow_succ', Nat.succ_eq_add_one, show max s 53 - 1 + 1 = max s 53 from by omega]
  rw [e1, e2, e3, signed_eq, signed_eq, pow_join a s (max s 53 - s) (max s 53) (by omega), hh, ha2]
  simp only [Bool.false_eq_true, if_false]
  have e4 : ((2 * a * 2 ^ (max s 53 - 1) : Nat) : Int) + ((1 * 2 ^ (max s 53 - 1) : Nat) : Int) = (((2 * a + 1) * 2 ^ (max s 53 - 1) : Nat) : Int) := by
    rw [Nat.add_mul]
    omega
  rw [e4, Int.natAbs_natCast]
  have e5 : (if (((2 * a + 1) * 2 ^ (max s 53 - 1) : Nat) : Int) = 0 then false && false else decide ((((2 * a + 1) * 2 ^ (max s 53 - 1) : Nat) : Int) < 0)) = false := by
    split
    · rfl
    · exact decide_eq_false (by omega)
  rw [e5]
  show double.nearest false _ _ = _
  rw [nearest_exact _ 1 (by omega) ha (by omega)]
  have hl := log2_le (n := 2 * a + 1) (by omega) ha
  have hk := kept_range (n := 2 * a + 1) (by omega) ha
  apply val_inj
  obtain ⟨_, _, _, _, _, _, h⟩ := quo_two (n := 2 * a + 1) (by omega) ha 1 (by omega)
  rw [show (2 : Nat) ^ 1 = 2 from rfl] at h
  have v := word_val (P := 1022 + (2 * a + 1).log2 - 1) (K := kept (2 * a + 1)) (by omega) (by omega)
  have v2 : kept (2 * a + 1) * 2 ^ (1022 + (2 * a + 1).log2 - 1) * 2 = (2 * a + 1) * unit := by
    unfold kept
    rw [pow_join _ _ _ 1073 (by omega)]
    have := pow_join (2 * a + 1) 1073 1 1074 rfl
    rw [Nat.pow_one] at this
    rw [this]
    unfold unit
    rfl
  omega
end Go.Proofs.Ytjmjlhcmicljiaa.Fl
