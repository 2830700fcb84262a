/- has, In, Null. -/
import Derived.Test.YtkclkhfcmjhogaaDoorZ7
namespace Go.Proofs.YtkclkhfcmjhogaaDoor
open Go.RowKit
set_option linter.unusedVariables false

theorem shr_bit (P : Nat → Bool) (n : Nat) (hn : n < 64) : bits .and .u64 ((limb P 0 : Int) / 2 ^ n) 1 = if P n then 1 else 0 := by
  have e1 : ((limb P 0 : Nat) : Int) / 2 ^ n = ((limb P 0 >>> n : Nat) : Int) := by
    rw [Nat.shiftRight_eq_div_pow]; push_cast; rfl
  have hlt : limb P 0 >>> n < 18446744073709551616 := by
    rw [Nat.shiftRight_eq_div_pow]; exact Nat.lt_of_le_of_lt (Nat.div_le_self _ _) (limb_lt P _)
  have e2 := bits_and_u64_nat (limb P 0 >>> n) 1 hlt (by decide)
  have e3 := limb_bit P 0 hn
  rw [Nat.mul_zero, Nat.zero_add, Nat.testBit_eq_decide_div_mod_eq] at e3
  rw [e1, show (1 : Int) = ((1 : Nat) : Int) from rfl, e2, Nat.and_one_is_mod, Nat.shiftRight_eq_div_pow]
  cases h : P n with
  | true => rw [h, decide_eq_true_eq] at e3; rw [e3]; rfl
  | false =>
    rw [h, decide_eq_false_iff_not] at e3
    rw [show limb P 0 / 2 ^ n % 2 = 0 by omega]; rfl

set_option maxHeartbeats 1000000 in
theorem spansHas (F : Mat) (N n g : Nat) (w : World) (hN : 0 < N) (hn : n ≤ 60) (hF : Hid (Sl w (some ⟨g, 0, none⟩) N (Ux F))) :
    Calls Tryd.prog 45 #[.slice (some ⟨g, 0, none⟩) N N, .int .i64 0, .int .i64 n] w fun e w' => e = .returned (.bool (F 0 n)) ∧ Hid (Qt w w') := by
  obtain ⟨b, o, hb, k0⟩ := hF.out.cellx hN
  obtain ⟨rfl, rfl⟩ : b = g ∧ o = 0 := by have := Option.some.inj hb; injection this with e1 e2; exact ⟨e1.symm, e2.symm⟩
  have hbit := shr_bit (F 0) n (by omega)
  have hn2 : (n : Int) ≤ 60 := by omega
  clear hF hb
  generalize limb (F 0) 0 = x at *
  rw [Nat.zero_add] at k0
  cases hv : F 0 n with
  | true =>
    rw [hv, if_pos rfl] at hbit
    clear hv
    go_enter Tryd.func45, Tryd.ntmps45
    go_wp2_with fail
    go_ret
    exact ⟨rfl, Qt.refl w⟩
  | false =>
    rw [hv, if_neg (by decide)] at hbit
    clear hv
    go_enter Tryd.func45, Tryd.ntmps45
    go_wp2_with fail
    go_ret
    exact ⟨rfl, Qt.refl w⟩

end Go.Proofs.YtkclkhfcmjhogaaDoor
