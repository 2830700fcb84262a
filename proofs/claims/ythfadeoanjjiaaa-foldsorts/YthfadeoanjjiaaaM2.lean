/- The other sign. -/
import Derived.Test.YthfadeoanjjiaaaM1
namespace Go.Proofs.Ythfadeoanjjiaaa

theorem opp_cases (a : Nat) : a < 9223372036854775808 ∧ Fl.opp a = a + 9223372036854775808 ∨ 9223372036854775808 ≤ a ∧ Fl.opp a + 9223372036854775808 = a := by
  unfold Fl.opp
  by_cases h : a < 9223372036854775808
  · rw [if_pos h]; exact .inl ⟨h, rfl⟩
  · rw [if_neg h]; exact .inr ⟨by omega, by omega⟩
theorem nan_opp {a : Nat} (_ha : Fl.Ok a) : Fl.nan (Fl.opp a) = Fl.nan a := by
  unfold Fl.nan
  rw [Bool.eq_iff_iff, decide_eq_true_iff, decide_eq_true_iff]
  rcases opp_cases a with ⟨h, e⟩ | ⟨h, e⟩ <;> omega
theorem ng_opp {a : Nat} (ha : Fl.Ok a) : Fl.ng (Fl.opp a) = !Fl.ng a := by
  unfold Fl.ng
  rw [← decide_not, Bool.eq_iff_iff, decide_eq_true_iff, decide_eq_true_iff]
  rcases opp_cases a with ⟨h, e⟩ | ⟨h, e⟩ <;> unfold Fl.Ok at ha <;> omega
theorem od_opp {a : Nat} (ha : Fl.Ok a) : Fl.od (Fl.opp a) = -Fl.od a := by
  unfold Fl.od
  rcases opp_cases a with ⟨h, e⟩ | ⟨h, e⟩ <;> unfold Fl.Ok at ha
  · rw [if_neg (by omega), if_pos h]; omega
  · rw [if_pos (by omega), if_neg (by omega)]; omega
theorem key_opp {a : Nat} (ha : Fl.Ok a) (h : Fl.nan a = false) : Fl.key (Fl.opp a) + Fl.key a = 18446744073709551615 := by
  have h2 : Fl.nan (Fl.opp a) = false := (nan_opp ha).trans h
  have g2 := ng_opp ha
  cases g : Fl.ng a
  · rw [g] at g2
    have k1 := Fl.key_pos h g
    have k2 := Fl.key_neg h2 g2
    rcases opp_cases a with ⟨h, e⟩ | ⟨h, e⟩ <;> unfold Fl.Ok at ha
    · omega
    · have := of_decide_eq_false g; omega
  · rw [g] at g2
    have k1 := Fl.key_neg h g
    have k2 := Fl.key_pos h2 g2
    have g' := of_decide_eq_true g
    rcases opp_cases a with ⟨h, e⟩ | ⟨h, e⟩ <;> unfold Fl.Ok at ha <;> omega
theorem cmp_turn (p q p2 q2 m : Int) (h : p2 + p = m) (g : q2 + q = m) : cmpI q2 p2 = cmpI p q := by
  unfold cmpI
  repeat' split
  all_goals first | rfl | (exfalso; omega)
theorem ord_opp {a b : Nat} (ha : Fl.Ok a) (hb : Fl.Ok b) (h : Fl.nan a = false) (g : Fl.nan b = false) : ordB (Fl.opp b) (Fl.opp a) = ordB a b := by
  have k1 := key_opp ha h
  have k2 := key_opp hb g
  exact cmp_turn _ _ _ _ 18446744073709551615 (by omega) (by omega)
theorem ord_anti (a b : Nat) : ordB b a = -ordB a b := by
  unfold ordB cmpI
  repeat' split
  all_goals first | rfl | (exfalso; omega)
theorem ord_three (a b : Nat) : ordB a b = -1 ∨ ordB a b = 0 ∨ ordB a b = 1 := by
  unfold ordB cmpI
  repeat' split
  all_goals simp
theorem same_opp {a b : Nat} (ha : Fl.Ok a) (hb : Fl.Ok b) (h : Fl.nan a = false) (g : Fl.nan b = false) : (ordB (Fl.opp a) (Fl.opp b) == 0) = (ordB a b == 0) := by
  rw [ord_opp hb ha g h, ord_anti a b, Bool.eq_iff_iff, beq_iff_eq, beq_iff_eq]
  omega
theorem kind_opp {a : Nat} (ha : Fl.Ok a) (h : Fl.nan a = false) : Fl.kind (Fl.opp a) = 7 - Fl.kind a := by
  have h2 : Fl.nan (Fl.opp a) = false := (nan_opp ha).trans h
  have r := Fl.od_range ha h
  unfold Fl.kind
  rw [h, h2, od_opp ha, ng_opp ha]
  simp only [Bool.false_eq_true, if_false]
  cases Fl.ng a <;> simp only [Bool.not_true, Bool.not_false, Bool.false_eq_true, if_false, if_true] <;> repeat' split
  all_goals first | rfl | (exfalso; omega)
theorem kind_range {a : Nat} (h : Fl.nan a = false) : Fl.kind a = 1 ∨ Fl.kind a = 2 ∨ Fl.kind a = 3 ∨ Fl.kind a = 4 ∨ Fl.kind a = 5 ∨ Fl.kind a = 6 := by
  unfold Fl.kind
  rw [h]
  simp only [Bool.false_eq_true, if_false]
  repeat' split
  all_goals simp
end Go.Proofs.Ythfadeoanjjiaaa
