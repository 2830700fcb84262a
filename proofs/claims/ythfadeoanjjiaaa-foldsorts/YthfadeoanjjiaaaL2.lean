/- What Kind and the reference's small functions answer, as functions of the words. -/
import Derived.Test.YthfadeoanjjiaaaL1
import Derived.Deep.RegionWith
namespace Go.Proofs.Ythfadeoanjjiaaa
open Go.RowKit

theorem shr63 (b : Nat) (hb : Fl.Ok b) : ((b : Int) / 9223372036854775808 == 1) = Fl.tops b := by
  unfold Fl.Ok at hb
  unfold Fl.tops
  rw [Bool.eq_iff_iff, beq_iff_eq, decide_eq_true_iff]
  omega

def ltB (a b : Nat) : Bool := decide (Fl.od a < Fl.od b)
theorem c_lt {a b : Nat} (ha : Fl.Ok a) (hb : Fl.Ok b) (h : Fl.nan a = false) (g : Fl.nan b = false) : (FloatKind.f64.format.order a b == some .lt) = ltB a b := by
  have e := Fl.is_lt ha hb
  rw [h, g] at e
  exact e
theorem c_gt {a b : Nat} (ha : Fl.Ok a) (hb : Fl.Ok b) (h : Fl.nan a = false) (g : Fl.nan b = false) : (FloatKind.f64.format.order a b == some .gt) = ltB b a := by
  have e := Fl.is_gt ha hb
  rw [h, g] at e
  exact e

theorem key_num {b : Nat} (hb : Fl.Ok b) (h : Fl.nan b = false) : (Fl.key b : Int) = (if Fl.ng b then 9223372036854775807 else 9223372036854775808) + Fl.od b := by
  unfold Fl.Ok at hb
  cases g : Fl.ng b
  · rw [Fl.key_pos h g]
    have g' := of_decide_eq_false g
    unfold Fl.od
    simp only [Bool.false_eq_true, if_false]
    rw [if_pos (by omega)]
    omega
  · rw [Fl.key_neg h g]
    have g' := of_decide_eq_true g
    unfold Fl.od
    simp only [if_true]
    rw [if_neg (by omega)]
    omega

theorem od_sign {b : Nat} (hb : Fl.Ok b) : (Fl.ng b = true → Fl.od b ≤ 0) ∧ (Fl.ng b = false → 0 ≤ Fl.od b) := by
  unfold Fl.Ok at hb
  unfold Fl.od Fl.ng
  simp only [decide_eq_true_iff, decide_eq_false_iff_not]
  split <;> constructor <;> intro <;> omega

/-- What the reference's Order tells, case by case. -/
def refOrd (a b : Nat) : Int := if Fl.nan a then (if Fl.nan b then 0 else 1) else if Fl.nan b then -1 else if ltB a b then -1 else if ltB b a then 1 else if Fl.eqZero a then (if Fl.ng a then (if Fl.ng b then 0 else -1) else if Fl.ng b then 1 else 0) else 0

theorem key_small {b : Nat} (hb : Fl.Ok b) (h : Fl.nan b = false) : (Fl.key b : Int) < 18446744073709551615 := by
  have h1 := Fl.od_range hb h
  rw [key_num hb h]
  split <;> omega

theorem ordB_eq {a b : Nat} (ha : Fl.Ok a) (hb : Fl.Ok b) : ordB a b = refOrd a b := by
  unfold ordB refOrd cmpI
  cases h : Fl.nan a
  · cases g : Fl.nan b
    · have s1 := od_sign ha
      have s2 := od_sign hb
      rw [key_num ha h, key_num hb g]
      unfold ltB Fl.eqZero
      simp only [decide_eq_true_iff, Bool.false_eq_true, if_false]
      cases g1 : Fl.ng a <;> cases g2 : Fl.ng b <;> simp only [g1, g2, Bool.false_eq_true, if_false, if_true, forall_const, false_implies, and_true, true_and, reduceCtorEq] at *
      all_goals
        repeat' split
        all_goals first | rfl | (exfalso; omega)
    · have s := key_small ha h
      rw [Fl.key_nan g]
      simp only [Bool.false_eq_true, if_false, if_true]
      rw [if_pos (by omega)]
  · cases g : Fl.nan b
    · have s := key_small hb g
      rw [Fl.key_nan h]
      simp only [Bool.false_eq_true, if_false, if_true]
      rw [if_neg (by omega), if_pos (by omega)]
    · rw [Fl.key_nan h, Fl.key_nan g]
      simp

set_option maxHeartbeats 1000000 in
theorem refOrder_any (a b : Nat) (ha : Fl.Ok a) (hb : Fl.Ok b) (w : World) :
    Calls Try.prog 22 #[.float .f64 a, .float .f64 b] w fun e w' => e = .returned (.int .i64 (ordB a b)) ∧ w' = w := by
  rw [ordB_eq ha hb]
  have A : Hid (Fl.Ok a) := ha
  have B : Hid (Fl.Ok b) := hb
  have R : Hid _ := refOrd.eq_1 a b
  cases h : Fl.nan a
  · have ca := (Fl.c_self ha).trans h
    cases g : Fl.nan b
    · have cb := (Fl.c_self hb).trans g
      cases t1 : ltB a b
      · have c1 := (c_lt ha hb h g).trans t1
        cases t2 : ltB b a
        · have c2 := (c_gt ha hb h g).trans t2
          cases t3 : Fl.eqZero a
          · have c3 := (Fl.c_zeq ha h).trans t3
            clear ha hb
            go_enter Try.func22, Try.ntmps22
            go_wp2_with fail
            go_ret
            exact ⟨ret_int (by rw [R.out, h, g, t1, t2, t3]; rfl), rfl⟩
          · have c3 := (Fl.c_zeq ha h).trans t3
            clear ha hb
            cases g1 : Fl.ng a <;> cases g2 : Fl.ng b
            · go_enter Try.func22, Try.ntmps22
              go_wp2_with fail
              refine (signbit_any a A.out _).mono ?_
              rintro e w' ⟨rfl, rfl⟩
              go_wp2_with fail
              refine (signbit_any b B.out _).mono ?_
              rintro e w' ⟨rfl, rfl⟩
              go_wp2_with fail
              go_ret
              exact ⟨ret_int (by rw [R.out, h, g, t1, t2, t3, g1, g2]; rfl), rfl⟩
            · go_enter Try.func22, Try.ntmps22
              go_wp2_with fail
              refine (signbit_any a A.out _).mono ?_
              rintro e w' ⟨rfl, rfl⟩
              go_wp2_with fail
              refine (signbit_any b B.out _).mono ?_
              rintro e w' ⟨rfl, rfl⟩
              go_wp2_with fail
              refine (signbit_any a A.out _).mono ?_
              rintro e w' ⟨rfl, rfl⟩
              go_wp2_with fail
              go_ret
              exact ⟨ret_int (by rw [R.out, h, g, t1, t2, t3, g1, g2]; rfl), rfl⟩
            · go_enter Try.func22, Try.ntmps22
              go_wp2_with fail
              refine (signbit_any a A.out _).mono ?_
              rintro e w' ⟨rfl, rfl⟩
              go_wp2_with fail
              refine (signbit_any b B.out _).mono ?_
              rintro e w' ⟨rfl, rfl⟩
              go_wp2_with fail
              refine (signbit_any a A.out _).mono ?_
              rintro e w' ⟨rfl, rfl⟩
              go_wp2_with fail
              go_ret
              exact ⟨ret_int (by rw [R.out, h, g, t1, t2, t3, g1, g2]; rfl), rfl⟩
            · go_enter Try.func22, Try.ntmps22
              go_wp2_with fail
              refine (signbit_any a A.out _).mono ?_
              rintro e w' ⟨rfl, rfl⟩
              go_wp2_with fail
              refine (signbit_any b B.out _).mono ?_
              rintro e w' ⟨rfl, rfl⟩
              go_wp2_with fail
              go_ret
              exact ⟨ret_int (by rw [R.out, h, g, t1, t2, t3, g1, g2]; rfl), rfl⟩
        · have c2 := (c_gt ha hb h g).trans t2
          clear ha hb
          go_enter Try.func22, Try.ntmps22
          go_wp2_with fail
          go_ret
          exact ⟨ret_int (by rw [R.out, h, g, t1, t2]; rfl), rfl⟩
      · have c1 := (c_lt ha hb h g).trans t1
        clear ha hb
        go_enter Try.func22, Try.ntmps22
        go_wp2_with fail
        go_ret
        exact ⟨ret_int (by rw [R.out, h, g, t1]; rfl), rfl⟩
    · have cb := (Fl.c_self hb).trans g
      clear ha hb
      go_enter Try.func22, Try.ntmps22
      go_wp2_with fail
      go_ret
      exact ⟨ret_int (by rw [R.out, h, g]; rfl), rfl⟩
  · have ca := (Fl.c_self ha).trans h
    cases g : Fl.nan b
    · have cb := (Fl.c_self hb).trans g
      clear ha hb
      go_enter Try.func22, Try.ntmps22
      go_wp2_with fail
      go_ret
      exact ⟨ret_int (by rw [R.out, h, g]; rfl), rfl⟩
    · have cb := (Fl.c_self hb).trans g
      clear ha hb
      go_enter Try.func22, Try.ntmps22
      go_wp2_with fail
      go_ret
      exact ⟨ret_int (by rw [R.out, h, g]; rfl), rfl⟩

set_option maxHeartbeats 400000 in
theorem refSame_any (a b : Nat) (ha : Fl.Ok a) (hb : Fl.Ok b) (w : World) :
    Calls Try.prog 14 #[.float .f64 a, .float .f64 b] w fun e w' => e = .returned (.bool (ordB a b == 0)) ∧ w' = w := by
  go_enter Try.func14, Try.ntmps14
  go_wp2_with fail
  refine (refOrder_any a b ha hb _).mono ?_
  rintro e w' ⟨rfl, rfl⟩
  go_wp2_with fail
  go_ret
  exact ⟨rfl, rfl⟩

end Go.Proofs.Ythfadeoanjjiaaa
