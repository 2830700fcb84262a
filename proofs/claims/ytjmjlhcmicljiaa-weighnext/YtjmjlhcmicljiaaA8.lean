/- WeighNext: the call returns true. -/
import Derived.Test.YtjmjlhcmicljiaaM1
import Derived.Test.YtjmjlhcmicljiaaL6
namespace Go.Proofs.Ytjmjlhcmicljiaa
open Go.RowKit

theorem nan_lt {b : Nat} (hb : Fl.Ok b) : Fl.nan b = false ↔ (b ≤ 9218868437227405312 ∨ 9223372036854775808 ≤ b ∧ b ≤ 18442240474082181120) := by
  unfold Fl.Ok at hb
  unfold Fl.nan
  rw [decide_eq_false_iff_not]
  omega
theorem ng_iff (b : Nat) : Fl.ng b = false ↔ b < 9223372036854775808 := by
  unfold Fl.ng
  rw [decide_eq_false_iff_not]
  omega
theorem ng_iff' (b : Nat) : Fl.ng b = true ↔ 9223372036854775808 ≤ b := by
  unfold Fl.ng
  rw [decide_eq_true_iff]

/-- What the next word is, of a number that is neither the positive infinity nor the negative nought. -/
structure Next (a b : Nat) : Prop where
  num : Fl.nan b = false
  okB : Fl.Ok b
  keyB : Fl.key b = Fl.key a + 1
  up : Fl.od b = Fl.od a + 1
  top : Fl.key a + 1 < 18446744073709551615

theorem next_of {a : Nat} (ha : Fl.Ok a) (h : Fl.nan a = false) (hi : ¬ a = 9218868437227405312) (hz : ¬ a = 9223372036854775808) : Next a (Fl.of (Fl.key a + 1)) := by
  have hn := (nan_lt ha).1 h
  unfold Fl.Ok at ha
  cases g : Fl.ng a
  · have g' := (ng_iff a).1 g
    have e : Fl.key a + 1 = a + 9223372036854775809 := by have := Fl.key_pos h g; omega
    have eb : Fl.back (Fl.key a + 1) = a + 1 := by rw [e]; unfold Fl.back; rw [if_pos (by omega)]; omega
    have ok : Fl.Ok (a + 1) := by unfold Fl.Ok; omega
    have nb : Fl.nan (a + 1) = false := (nan_lt ok).2 (by omega)
    have eo : Fl.of (Fl.key a + 1) = a + 1 := by unfold Fl.of; rw [eb, nb]; rfl
    have gb : Fl.ng (a + 1) = false := (ng_iff _).2 (by omega)
    rw [eo]
    have kb := Fl.key_pos nb gb
    refine ⟨nb, ok, by omega, ?_, by omega⟩
    unfold Fl.od
    rw [if_pos (by omega), if_pos (by omega)]
    omega
  · have g' := (ng_iff' a).1 g
    have e : Fl.key a + 1 = 18446744073709551616 - a := by have := Fl.key_neg h g; omega
    have eb : Fl.back (Fl.key a + 1) = a - 1 := by rw [e]; unfold Fl.back; rw [if_neg (by omega)]; omega
    have ok : Fl.Ok (a - 1) := by unfold Fl.Ok; omega
    have nb : Fl.nan (a - 1) = false := (nan_lt ok).2 (by omega)
    have eo : Fl.of (Fl.key a + 1) = a - 1 := by unfold Fl.of; rw [eb, nb]; rfl
    have gb : Fl.ng (a - 1) = true := (ng_iff' _).2 (by omega)
    rw [eo]
    have kb := Fl.key_neg nb gb
    refine ⟨nb, ok, by omega, ?_, by omega⟩
    unfold Fl.od
    rw [if_neg (by omega), if_neg (by omega)]
    omega

theorem kind3 {a : Nat} (ha : Fl.Ok a) (h : Fl.nan a = false) (hz : ¬ a = 9223372036854775808) : (Fl.kind a == 3) = false := by
  rw [beq_eq_false_iff_ne]
  unfold Fl.kind
  rw [h]
  simp only [Bool.false_eq_true, if_false]
  have hn := (nan_lt ha).1 h
  have g1 := ng_iff' a
  unfold Fl.Ok at ha
  unfold Fl.od
  repeat' split
  all_goals first | omega | (rename_i k1 k2; have := g1.1 k2; omega)
theorem kind6 {a : Nat} (ha : Fl.Ok a) (h : Fl.nan a = false) (hi : ¬ a = 9218868437227405312) : (Fl.kind a == 6) = false := by
  rw [beq_eq_false_iff_ne]
  unfold Fl.kind
  rw [h]
  simp only [Bool.false_eq_true, if_false]
  have hn := (nan_lt ha).1 h
  unfold Fl.Ok at ha
  unfold Fl.od
  repeat' split
  all_goals omega
theorem kind4 {a b : Nat} (ha : Fl.Ok a) (n : Next a b) : (Fl.kind b == 4) = false := by
  rw [beq_eq_false_iff_ne, Fl.kind_eq, n.num]
  cases z : Fl.eqZero b
  · simp only [Bool.false_eq_true, if_false]
    repeat' split
    all_goals omega
  · have z' := of_decide_eq_true z
    have u := n.up
    have gb : Fl.ng b = true := by
      unfold Fl.Ok at ha
      have ob := n.okB
      unfold Fl.Ok at ob
      have k := n.keyB
      have t := n.top
      cases g : Fl.ng b
      · exfalso
        have kb := Fl.key_pos n.num g
        have g' := (ng_iff b).1 g
        have b0 : b = 0 := by
          unfold Fl.od at z'
          rw [if_pos g'] at z'
          omega
        have oa : Fl.od a = -1 := by omega
        have ga : Fl.ng a = true := by
          cases q : Fl.ng a
          · have q' := (ng_iff a).1 q
            unfold Fl.od at oa
            rw [if_pos q'] at oa
            omega
          · rfl
        have ga' := (ng_iff' a).1 ga
        unfold Fl.od at oa
        rw [if_neg (by omega)] at oa
        have ha2 : a = 9223372036854775809 := by omega
        have nA : Fl.nan a = false := by rw [ha2]; decide +kernel
        have ka := Fl.key_neg nA ga
        omega
      · rfl
    rw [gb]
    simp only [Bool.false_eq_true, if_false, if_true]
    repeat' split
    all_goals omega

theorem gt_next {a b : Nat} (ha : Fl.Ok a) (h : Fl.nan a = false) (n : Next a b) : (FloatKind.f64.format.order b a == some .gt) = true := by
  rw [c_gt n.okB ha n.num h]
  unfold ltB
  rw [decide_eq_true_iff]
  have := n.up
  omega

theorem wrap_u64_in (k : Nat) (h : k + 1 < 18446744073709551615) : IntKind.u64.wrap ((k : Int) + 1) = (k : Int) + 1 := by
  rw [IntKind.wrap_u64]
  omega

set_option maxHeartbeats 400000 in
theorem next_plain (a b : Nat) (A : Hid (Fl.Ok a)) (hna : (FloatKind.f64.format.order a a != some .eq) = false) (n : Hid (Next a b)) (hk : Hid (Fl.of (Fl.key a + 1) = b)) (h6 : (Fl.kind a == 6) = false) (h3 : (Fl.kind a == 3) = false) (h4 : (Fl.kind b == 4) = false) (hg : (FloatKind.f64.format.order b a == some .gt) = true) (w : World) :
    Calls Try.prog 8 #[.float .f64 a] w fun e w' => e = .returned (.bool true) ∧ Below w.heap.size w w' := by
  have hw := wrap_u64_in (Fl.key a) n.out.top
  have ob : Hid (Fl.Ok b) := n.out.okB
  have O : Hid (ordB a b = -1) := ordB_lt (by have := n.out.keyB; omega)
  have Kb : Hid (((Fl.key b : Nat) : Int) = (Fl.key a : Int) + 1) := by show _ = _; have := n.out.keyB; omega
  have Ok1 : Hid (Fl.Ok (Fl.key a + 1)) := by show _ < _; have := n.out.top; omega
  go_enter Try.func8, Try.ntmps8
  go_wp2_with fail
  refine (begun_any _).mono ?_
  rintro e w1 ⟨rfl, hb1⟩
  have B1 : Hid _ := hb1
  clear hb1
  go_wp2_with fail
  refine (key_any a A.out _).mono ?_
  rintro e w' ⟨rfl, rfl⟩
  go_wp2_with fail
  rw [show ((Fl.key a : Nat) : Int) + 1 = ((Fl.key a + 1 : Nat) : Int) from rfl]
  refine (of_any (Fl.key a + 1) Ok1.out _).mono ?_
  rintro e w' ⟨rfl, rfl⟩
  rw [hk.out]
  go_wp2_with fail
  refine (kind_any a A.out _).mono ?_
  rintro e w' ⟨rfl, rfl⟩
  go_wp2_with fail
  refine (order_any a b A.out ob.out _).mono ?_
  rintro e w' ⟨rfl, rfl⟩
  rw [O.out]
  go_wp2_with fail
  refine (key_any b ob.out _).mono ?_
  rintro e w' ⟨rfl, rfl⟩
  rw [Kb.out]
  go_wp2_with fail
  refine (kind_any a A.out _).mono ?_
  rintro e w' ⟨rfl, rfl⟩
  go_wp2_with fail
  refine (kind_any b ob.out _).mono ?_
  rintro e w' ⟨rfl, rfl⟩
  go_wp2_with fail
  go_ret
  exact ⟨rfl, B1.out⟩

theorem key_max_beq {a : Nat} (h : Fl.nan a = true) : (((Fl.key a : Nat) : Int) == 18446744073709551615) = true := by
  rw [Fl.key_nan h]
  decide

set_option maxHeartbeats 400000 in
theorem next_nan (a : Nat) (A : Hid (Fl.Ok a)) (hna : (FloatKind.f64.format.order a a != some .eq) = true) (K : Hid ((((Fl.key a : Nat) : Int) == 18446744073709551615) = true)) (w : World) :
    Calls Try.prog 8 #[.float .f64 a] w fun e w' => e = .returned (.bool true) ∧ Below w.heap.size w w' := by
  go_enter Try.func8, Try.ntmps8
  go_wp2_with fail
  refine (begun_any _).mono ?_
  rintro e w1 ⟨rfl, hb1⟩
  have B1 : Hid _ := hb1
  clear hb1
  go_wp2_with fail
  refine (key_any a A.out _).mono ?_
  rintro e w' ⟨rfl, rfl⟩
  go_wp2_with fail
  go_ret
  exact ⟨ret_bool K.out, B1.out⟩

theorem inf_self : (FloatKind.f64.format.order 9218868437227405312 9218868437227405312 != some .eq) = false := by decide +kernel
theorem nan_self : (FloatKind.f64.format.order 9221120237041090561 9221120237041090561 != some .eq) = true := by decide +kernel
theorem key_inf : Fl.key 9218868437227405312 = 18442240474082181120 := by decide +kernel
theorem of_inf1 : Fl.of 18442240474082181121 = 9221120237041090561 := by decide +kernel
theorem kind_inf : Fl.kind 9218868437227405312 = 6 := by decide +kernel

set_option maxHeartbeats 400000 in
theorem next_inf (w : World) :
    Calls Try.prog 8 #[.float .f64 9218868437227405312] w fun e w' => e = .returned (.bool true) ∧ Below w.heap.size w w' := by
  have c1 := inf_self
  have c2 := nan_self
  go_enter Try.func8, Try.ntmps8
  go_wp2_with fail
  refine (begun_any _).mono ?_
  rintro e w1 ⟨rfl, hb1⟩
  have B1 : Hid _ := hb1
  clear hb1
  go_wp2_with fail
  refine (key_any _ (ok_c _ (by omega)) _).mono ?_
  rintro e w' ⟨rfl, rfl⟩
  rw [key_inf]
  go_wp2_with fail
  refine (of_any 18442240474082181121 (ok_c _ (by omega)) _).mono ?_
  rintro e w' ⟨rfl, rfl⟩
  rw [of_inf1]
  go_wp2_with fail
  refine (kind_any _ (ok_c _ (by omega)) _).mono ?_
  rintro e w' ⟨rfl, rfl⟩
  rw [kind_inf]
  go_wp2_with fail
  go_ret
  exact ⟨rfl, B1.out⟩

theorem nz_self : (FloatKind.f64.format.order 9223372036854775808 9223372036854775808 != some .eq) = false := by decide +kernel
theorem z_nz : (FloatKind.f64.format.order 0 9223372036854775808 == some .gt) = false := by decide +kernel
theorem key_nz : Fl.key 9223372036854775808 = 9223372036854775807 := by decide +kernel
theorem key_z : Fl.key 0 = 9223372036854775808 := by decide +kernel
theorem of_z : Fl.of 9223372036854775808 = 0 := by decide +kernel
theorem kind_nz : Fl.kind 9223372036854775808 = 3 := by decide +kernel
theorem kind_z : Fl.kind 0 = 4 := by decide +kernel
theorem ord_nz : ordB 9223372036854775808 0 = -1 := by decide +kernel

set_option maxHeartbeats 400000 in
theorem next_zero (w : World) :
    Calls Try.prog 8 #[.float .f64 9223372036854775808] w fun e w' => e = .returned (.bool true) ∧ Below w.heap.size w w' := by
  have c1 := nz_self
  have c2 := z_nz
  go_enter Try.func8, Try.ntmps8
  go_wp2_with fail
  refine (begun_any _).mono ?_
  rintro e w1 ⟨rfl, hb1⟩
  have B1 : Hid _ := hb1
  clear hb1
  go_wp2_with fail
  refine (key_any _ (ok_c _ (by omega)) _).mono ?_
  rintro e w' ⟨rfl, rfl⟩
  rw [key_nz]
  go_wp2_with fail
  refine (of_any 9223372036854775808 (ok_c _ (by omega)) _).mono ?_
  rintro e w' ⟨rfl, rfl⟩
  rw [of_z]
  go_wp2_with fail
  refine (kind_any _ (ok_c _ (by omega)) _).mono ?_
  rintro e w' ⟨rfl, rfl⟩
  rw [kind_nz]
  go_wp2_with fail
  refine (order_any _ _ (ok_c _ (by omega)) (ok_c _ (by omega)) _).mono ?_
  rintro e w' ⟨rfl, rfl⟩
  rw [ord_nz]
  go_wp2_with fail
  refine (key_any _ (ok_c _ (by omega)) _).mono ?_
  rintro e w' ⟨rfl, rfl⟩
  rw [key_z]
  go_wp2_with fail
  refine (kind_any _ (ok_c _ (by omega)) _).mono ?_
  rintro e w' ⟨rfl, rfl⟩
  rw [kind_nz]
  go_wp2_with fail
  refine (kind_any _ (ok_c _ (by omega)) _).mono ?_
  rintro e w' ⟨rfl, rfl⟩
  rw [kind_z]
  go_wp2_with fail
  refine (kind_any _ (ok_c _ (by omega)) _).mono ?_
  rintro e w' ⟨rfl, rfl⟩
  rw [kind_z]
  go_wp2_with fail
  go_ret
  exact ⟨rfl, B1.out⟩

theorem next_walk (a : Nat) (ha : Fl.Ok a) (w : World) :
    Calls Try.prog 8 #[.float .f64 a] w fun e w' => e = .returned (.bool true) ∧ Below w.heap.size w w' := by
  cases h : Fl.nan a
  · by_cases hi : a = 9218868437227405312
    · subst hi
      exact next_inf w
    · by_cases hz : a = 9223372036854775808
      · subst hz
        exact next_zero w
      · have n := next_of ha h hi hz
        exact next_plain a _ ha ((Fl.c_self ha).trans h) n (show Fl.of (Fl.key a + 1) = _ from rfl) (kind6 ha h hi) (kind3 ha h hz) (kind4 ha n) (gt_next ha h n) w
  · exact next_nan a ha ((Fl.c_self ha).trans h) (key_max_beq h) w
end Go.Proofs.Ytjmjlhcmicljiaa
