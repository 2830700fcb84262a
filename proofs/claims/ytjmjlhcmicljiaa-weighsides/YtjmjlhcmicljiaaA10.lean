/- WeighSides: the call returns true. -/
import Derived.Test.YtjmjlhcmicljiaaM2
import Derived.Test.YtjmjlhcmicljiaaL6
import Derived.Deep.QuietTactic
import Derived.BigQuiet
namespace Go.Proofs.Ytjmjlhcmicljiaa
open Go.RowKit

theorem neg_at {a : Nat} (ha : Fl.Ok a) (w : World) : (Op.unary .neg (.float .f64 a)).run Try.prog w = .ok (.float .f64 (Fl.opp a)) w := by
  rw [neg_run, Fl.opp_eq ha]
theorem kind_nan : Fl.kind 9221120237041090561 = 0 := by decide +kernel

set_option maxHeartbeats 400000 in
theorem sides_nan (a b : Nat) (x : Int) (hx : x = -1 ∨ x = 0 ∨ x = 1) (A : Hid (Fl.Ok a)) (OA : Hid (Fl.Ok (Fl.opp a))) (X : Hid (ordB a (Fl.opp a) = x)) (X2 : Hid (ordB (Fl.opp a) a = -x)) (t : Bool) (c1 : (FloatKind.f64.format.order a a != some .eq) = t) (c2 : t = false → (FloatKind.f64.format.order b b != some .eq) = true) (w : World) :
    Calls Try.prog 10 #[.float .f64 a, .float .f64 b] w fun e w' => e = .returned (.bool true) ∧ Below w.heap.size w w' := by
  have hng := neg_at A.out
  cases t
  · have c3 := c2 rfl
    clear c2
    rcases hx with rfl | rfl | rfl
    all_goals
      go_enter Try.func10, Try.ntmps10
      go_wp2_with fail
      refine (begun_any _).mono ?_
      rintro e w1 ⟨rfl, hb1⟩
      have B1 : Hid _ := hb1
      clear hb1
      go_wp2_with fail
      refine (nan_raw _).mono ?_
      rintro e w' ⟨rfl, rfl⟩
      go_wp2_with fail
      refine (kind_any _ (ok_c _ (by omega)) _).mono ?_
      rintro e w' ⟨rfl, rfl⟩
      rw [kind_nan]
      go_wp2_with fail
      refine (order_any a (Fl.opp a) A.out OA.out _).mono ?_
      rintro e w' ⟨rfl, rfl⟩
      rw [X.out]
      go_wp2_with fail
      refine (order_any (Fl.opp a) a OA.out A.out _).mono ?_
      rintro e w' ⟨rfl, rfl⟩
      rw [X2.out]
      go_wp2_with fail
      go_ret
      exact ⟨rfl, B1.out⟩
  · clear c2
    rcases hx with rfl | rfl | rfl
    all_goals
      go_enter Try.func10, Try.ntmps10
      go_wp2_with fail
      refine (begun_any _).mono ?_
      rintro e w1 ⟨rfl, hb1⟩
      have B1 : Hid _ := hb1
      clear hb1
      go_wp2_with fail
      refine (nan_raw _).mono ?_
      rintro e w' ⟨rfl, rfl⟩
      go_wp2_with fail
      refine (kind_any _ (ok_c _ (by omega)) _).mono ?_
      rintro e w' ⟨rfl, rfl⟩
      rw [kind_nan]
      go_wp2_with fail
      refine (order_any a (Fl.opp a) A.out OA.out _).mono ?_
      rintro e w' ⟨rfl, rfl⟩
      rw [X.out]
      go_wp2_with fail
      refine (order_any (Fl.opp a) a OA.out A.out _).mono ?_
      rintro e w' ⟨rfl, rfl⟩
      rw [X2.out]
      go_wp2_with fail
      go_ret
      exact ⟨rfl, B1.out⟩

set_option maxHeartbeats 400000 in
theorem sides_num1 (a b : Nat) (A : Hid (Fl.Ok a)) (B : Hid (Fl.Ok b)) (OA : Hid (Fl.Ok (Fl.opp a))) (OB : Hid (Fl.Ok (Fl.opp b))) (c1 : (FloatKind.f64.format.order a a != some .eq) = false) (c2 : (FloatKind.f64.format.order b b != some .eq) = false)
    (X : ordB (Fl.opp b) (Fl.opp a) = ordB a b) (S : (ordB (Fl.opp a) (Fl.opp b) == 0) = (ordB a b == 0)) (Ka : Fl.kind a = 1) (Kb : Fl.kind (Fl.opp a) = 6) (w : World) :
    Calls Try.prog 10 #[.float .f64 a, .float .f64 b] w fun e w' => e = .returned (.bool true) ∧ Below w.heap.size w w' := by
  go_enter Try.func10, Try.ntmps10
  go_wp2_with fail
  refine (begun_any _).mono ?_
  rintro e w1 ⟨rfl, hb1⟩
  have B1 : Hid _ := hb1
  clear hb1
  go_wp2_with fail
  refine (kind_any a A.out _).mono ?_
  rintro e w' ⟨rfl, rfl⟩
  rw [Ka]
  clear Ka
  go_wp2_with fail
  have hng : ∀ w, (Op.unary .neg (.float .f64 a)).run Try.prog w = .ok (.float .f64 (Fl.opp a)) w := neg_at A.out
  have hng2 : ∀ w, (Op.unary .neg (.float .f64 b)).run Try.prog w = .ok (.float .f64 (Fl.opp b)) w := neg_at B.out
  go_quiet ((first
    | (go_at_call 18; exact Calls.quiet_of_same (order_any _ _ (by first | exact A.out | exact B.out | exact OA.out | exact OB.out) (by first | exact A.out | exact B.out | exact OA.out | exact OB.out) _))
    | (go_at_call 23; exact Calls.quiet_of_same (kind_any _ (by first | exact A.out | exact B.out | exact OA.out | exact OB.out) _))
    | (go_at_call 15; exact Calls.quiet_of_same (same_any _ _ (by first | exact A.out | exact B.out | exact OA.out | exact OB.out) (by first | exact A.out | exact B.out | exact OA.out | exact OB.out) _))))
  go_wp2
  go_ret
  exact ⟨rfl, below_drewN (B1.out.alloc B1.out.size _) nq⟩

set_option maxHeartbeats 400000 in
theorem sides_num2 (a b : Nat) (A : Hid (Fl.Ok a)) (B : Hid (Fl.Ok b)) (OA : Hid (Fl.Ok (Fl.opp a))) (OB : Hid (Fl.Ok (Fl.opp b))) (c1 : (FloatKind.f64.format.order a a != some .eq) = false) (c2 : (FloatKind.f64.format.order b b != some .eq) = false)
    (X : ordB (Fl.opp b) (Fl.opp a) = ordB a b) (S : (ordB (Fl.opp a) (Fl.opp b) == 0) = (ordB a b == 0)) (Ka : Fl.kind a = 2) (Kb : Fl.kind (Fl.opp a) = 5) (w : World) :
    Calls Try.prog 10 #[.float .f64 a, .float .f64 b] w fun e w' => e = .returned (.bool true) ∧ Below w.heap.size w w' := by
  go_enter Try.func10, Try.ntmps10
  go_wp2_with fail
  refine (begun_any _).mono ?_
  rintro e w1 ⟨rfl, hb1⟩
  have B1 : Hid _ := hb1
  clear hb1
  go_wp2_with fail
  refine (kind_any a A.out _).mono ?_
  rintro e w' ⟨rfl, rfl⟩
  rw [Ka]
  clear Ka
  go_wp2_with fail
  have hng : ∀ w, (Op.unary .neg (.float .f64 a)).run Try.prog w = .ok (.float .f64 (Fl.opp a)) w := neg_at A.out
  have hng2 : ∀ w, (Op.unary .neg (.float .f64 b)).run Try.prog w = .ok (.float .f64 (Fl.opp b)) w := neg_at B.out
  go_quiet ((first
    | (go_at_call 18; exact Calls.quiet_of_same (order_any _ _ (by first | exact A.out | exact B.out | exact OA.out | exact OB.out) (by first | exact A.out | exact B.out | exact OA.out | exact OB.out) _))
    | (go_at_call 23; exact Calls.quiet_of_same (kind_any _ (by first | exact A.out | exact B.out | exact OA.out | exact OB.out) _))
    | (go_at_call 15; exact Calls.quiet_of_same (same_any _ _ (by first | exact A.out | exact B.out | exact OA.out | exact OB.out) (by first | exact A.out | exact B.out | exact OA.out | exact OB.out) _))))
  go_wp2
  go_ret
  exact ⟨rfl, below_drewN (B1.out.alloc B1.out.size _) nq⟩

set_option maxHeartbeats 400000 in
theorem sides_num3 (a b : Nat) (A : Hid (Fl.Ok a)) (B : Hid (Fl.Ok b)) (OA : Hid (Fl.Ok (Fl.opp a))) (OB : Hid (Fl.Ok (Fl.opp b))) (c1 : (FloatKind.f64.format.order a a != some .eq) = false) (c2 : (FloatKind.f64.format.order b b != some .eq) = false)
    (X : ordB (Fl.opp b) (Fl.opp a) = ordB a b) (S : (ordB (Fl.opp a) (Fl.opp b) == 0) = (ordB a b == 0)) (Ka : Fl.kind a = 3) (Kb : Fl.kind (Fl.opp a) = 4) (w : World) :
    Calls Try.prog 10 #[.float .f64 a, .float .f64 b] w fun e w' => e = .returned (.bool true) ∧ Below w.heap.size w w' := by
  go_enter Try.func10, Try.ntmps10
  go_wp2_with fail
  refine (begun_any _).mono ?_
  rintro e w1 ⟨rfl, hb1⟩
  have B1 : Hid _ := hb1
  clear hb1
  go_wp2_with fail
  refine (kind_any a A.out _).mono ?_
  rintro e w' ⟨rfl, rfl⟩
  rw [Ka]
  clear Ka
  go_wp2_with fail
  have hng : ∀ w, (Op.unary .neg (.float .f64 a)).run Try.prog w = .ok (.float .f64 (Fl.opp a)) w := neg_at A.out
  have hng2 : ∀ w, (Op.unary .neg (.float .f64 b)).run Try.prog w = .ok (.float .f64 (Fl.opp b)) w := neg_at B.out
  go_quiet ((first
    | (go_at_call 18; exact Calls.quiet_of_same (order_any _ _ (by first | exact A.out | exact B.out | exact OA.out | exact OB.out) (by first | exact A.out | exact B.out | exact OA.out | exact OB.out) _))
    | (go_at_call 23; exact Calls.quiet_of_same (kind_any _ (by first | exact A.out | exact B.out | exact OA.out | exact OB.out) _))
    | (go_at_call 15; exact Calls.quiet_of_same (same_any _ _ (by first | exact A.out | exact B.out | exact OA.out | exact OB.out) (by first | exact A.out | exact B.out | exact OA.out | exact OB.out) _))))
  go_wp2
  go_ret
  exact ⟨rfl, below_drewN (B1.out.alloc B1.out.size _) nq⟩

set_option maxHeartbeats 400000 in
theorem sides_num4 (a b : Nat) (A : Hid (Fl.Ok a)) (B : Hid (Fl.Ok b)) (OA : Hid (Fl.Ok (Fl.opp a))) (OB : Hid (Fl.Ok (Fl.opp b))) (c1 : (FloatKind.f64.format.order a a != some .eq) = false) (c2 : (FloatKind.f64.format.order b b != some .eq) = false)
    (X : ordB (Fl.opp b) (Fl.opp a) = ordB a b) (S : (ordB (Fl.opp a) (Fl.opp b) == 0) = (ordB a b == 0)) (Ka : Fl.kind a = 4) (Kb : Fl.kind (Fl.opp a) = 3) (w : World) :
    Calls Try.prog 10 #[.float .f64 a, .float .f64 b] w fun e w' => e = .returned (.bool true) ∧ Below w.heap.size w w' := by
  go_enter Try.func10, Try.ntmps10
  go_wp2_with fail
  refine (begun_any _).mono ?_
  rintro e w1 ⟨rfl, hb1⟩
  have B1 : Hid _ := hb1
  clear hb1
  go_wp2_with fail
  refine (kind_any a A.out _).mono ?_
  rintro e w' ⟨rfl, rfl⟩
  rw [Ka]
  clear Ka
  go_wp2_with fail
  have hng : ∀ w, (Op.unary .neg (.float .f64 a)).run Try.prog w = .ok (.float .f64 (Fl.opp a)) w := neg_at A.out
  have hng2 : ∀ w, (Op.unary .neg (.float .f64 b)).run Try.prog w = .ok (.float .f64 (Fl.opp b)) w := neg_at B.out
  go_quiet ((first
    | (go_at_call 18; exact Calls.quiet_of_same (order_any _ _ (by first | exact A.out | exact B.out | exact OA.out | exact OB.out) (by first | exact A.out | exact B.out | exact OA.out | exact OB.out) _))
    | (go_at_call 23; exact Calls.quiet_of_same (kind_any _ (by first | exact A.out | exact B.out | exact OA.out | exact OB.out) _))
    | (go_at_call 15; exact Calls.quiet_of_same (same_any _ _ (by first | exact A.out | exact B.out | exact OA.out | exact OB.out) (by first | exact A.out | exact B.out | exact OA.out | exact OB.out) _))))
  go_wp2
  go_ret
  exact ⟨rfl, below_drewN (B1.out.alloc B1.out.size _) nq⟩

set_option maxHeartbeats 400000 in
theorem sides_num5 (a b : Nat) (A : Hid (Fl.Ok a)) (B : Hid (Fl.Ok b)) (OA : Hid (Fl.Ok (Fl.opp a))) (OB : Hid (Fl.Ok (Fl.opp b))) (c1 : (FloatKind.f64.format.order a a != some .eq) = false) (c2 : (FloatKind.f64.format.order b b != some .eq) = false)
    (X : ordB (Fl.opp b) (Fl.opp a) = ordB a b) (S : (ordB (Fl.opp a) (Fl.opp b) == 0) = (ordB a b == 0)) (Ka : Fl.kind a = 5) (Kb : Fl.kind (Fl.opp a) = 2) (w : World) :
    Calls Try.prog 10 #[.float .f64 a, .float .f64 b] w fun e w' => e = .returned (.bool true) ∧ Below w.heap.size w w' := by
  go_enter Try.func10, Try.ntmps10
  go_wp2_with fail
  refine (begun_any _).mono ?_
  rintro e w1 ⟨rfl, hb1⟩
  have B1 : Hid _ := hb1
  clear hb1
  go_wp2_with fail
  refine (kind_any a A.out _).mono ?_
  rintro e w' ⟨rfl, rfl⟩
  rw [Ka]
  clear Ka
  go_wp2_with fail
  have hng : ∀ w, (Op.unary .neg (.float .f64 a)).run Try.prog w = .ok (.float .f64 (Fl.opp a)) w := neg_at A.out
  have hng2 : ∀ w, (Op.unary .neg (.float .f64 b)).run Try.prog w = .ok (.float .f64 (Fl.opp b)) w := neg_at B.out
  go_quiet ((first
    | (go_at_call 18; exact Calls.quiet_of_same (order_any _ _ (by first | exact A.out | exact B.out | exact OA.out | exact OB.out) (by first | exact A.out | exact B.out | exact OA.out | exact OB.out) _))
    | (go_at_call 23; exact Calls.quiet_of_same (kind_any _ (by first | exact A.out | exact B.out | exact OA.out | exact OB.out) _))
    | (go_at_call 15; exact Calls.quiet_of_same (same_any _ _ (by first | exact A.out | exact B.out | exact OA.out | exact OB.out) (by first | exact A.out | exact B.out | exact OA.out | exact OB.out) _))))
  go_wp2
  go_ret
  exact ⟨rfl, below_drewN (B1.out.alloc B1.out.size _) nq⟩

set_option maxHeartbeats 400000 in
theorem sides_num6 (a b : Nat) (A : Hid (Fl.Ok a)) (B : Hid (Fl.Ok b)) (OA : Hid (Fl.Ok (Fl.opp a))) (OB : Hid (Fl.Ok (Fl.opp b))) (c1 : (FloatKind.f64.format.order a a != some .eq) = false) (c2 : (FloatKind.f64.format.order b b != some .eq) = false)
    (X : ordB (Fl.opp b) (Fl.opp a) = ordB a b) (S : (ordB (Fl.opp a) (Fl.opp b) == 0) = (ordB a b == 0)) (Ka : Fl.kind a = 6) (Kb : Fl.kind (Fl.opp a) = 1) (w : World) :
    Calls Try.prog 10 #[.float .f64 a, .float .f64 b] w fun e w' => e = .returned (.bool true) ∧ Below w.heap.size w w' := by
  go_enter Try.func10, Try.ntmps10
  go_wp2_with fail
  refine (begun_any _).mono ?_
  rintro e w1 ⟨rfl, hb1⟩
  have B1 : Hid _ := hb1
  clear hb1
  go_wp2_with fail
  refine (kind_any a A.out _).mono ?_
  rintro e w' ⟨rfl, rfl⟩
  rw [Ka]
  clear Ka
  go_wp2_with fail
  have hng : ∀ w, (Op.unary .neg (.float .f64 a)).run Try.prog w = .ok (.float .f64 (Fl.opp a)) w := neg_at A.out
  have hng2 : ∀ w, (Op.unary .neg (.float .f64 b)).run Try.prog w = .ok (.float .f64 (Fl.opp b)) w := neg_at B.out
  go_quiet ((first
    | (go_at_call 18; exact Calls.quiet_of_same (order_any _ _ (by first | exact A.out | exact B.out | exact OA.out | exact OB.out) (by first | exact A.out | exact B.out | exact OA.out | exact OB.out) _))
    | (go_at_call 23; exact Calls.quiet_of_same (kind_any _ (by first | exact A.out | exact B.out | exact OA.out | exact OB.out) _))
    | (go_at_call 15; exact Calls.quiet_of_same (same_any _ _ (by first | exact A.out | exact B.out | exact OA.out | exact OB.out) (by first | exact A.out | exact B.out | exact OA.out | exact OB.out) _))))
  go_wp2
  go_ret
  exact ⟨rfl, below_drewN (B1.out.alloc B1.out.size _) nq⟩

theorem sides_walk (a b : Nat) (ha : Fl.Ok a) (hb : Fl.Ok b) (w : World) :
    Calls Try.prog 10 #[.float .f64 a, .float .f64 b] w fun e w' => e = .returned (.bool true) ∧ Below w.heap.size w w' := by
  have oa := Fl.opp_ok ha
  have ob := Fl.opp_ok hb
  cases h : Fl.nan a
  · cases g : Fl.nan b
    · have c1 := (Fl.c_self ha).trans h
      have c2 := (Fl.c_self hb).trans g
      have X := ord_opp ha hb h g
      have S := same_opp ha hb h g
      have K := kind_opp ha h
      rcases kind_range h with k | k | k | k | k | k
      · exact sides_num1 a b ha hb oa ob c1 c2 X S k (by omega) w
      · exact sides_num2 a b ha hb oa ob c1 c2 X S k (by omega) w
      · exact sides_num3 a b ha hb oa ob c1 c2 X S k (by omega) w
      · exact sides_num4 a b ha hb oa ob c1 c2 X S k (by omega) w
      · exact sides_num5 a b ha hb oa ob c1 c2 X S k (by omega) w
      · exact sides_num6 a b ha hb oa ob c1 c2 X S k (by omega) w
    · exact sides_nan a b _ (ord_three a (Fl.opp a)) ha oa (show ordB a (Fl.opp a) = _ from rfl) (ord_anti a (Fl.opp a)) false ((Fl.c_self ha).trans h) (fun _ => (Fl.c_self hb).trans g) w
  · exact sides_nan a b _ (ord_three a (Fl.opp a)) ha oa (show ordB a (Fl.opp a) = _ from rfl) (ord_anti a (Fl.opp a)) true ((Fl.c_self ha).trans h) (fun f => by cases f) w
end Go.Proofs.Ytjmjlhcmicljiaa
