/- WeighLine: the call returns true. -/
import Derived.Test.YtjmjlhcmicljiaaM1
import Derived.Test.YtjmjlhcmicljiaaL6
namespace Go.Proofs.Ytjmjlhcmicljiaa
open Go.RowKit

set_option maxHeartbeats 400000 in
theorem line_lll (a b c : Nat) (A : Hid (Fl.Ok a)) (B : Hid (Fl.Ok b)) (C : Hid (Fl.Ok c)) (X : Hid (ordB a b = -1)) (X2 : Hid (ordB b a = 1)) (Y : Hid (ordB b c = -1)) (Z : Hid (ordB a c = -1)) (K1 : Fl.key a < Fl.key b) (w : World) :
    Calls Try.prog 5 #[.float .f64 a, .float .f64 b, .float .f64 c] w fun e w' => e = .returned (.bool true) ∧ Below w.heap.size w w' := by
  have H1 : Hid (Fl.key (Fl.of (Fl.key a)) = Fl.key a) := key_of_key A.out
  have H2 : Hid (ordB (Fl.of (Fl.key a)) a = 0) := of_key A.out
  have H3 : Hid (Fl.Ok (Fl.of (Fl.key a))) := Fl.of_ok (Fl.key_ok A.out)
  have H4 : Hid (Fl.Ok (Fl.key a)) := Fl.key_ok A.out
  go_enter Try.func5, Try.ntmps5
  go_wp2_with fail
  refine (begun_any _).mono ?_
  rintro e w1 ⟨rfl, hb1⟩
  have B1 : Hid _ := hb1
  clear hb1
  go_wp2_with fail
  refine (order_any a b A.out B.out _).mono ?_
  rintro e w' ⟨rfl, rfl⟩
  rw [X.out]
  go_wp2_with fail
  refine (order_any b c B.out C.out _).mono ?_
  rintro e w' ⟨rfl, rfl⟩
  rw [Y.out]
  go_wp2_with fail
  refine (order_any a c A.out C.out _).mono ?_
  rintro e w' ⟨rfl, rfl⟩
  rw [Z.out]
  go_wp2_with fail
  refine (key_any a A.out _).mono ?_
  rintro e w' ⟨rfl, rfl⟩
  go_wp2_with fail
  refine (key_any b B.out _).mono ?_
  rintro e w' ⟨rfl, rfl⟩
  go_wp2_with fail
  refine (order_any b a B.out A.out _).mono ?_
  rintro e w' ⟨rfl, rfl⟩
  rw [X2.out]
  go_wp2_with fail
  refine (order_any a a A.out A.out _).mono ?_
  rintro e w' ⟨rfl, rfl⟩
  rw [ordB_self]
  go_wp2_with fail
  refine (of_any (Fl.key a) H4.out _).mono ?_
  rintro e w' ⟨rfl, rfl⟩
  go_wp2_with fail
  refine (same_any (Fl.of (Fl.key a)) a H3.out A.out _).mono ?_
  rintro e w' ⟨rfl, rfl⟩
  rw [H2.out]
  go_wp2_with fail
  refine (of_any (Fl.key a) H4.out _).mono ?_
  rintro e w' ⟨rfl, rfl⟩
  go_wp2_with fail
  refine (key_any (Fl.of (Fl.key a)) H3.out _).mono ?_
  rintro e w' ⟨rfl, rfl⟩
  rw [H1.out]
  go_wp2_with fail
  go_ret
  exact ⟨rfl, B1.out⟩

set_option maxHeartbeats 400000 in
theorem line_lel (a b c : Nat) (A : Hid (Fl.Ok a)) (B : Hid (Fl.Ok b)) (C : Hid (Fl.Ok c)) (X : Hid (ordB a b = -1)) (X2 : Hid (ordB b a = 1)) (Y : Hid (ordB b c = 0)) (Z : Hid (ordB a c = -1)) (K1 : Fl.key a < Fl.key b) (w : World) :
    Calls Try.prog 5 #[.float .f64 a, .float .f64 b, .float .f64 c] w fun e w' => e = .returned (.bool true) ∧ Below w.heap.size w w' := by
  have H1 : Hid (Fl.key (Fl.of (Fl.key a)) = Fl.key a) := key_of_key A.out
  have H2 : Hid (ordB (Fl.of (Fl.key a)) a = 0) := of_key A.out
  have H3 : Hid (Fl.Ok (Fl.of (Fl.key a))) := Fl.of_ok (Fl.key_ok A.out)
  have H4 : Hid (Fl.Ok (Fl.key a)) := Fl.key_ok A.out
  go_enter Try.func5, Try.ntmps5
  go_wp2_with fail
  refine (begun_any _).mono ?_
  rintro e w1 ⟨rfl, hb1⟩
  have B1 : Hid _ := hb1
  clear hb1
  go_wp2_with fail
  refine (order_any a b A.out B.out _).mono ?_
  rintro e w' ⟨rfl, rfl⟩
  rw [X.out]
  go_wp2_with fail
  refine (order_any b c B.out C.out _).mono ?_
  rintro e w' ⟨rfl, rfl⟩
  rw [Y.out]
  go_wp2_with fail
  refine (order_any a c A.out C.out _).mono ?_
  rintro e w' ⟨rfl, rfl⟩
  rw [Z.out]
  go_wp2_with fail
  refine (key_any a A.out _).mono ?_
  rintro e w' ⟨rfl, rfl⟩
  go_wp2_with fail
  refine (key_any b B.out _).mono ?_
  rintro e w' ⟨rfl, rfl⟩
  go_wp2_with fail
  refine (order_any b a B.out A.out _).mono ?_
  rintro e w' ⟨rfl, rfl⟩
  rw [X2.out]
  go_wp2_with fail
  refine (order_any a a A.out A.out _).mono ?_
  rintro e w' ⟨rfl, rfl⟩
  rw [ordB_self]
  go_wp2_with fail
  refine (of_any (Fl.key a) H4.out _).mono ?_
  rintro e w' ⟨rfl, rfl⟩
  go_wp2_with fail
  refine (same_any (Fl.of (Fl.key a)) a H3.out A.out _).mono ?_
  rintro e w' ⟨rfl, rfl⟩
  rw [H2.out]
  go_wp2_with fail
  refine (of_any (Fl.key a) H4.out _).mono ?_
  rintro e w' ⟨rfl, rfl⟩
  go_wp2_with fail
  refine (key_any (Fl.of (Fl.key a)) H3.out _).mono ?_
  rintro e w' ⟨rfl, rfl⟩
  rw [H1.out]
  go_wp2_with fail
  go_ret
  exact ⟨rfl, B1.out⟩

set_option maxHeartbeats 400000 in
theorem line_lgl (a b c : Nat) (A : Hid (Fl.Ok a)) (B : Hid (Fl.Ok b)) (C : Hid (Fl.Ok c)) (X : Hid (ordB a b = -1)) (X2 : Hid (ordB b a = 1)) (Y : Hid (ordB b c = 1)) (Z : Hid (ordB a c = -1)) (K1 : Fl.key a < Fl.key b) (w : World) :
    Calls Try.prog 5 #[.float .f64 a, .float .f64 b, .float .f64 c] w fun e w' => e = .returned (.bool true) ∧ Below w.heap.size w w' := by
  have H1 : Hid (Fl.key (Fl.of (Fl.key a)) = Fl.key a) := key_of_key A.out
  have H2 : Hid (ordB (Fl.of (Fl.key a)) a = 0) := of_key A.out
  have H3 : Hid (Fl.Ok (Fl.of (Fl.key a))) := Fl.of_ok (Fl.key_ok A.out)
  have H4 : Hid (Fl.Ok (Fl.key a)) := Fl.key_ok A.out
  go_enter Try.func5, Try.ntmps5
  go_wp2_with fail
  refine (begun_any _).mono ?_
  rintro e w1 ⟨rfl, hb1⟩
  have B1 : Hid _ := hb1
  clear hb1
  go_wp2_with fail
  refine (order_any a b A.out B.out _).mono ?_
  rintro e w' ⟨rfl, rfl⟩
  rw [X.out]
  go_wp2_with fail
  refine (order_any b c B.out C.out _).mono ?_
  rintro e w' ⟨rfl, rfl⟩
  rw [Y.out]
  go_wp2_with fail
  refine (order_any a c A.out C.out _).mono ?_
  rintro e w' ⟨rfl, rfl⟩
  rw [Z.out]
  go_wp2_with fail
  refine (key_any a A.out _).mono ?_
  rintro e w' ⟨rfl, rfl⟩
  go_wp2_with fail
  refine (key_any b B.out _).mono ?_
  rintro e w' ⟨rfl, rfl⟩
  go_wp2_with fail
  refine (order_any b a B.out A.out _).mono ?_
  rintro e w' ⟨rfl, rfl⟩
  rw [X2.out]
  go_wp2_with fail
  refine (order_any a a A.out A.out _).mono ?_
  rintro e w' ⟨rfl, rfl⟩
  rw [ordB_self]
  go_wp2_with fail
  refine (of_any (Fl.key a) H4.out _).mono ?_
  rintro e w' ⟨rfl, rfl⟩
  go_wp2_with fail
  refine (same_any (Fl.of (Fl.key a)) a H3.out A.out _).mono ?_
  rintro e w' ⟨rfl, rfl⟩
  rw [H2.out]
  go_wp2_with fail
  refine (of_any (Fl.key a) H4.out _).mono ?_
  rintro e w' ⟨rfl, rfl⟩
  go_wp2_with fail
  refine (key_any (Fl.of (Fl.key a)) H3.out _).mono ?_
  rintro e w' ⟨rfl, rfl⟩
  rw [H1.out]
  go_wp2_with fail
  go_ret
  exact ⟨rfl, B1.out⟩

set_option maxHeartbeats 400000 in
theorem line_lge (a b c : Nat) (A : Hid (Fl.Ok a)) (B : Hid (Fl.Ok b)) (C : Hid (Fl.Ok c)) (X : Hid (ordB a b = -1)) (X2 : Hid (ordB b a = 1)) (Y : Hid (ordB b c = 1)) (Z : Hid (ordB a c = 0)) (K1 : Fl.key a < Fl.key b) (w : World) :
    Calls Try.prog 5 #[.float .f64 a, .float .f64 b, .float .f64 c] w fun e w' => e = .returned (.bool true) ∧ Below w.heap.size w w' := by
  have H1 : Hid (Fl.key (Fl.of (Fl.key a)) = Fl.key a) := key_of_key A.out
  have H2 : Hid (ordB (Fl.of (Fl.key a)) a = 0) := of_key A.out
  have H3 : Hid (Fl.Ok (Fl.of (Fl.key a))) := Fl.of_ok (Fl.key_ok A.out)
  have H4 : Hid (Fl.Ok (Fl.key a)) := Fl.key_ok A.out
  go_enter Try.func5, Try.ntmps5
  go_wp2_with fail
  refine (begun_any _).mono ?_
  rintro e w1 ⟨rfl, hb1⟩
  have B1 : Hid _ := hb1
  clear hb1
  go_wp2_with fail
  refine (order_any a b A.out B.out _).mono ?_
  rintro e w' ⟨rfl, rfl⟩
  rw [X.out]
  go_wp2_with fail
  refine (order_any b c B.out C.out _).mono ?_
  rintro e w' ⟨rfl, rfl⟩
  rw [Y.out]
  go_wp2_with fail
  refine (order_any a c A.out C.out _).mono ?_
  rintro e w' ⟨rfl, rfl⟩
  rw [Z.out]
  go_wp2_with fail
  refine (key_any a A.out _).mono ?_
  rintro e w' ⟨rfl, rfl⟩
  go_wp2_with fail
  refine (key_any b B.out _).mono ?_
  rintro e w' ⟨rfl, rfl⟩
  go_wp2_with fail
  refine (order_any b a B.out A.out _).mono ?_
  rintro e w' ⟨rfl, rfl⟩
  rw [X2.out]
  go_wp2_with fail
  refine (order_any a a A.out A.out _).mono ?_
  rintro e w' ⟨rfl, rfl⟩
  rw [ordB_self]
  go_wp2_with fail
  refine (of_any (Fl.key a) H4.out _).mono ?_
  rintro e w' ⟨rfl, rfl⟩
  go_wp2_with fail
  refine (same_any (Fl.of (Fl.key a)) a H3.out A.out _).mono ?_
  rintro e w' ⟨rfl, rfl⟩
  rw [H2.out]
  go_wp2_with fail
  refine (of_any (Fl.key a) H4.out _).mono ?_
  rintro e w' ⟨rfl, rfl⟩
  go_wp2_with fail
  refine (key_any (Fl.of (Fl.key a)) H3.out _).mono ?_
  rintro e w' ⟨rfl, rfl⟩
  rw [H1.out]
  go_wp2_with fail
  go_ret
  exact ⟨rfl, B1.out⟩

set_option maxHeartbeats 400000 in
theorem line_lgg (a b c : Nat) (A : Hid (Fl.Ok a)) (B : Hid (Fl.Ok b)) (C : Hid (Fl.Ok c)) (X : Hid (ordB a b = -1)) (X2 : Hid (ordB b a = 1)) (Y : Hid (ordB b c = 1)) (Z : Hid (ordB a c = 1)) (K1 : Fl.key a < Fl.key b) (w : World) :
    Calls Try.prog 5 #[.float .f64 a, .float .f64 b, .float .f64 c] w fun e w' => e = .returned (.bool true) ∧ Below w.heap.size w w' := by
  have H1 : Hid (Fl.key (Fl.of (Fl.key a)) = Fl.key a) := key_of_key A.out
  have H2 : Hid (ordB (Fl.of (Fl.key a)) a = 0) := of_key A.out
  have H3 : Hid (Fl.Ok (Fl.of (Fl.key a))) := Fl.of_ok (Fl.key_ok A.out)
  have H4 : Hid (Fl.Ok (Fl.key a)) := Fl.key_ok A.out
  go_enter Try.func5, Try.ntmps5
  go_wp2_with fail
  refine (begun_any _).mono ?_
  rintro e w1 ⟨rfl, hb1⟩
  have B1 : Hid _ := hb1
  clear hb1
  go_wp2_with fail
  refine (order_any a b A.out B.out _).mono ?_
  rintro e w' ⟨rfl, rfl⟩
  rw [X.out]
  go_wp2_with fail
  refine (order_any b c B.out C.out _).mono ?_
  rintro e w' ⟨rfl, rfl⟩
  rw [Y.out]
  go_wp2_with fail
  refine (order_any a c A.out C.out _).mono ?_
  rintro e w' ⟨rfl, rfl⟩
  rw [Z.out]
  go_wp2_with fail
  refine (key_any a A.out _).mono ?_
  rintro e w' ⟨rfl, rfl⟩
  go_wp2_with fail
  refine (key_any b B.out _).mono ?_
  rintro e w' ⟨rfl, rfl⟩
  go_wp2_with fail
  refine (order_any b a B.out A.out _).mono ?_
  rintro e w' ⟨rfl, rfl⟩
  rw [X2.out]
  go_wp2_with fail
  refine (order_any a a A.out A.out _).mono ?_
  rintro e w' ⟨rfl, rfl⟩
  rw [ordB_self]
  go_wp2_with fail
  refine (of_any (Fl.key a) H4.out _).mono ?_
  rintro e w' ⟨rfl, rfl⟩
  go_wp2_with fail
  refine (same_any (Fl.of (Fl.key a)) a H3.out A.out _).mono ?_
  rintro e w' ⟨rfl, rfl⟩
  rw [H2.out]
  go_wp2_with fail
  refine (of_any (Fl.key a) H4.out _).mono ?_
  rintro e w' ⟨rfl, rfl⟩
  go_wp2_with fail
  refine (key_any (Fl.of (Fl.key a)) H3.out _).mono ?_
  rintro e w' ⟨rfl, rfl⟩
  rw [H1.out]
  go_wp2_with fail
  go_ret
  exact ⟨rfl, B1.out⟩

set_option maxHeartbeats 400000 in
theorem line_ell (a b c : Nat) (A : Hid (Fl.Ok a)) (B : Hid (Fl.Ok b)) (C : Hid (Fl.Ok c)) (X : Hid (ordB a b = 0)) (X2 : Hid (ordB b a = 0)) (Y : Hid (ordB b c = -1)) (Z : Hid (ordB a c = -1)) (E : Hid (Fl.key b = Fl.key a)) (w : World) :
    Calls Try.prog 5 #[.float .f64 a, .float .f64 b, .float .f64 c] w fun e w' => e = .returned (.bool true) ∧ Below w.heap.size w w' := by
  have H1 : Hid (Fl.key (Fl.of (Fl.key a)) = Fl.key a) := key_of_key A.out
  have H2 : Hid (ordB (Fl.of (Fl.key a)) a = 0) := of_key A.out
  have H3 : Hid (Fl.Ok (Fl.of (Fl.key a))) := Fl.of_ok (Fl.key_ok A.out)
  have H4 : Hid (Fl.Ok (Fl.key a)) := Fl.key_ok A.out
  go_enter Try.func5, Try.ntmps5
  go_wp2_with fail
  refine (begun_any _).mono ?_
  rintro e w1 ⟨rfl, hb1⟩
  have B1 : Hid _ := hb1
  clear hb1
  go_wp2_with fail
  refine (order_any a b A.out B.out _).mono ?_
  rintro e w' ⟨rfl, rfl⟩
  rw [X.out]
  go_wp2_with fail
  refine (order_any b c B.out C.out _).mono ?_
  rintro e w' ⟨rfl, rfl⟩
  rw [Y.out]
  go_wp2_with fail
  refine (order_any a c A.out C.out _).mono ?_
  rintro e w' ⟨rfl, rfl⟩
  rw [Z.out]
  go_wp2_with fail
  refine (key_any a A.out _).mono ?_
  rintro e w' ⟨rfl, rfl⟩
  go_wp2_with fail
  refine (key_any b B.out _).mono ?_
  rintro e w' ⟨rfl, rfl⟩
  rw [E.out]
  go_wp2_with fail
  refine (order_any b a B.out A.out _).mono ?_
  rintro e w' ⟨rfl, rfl⟩
  rw [X2.out]
  go_wp2_with fail
  refine (order_any a a A.out A.out _).mono ?_
  rintro e w' ⟨rfl, rfl⟩
  rw [ordB_self]
  go_wp2_with fail
  refine (of_any (Fl.key a) H4.out _).mono ?_
  rintro e w' ⟨rfl, rfl⟩
  go_wp2_with fail
  refine (same_any (Fl.of (Fl.key a)) a H3.out A.out _).mono ?_
  rintro e w' ⟨rfl, rfl⟩
  rw [H2.out]
  go_wp2_with fail
  refine (of_any (Fl.key a) H4.out _).mono ?_
  rintro e w' ⟨rfl, rfl⟩
  go_wp2_with fail
  refine (key_any (Fl.of (Fl.key a)) H3.out _).mono ?_
  rintro e w' ⟨rfl, rfl⟩
  rw [H1.out]
  go_wp2_with fail
  go_ret
  exact ⟨rfl, B1.out⟩

set_option maxHeartbeats 400000 in
theorem line_eee (a b c : Nat) (A : Hid (Fl.Ok a)) (B : Hid (Fl.Ok b)) (C : Hid (Fl.Ok c)) (X : Hid (ordB a b = 0)) (X2 : Hid (ordB b a = 0)) (Y : Hid (ordB b c = 0)) (Z : Hid (ordB a c = 0)) (E : Hid (Fl.key b = Fl.key a)) (w : World) :
    Calls Try.prog 5 #[.float .f64 a, .float .f64 b, .float .f64 c] w fun e w' => e = .returned (.bool true) ∧ Below w.heap.size w w' := by
  have H1 : Hid (Fl.key (Fl.of (Fl.key a)) = Fl.key a) := key_of_key A.out
  have H2 : Hid (ordB (Fl.of (Fl.key a)) a = 0) := of_key A.out
  have H3 : Hid (Fl.Ok (Fl.of (Fl.key a))) := Fl.of_ok (Fl.key_ok A.out)
  have H4 : Hid (Fl.Ok (Fl.key a)) := Fl.key_ok A.out
  go_enter Try.func5, Try.ntmps5
  go_wp2_with fail
  refine (begun_any _).mono ?_
  rintro e w1 ⟨rfl, hb1⟩
  have B1 : Hid _ := hb1
  clear hb1
  go_wp2_with fail
  refine (order_any a b A.out B.out _).mono ?_
  rintro e w' ⟨rfl, rfl⟩
  rw [X.out]
  go_wp2_with fail
  refine (order_any b c B.out C.out _).mono ?_
  rintro e w' ⟨rfl, rfl⟩
  rw [Y.out]
  go_wp2_with fail
  refine (order_any a c A.out C.out _).mono ?_
  rintro e w' ⟨rfl, rfl⟩
  rw [Z.out]
  go_wp2_with fail
  refine (key_any a A.out _).mono ?_
  rintro e w' ⟨rfl, rfl⟩
  go_wp2_with fail
  refine (key_any b B.out _).mono ?_
  rintro e w' ⟨rfl, rfl⟩
  rw [E.out]
  go_wp2_with fail
  refine (order_any b a B.out A.out _).mono ?_
  rintro e w' ⟨rfl, rfl⟩
  rw [X2.out]
  go_wp2_with fail
  refine (order_any a a A.out A.out _).mono ?_
  rintro e w' ⟨rfl, rfl⟩
  rw [ordB_self]
  go_wp2_with fail
  refine (of_any (Fl.key a) H4.out _).mono ?_
  rintro e w' ⟨rfl, rfl⟩
  go_wp2_with fail
  refine (same_any (Fl.of (Fl.key a)) a H3.out A.out _).mono ?_
  rintro e w' ⟨rfl, rfl⟩
  rw [H2.out]
  go_wp2_with fail
  refine (of_any (Fl.key a) H4.out _).mono ?_
  rintro e w' ⟨rfl, rfl⟩
  go_wp2_with fail
  refine (key_any (Fl.of (Fl.key a)) H3.out _).mono ?_
  rintro e w' ⟨rfl, rfl⟩
  rw [H1.out]
  go_wp2_with fail
  go_ret
  exact ⟨rfl, B1.out⟩

set_option maxHeartbeats 400000 in
theorem line_egg (a b c : Nat) (A : Hid (Fl.Ok a)) (B : Hid (Fl.Ok b)) (C : Hid (Fl.Ok c)) (X : Hid (ordB a b = 0)) (X2 : Hid (ordB b a = 0)) (Y : Hid (ordB b c = 1)) (Z : Hid (ordB a c = 1)) (E : Hid (Fl.key b = Fl.key a)) (w : World) :
    Calls Try.prog 5 #[.float .f64 a, .float .f64 b, .float .f64 c] w fun e w' => e = .returned (.bool true) ∧ Below w.heap.size w w' := by
  have H1 : Hid (Fl.key (Fl.of (Fl.key a)) = Fl.key a) := key_of_key A.out
  have H2 : Hid (ordB (Fl.of (Fl.key a)) a = 0) := of_key A.out
  have H3 : Hid (Fl.Ok (Fl.of (Fl.key a))) := Fl.of_ok (Fl.key_ok A.out)
  have H4 : Hid (Fl.Ok (Fl.key a)) := Fl.key_ok A.out
  go_enter Try.func5, Try.ntmps5
  go_wp2_with fail
  refine (begun_any _).mono ?_
  rintro e w1 ⟨rfl, hb1⟩
  have B1 : Hid _ := hb1
  clear hb1
  go_wp2_with fail
  refine (order_any a b A.out B.out _).mono ?_
  rintro e w' ⟨rfl, rfl⟩
  rw [X.out]
  go_wp2_with fail
  refine (order_any b c B.out C.out _).mono ?_
  rintro e w' ⟨rfl, rfl⟩
  rw [Y.out]
  go_wp2_with fail
  refine (order_any a c A.out C.out _).mono ?_
  rintro e w' ⟨rfl, rfl⟩
  rw [Z.out]
  go_wp2_with fail
  refine (key_any a A.out _).mono ?_
  rintro e w' ⟨rfl, rfl⟩
  go_wp2_with fail
  refine (key_any b B.out _).mono ?_
  rintro e w' ⟨rfl, rfl⟩
  rw [E.out]
  go_wp2_with fail
  refine (order_any b a B.out A.out _).mono ?_
  rintro e w' ⟨rfl, rfl⟩
  rw [X2.out]
  go_wp2_with fail
  refine (order_any a a A.out A.out _).mono ?_
  rintro e w' ⟨rfl, rfl⟩
  rw [ordB_self]
  go_wp2_with fail
  refine (of_any (Fl.key a) H4.out _).mono ?_
  rintro e w' ⟨rfl, rfl⟩
  go_wp2_with fail
  refine (same_any (Fl.of (Fl.key a)) a H3.out A.out _).mono ?_
  rintro e w' ⟨rfl, rfl⟩
  rw [H2.out]
  go_wp2_with fail
  refine (of_any (Fl.key a) H4.out _).mono ?_
  rintro e w' ⟨rfl, rfl⟩
  go_wp2_with fail
  refine (key_any (Fl.of (Fl.key a)) H3.out _).mono ?_
  rintro e w' ⟨rfl, rfl⟩
  rw [H1.out]
  go_wp2_with fail
  go_ret
  exact ⟨rfl, B1.out⟩

set_option maxHeartbeats 400000 in
theorem line_gll (a b c : Nat) (A : Hid (Fl.Ok a)) (B : Hid (Fl.Ok b)) (C : Hid (Fl.Ok c)) (X : Hid (ordB a b = 1)) (X2 : Hid (ordB b a = -1)) (Y : Hid (ordB b c = -1)) (Z : Hid (ordB a c = -1)) (K1 : Fl.key b < Fl.key a) (w : World) :
    Calls Try.prog 5 #[.float .f64 a, .float .f64 b, .float .f64 c] w fun e w' => e = .returned (.bool true) ∧ Below w.heap.size w w' := by
  have H1 : Hid (Fl.key (Fl.of (Fl.key a)) = Fl.key a) := key_of_key A.out
  have H2 : Hid (ordB (Fl.of (Fl.key a)) a = 0) := of_key A.out
  have H3 : Hid (Fl.Ok (Fl.of (Fl.key a))) := Fl.of_ok (Fl.key_ok A.out)
  have H4 : Hid (Fl.Ok (Fl.key a)) := Fl.key_ok A.out
  go_enter Try.func5, Try.ntmps5
  go_wp2_with fail
  refine (begun_any _).mono ?_
  rintro e w1 ⟨rfl, hb1⟩
  have B1 : Hid _ := hb1
  clear hb1
  go_wp2_with fail
  refine (order_any a b A.out B.out _).mono ?_
  rintro e w' ⟨rfl, rfl⟩
  rw [X.out]
  go_wp2_with fail
  refine (order_any b c B.out C.out _).mono ?_
  rintro e w' ⟨rfl, rfl⟩
  rw [Y.out]
  go_wp2_with fail
  refine (order_any a c A.out C.out _).mono ?_
  rintro e w' ⟨rfl, rfl⟩
  rw [Z.out]
  go_wp2_with fail
  refine (key_any a A.out _).mono ?_
  rintro e w' ⟨rfl, rfl⟩
  go_wp2_with fail
  refine (key_any b B.out _).mono ?_
  rintro e w' ⟨rfl, rfl⟩
  go_wp2_with fail
  refine (order_any b a B.out A.out _).mono ?_
  rintro e w' ⟨rfl, rfl⟩
  rw [X2.out]
  go_wp2_with fail
  refine (order_any a a A.out A.out _).mono ?_
  rintro e w' ⟨rfl, rfl⟩
  rw [ordB_self]
  go_wp2_with fail
  refine (of_any (Fl.key a) H4.out _).mono ?_
  rintro e w' ⟨rfl, rfl⟩
  go_wp2_with fail
  refine (same_any (Fl.of (Fl.key a)) a H3.out A.out _).mono ?_
  rintro e w' ⟨rfl, rfl⟩
  rw [H2.out]
  go_wp2_with fail
  refine (of_any (Fl.key a) H4.out _).mono ?_
  rintro e w' ⟨rfl, rfl⟩
  go_wp2_with fail
  refine (key_any (Fl.of (Fl.key a)) H3.out _).mono ?_
  rintro e w' ⟨rfl, rfl⟩
  rw [H1.out]
  go_wp2_with fail
  go_ret
  exact ⟨rfl, B1.out⟩

set_option maxHeartbeats 400000 in
theorem line_gle (a b c : Nat) (A : Hid (Fl.Ok a)) (B : Hid (Fl.Ok b)) (C : Hid (Fl.Ok c)) (X : Hid (ordB a b = 1)) (X2 : Hid (ordB b a = -1)) (Y : Hid (ordB b c = -1)) (Z : Hid (ordB a c = 0)) (K1 : Fl.key b < Fl.key a) (w : World) :
    Calls Try.prog 5 #[.float .f64 a, .float .f64 b, .float .f64 c] w fun e w' => e = .returned (.bool true) ∧ Below w.heap.size w w' := by
  have H1 : Hid (Fl.key (Fl.of (Fl.key a)) = Fl.key a) := key_of_key A.out
  have H2 : Hid (ordB (Fl.of (Fl.key a)) a = 0) := of_key A.out
  have H3 : Hid (Fl.Ok (Fl.of (Fl.key a))) := Fl.of_ok (Fl.key_ok A.out)
  have H4 : Hid (Fl.Ok (Fl.key a)) := Fl.key_ok A.out
  go_enter Try.func5, Try.ntmps5
  go_wp2_with fail
  refine (begun_any _).mono ?_
  rintro e w1 ⟨rfl, hb1⟩
  have B1 : Hid _ := hb1
  clear hb1
  go_wp2_with fail
  refine (order_any a b A.out B.out _).mono ?_
  rintro e w' ⟨rfl, rfl⟩
  rw [X.out]
  go_wp2_with fail
  refine (order_any b c B.out C.out _).mono ?_
  rintro e w' ⟨rfl, rfl⟩
  rw [Y.out]
  go_wp2_with fail
  refine (order_any a c A.out C.out _).mono ?_
  rintro e w' ⟨rfl, rfl⟩
  rw [Z.out]
  go_wp2_with fail
  refine (key_any a A.out _).mono ?_
  rintro e w' ⟨rfl, rfl⟩
  go_wp2_with fail
  refine (key_any b B.out _).mono ?_
  rintro e w' ⟨rfl, rfl⟩
  go_wp2_with fail
  refine (order_any b a B.out A.out _).mono ?_
  rintro e w' ⟨rfl, rfl⟩
  rw [X2.out]
  go_wp2_with fail
  refine (order_any a a A.out A.out _).mono ?_
  rintro e w' ⟨rfl, rfl⟩
  rw [ordB_self]
  go_wp2_with fail
  refine (of_any (Fl.key a) H4.out _).mono ?_
  rintro e w' ⟨rfl, rfl⟩
  go_wp2_with fail
  refine (same_any (Fl.of (Fl.key a)) a H3.out A.out _).mono ?_
  rintro e w' ⟨rfl, rfl⟩
  rw [H2.out]
  go_wp2_with fail
  refine (of_any (Fl.key a) H4.out _).mono ?_
  rintro e w' ⟨rfl, rfl⟩
  go_wp2_with fail
  refine (key_any (Fl.of (Fl.key a)) H3.out _).mono ?_
  rintro e w' ⟨rfl, rfl⟩
  rw [H1.out]
  go_wp2_with fail
  go_ret
  exact ⟨rfl, B1.out⟩

set_option maxHeartbeats 400000 in
theorem line_glg (a b c : Nat) (A : Hid (Fl.Ok a)) (B : Hid (Fl.Ok b)) (C : Hid (Fl.Ok c)) (X : Hid (ordB a b = 1)) (X2 : Hid (ordB b a = -1)) (Y : Hid (ordB b c = -1)) (Z : Hid (ordB a c = 1)) (K1 : Fl.key b < Fl.key a) (w : World) :
    Calls Try.prog 5 #[.float .f64 a, .float .f64 b, .float .f64 c] w fun e w' => e = .returned (.bool true) ∧ Below w.heap.size w w' := by
  have H1 : Hid (Fl.key (Fl.of (Fl.key a)) = Fl.key a) := key_of_key A.out
  have H2 : Hid (ordB (Fl.of (Fl.key a)) a = 0) := of_key A.out
  have H3 : Hid (Fl.Ok (Fl.of (Fl.key a))) := Fl.of_ok (Fl.key_ok A.out)
  have H4 : Hid (Fl.Ok (Fl.key a)) := Fl.key_ok A.out
  go_enter Try.func5, Try.ntmps5
  go_wp2_with fail
  refine (begun_any _).mono ?_
  rintro e w1 ⟨rfl, hb1⟩
  have B1 : Hid _ := hb1
  clear hb1
  go_wp2_with fail
  refine (order_any a b A.out B.out _).mono ?_
  rintro e w' ⟨rfl, rfl⟩
  rw [X.out]
  go_wp2_with fail
  refine (order_any b c B.out C.out _).mono ?_
  rintro e w' ⟨rfl, rfl⟩
  rw [Y.out]
  go_wp2_with fail
  refine (order_any a c A.out C.out _).mono ?_
  rintro e w' ⟨rfl, rfl⟩
  rw [Z.out]
  go_wp2_with fail
  refine (key_any a A.out _).mono ?_
  rintro e w' ⟨rfl, rfl⟩
  go_wp2_with fail
  refine (key_any b B.out _).mono ?_
  rintro e w' ⟨rfl, rfl⟩
  go_wp2_with fail
  refine (order_any b a B.out A.out _).mono ?_
  rintro e w' ⟨rfl, rfl⟩
  rw [X2.out]
  go_wp2_with fail
  refine (order_any a a A.out A.out _).mono ?_
  rintro e w' ⟨rfl, rfl⟩
  rw [ordB_self]
  go_wp2_with fail
  refine (of_any (Fl.key a) H4.out _).mono ?_
  rintro e w' ⟨rfl, rfl⟩
  go_wp2_with fail
  refine (same_any (Fl.of (Fl.key a)) a H3.out A.out _).mono ?_
  rintro e w' ⟨rfl, rfl⟩
  rw [H2.out]
  go_wp2_with fail
  refine (of_any (Fl.key a) H4.out _).mono ?_
  rintro e w' ⟨rfl, rfl⟩
  go_wp2_with fail
  refine (key_any (Fl.of (Fl.key a)) H3.out _).mono ?_
  rintro e w' ⟨rfl, rfl⟩
  rw [H1.out]
  go_wp2_with fail
  go_ret
  exact ⟨rfl, B1.out⟩

set_option maxHeartbeats 400000 in
theorem line_geg (a b c : Nat) (A : Hid (Fl.Ok a)) (B : Hid (Fl.Ok b)) (C : Hid (Fl.Ok c)) (X : Hid (ordB a b = 1)) (X2 : Hid (ordB b a = -1)) (Y : Hid (ordB b c = 0)) (Z : Hid (ordB a c = 1)) (K1 : Fl.key b < Fl.key a) (w : World) :
    Calls Try.prog 5 #[.float .f64 a, .float .f64 b, .float .f64 c] w fun e w' => e = .returned (.bool true) ∧ Below w.heap.size w w' := by
  have H1 : Hid (Fl.key (Fl.of (Fl.key a)) = Fl.key a) := key_of_key A.out
  have H2 : Hid (ordB (Fl.of (Fl.key a)) a = 0) := of_key A.out
  have H3 : Hid (Fl.Ok (Fl.of (Fl.key a))) := Fl.of_ok (Fl.key_ok A.out)
  have H4 : Hid (Fl.Ok (Fl.key a)) := Fl.key_ok A.out
  go_enter Try.func5, Try.ntmps5
  go_wp2_with fail
  refine (begun_any _).mono ?_
  rintro e w1 ⟨rfl, hb1⟩
  have B1 : Hid _ := hb1
  clear hb1
  go_wp2_with fail
  refine (order_any a b A.out B.out _).mono ?_
  rintro e w' ⟨rfl, rfl⟩
  rw [X.out]
  go_wp2_with fail
  refine (order_any b c B.out C.out _).mono ?_
  rintro e w' ⟨rfl, rfl⟩
  rw [Y.out]
  go_wp2_with fail
  refine (order_any a c A.out C.out _).mono ?_
  rintro e w' ⟨rfl, rfl⟩
  rw [Z.out]
  go_wp2_with fail
  refine (key_any a A.out _).mono ?_
  rintro e w' ⟨rfl, rfl⟩
  go_wp2_with fail
  refine (key_any b B.out _).mono ?_
  rintro e w' ⟨rfl, rfl⟩
  go_wp2_with fail
  refine (order_any b a B.out A.out _).mono ?_
  rintro e w' ⟨rfl, rfl⟩
  rw [X2.out]
  go_wp2_with fail
  refine (order_any a a A.out A.out _).mono ?_
  rintro e w' ⟨rfl, rfl⟩
  rw [ordB_self]
  go_wp2_with fail
  refine (of_any (Fl.key a) H4.out _).mono ?_
  rintro e w' ⟨rfl, rfl⟩
  go_wp2_with fail
  refine (same_any (Fl.of (Fl.key a)) a H3.out A.out _).mono ?_
  rintro e w' ⟨rfl, rfl⟩
  rw [H2.out]
  go_wp2_with fail
  refine (of_any (Fl.key a) H4.out _).mono ?_
  rintro e w' ⟨rfl, rfl⟩
  go_wp2_with fail
  refine (key_any (Fl.of (Fl.key a)) H3.out _).mono ?_
  rintro e w' ⟨rfl, rfl⟩
  rw [H1.out]
  go_wp2_with fail
  go_ret
  exact ⟨rfl, B1.out⟩

set_option maxHeartbeats 400000 in
theorem line_ggg (a b c : Nat) (A : Hid (Fl.Ok a)) (B : Hid (Fl.Ok b)) (C : Hid (Fl.Ok c)) (X : Hid (ordB a b = 1)) (X2 : Hid (ordB b a = -1)) (Y : Hid (ordB b c = 1)) (Z : Hid (ordB a c = 1)) (K1 : Fl.key b < Fl.key a) (w : World) :
    Calls Try.prog 5 #[.float .f64 a, .float .f64 b, .float .f64 c] w fun e w' => e = .returned (.bool true) ∧ Below w.heap.size w w' := by
  have H1 : Hid (Fl.key (Fl.of (Fl.key a)) = Fl.key a) := key_of_key A.out
  have H2 : Hid (ordB (Fl.of (Fl.key a)) a = 0) := of_key A.out
  have H3 : Hid (Fl.Ok (Fl.of (Fl.key a))) := Fl.of_ok (Fl.key_ok A.out)
  have H4 : Hid (Fl.Ok (Fl.key a)) := Fl.key_ok A.out
  go_enter Try.func5, Try.ntmps5
  go_wp2_with fail
  refine (begun_any _).mono ?_
  rintro e w1 ⟨rfl, hb1⟩
  have B1 : Hid _ := hb1
  clear hb1
  go_wp2_with fail
  refine (order_any a b A.out B.out _).mono ?_
  rintro e w' ⟨rfl, rfl⟩
  rw [X.out]
  go_wp2_with fail
  refine (order_any b c B.out C.out _).mono ?_
  rintro e w' ⟨rfl, rfl⟩
  rw [Y.out]
  go_wp2_with fail
  refine (order_any a c A.out C.out _).mono ?_
  rintro e w' ⟨rfl, rfl⟩
  rw [Z.out]
  go_wp2_with fail
  refine (key_any a A.out _).mono ?_
  rintro e w' ⟨rfl, rfl⟩
  go_wp2_with fail
  refine (key_any b B.out _).mono ?_
  rintro e w' ⟨rfl, rfl⟩
  go_wp2_with fail
  refine (order_any b a B.out A.out _).mono ?_
  rintro e w' ⟨rfl, rfl⟩
  rw [X2.out]
  go_wp2_with fail
  refine (order_any a a A.out A.out _).mono ?_
  rintro e w' ⟨rfl, rfl⟩
  rw [ordB_self]
  go_wp2_with fail
  refine (of_any (Fl.key a) H4.out _).mono ?_
  rintro e w' ⟨rfl, rfl⟩
  go_wp2_with fail
  refine (same_any (Fl.of (Fl.key a)) a H3.out A.out _).mono ?_
  rintro e w' ⟨rfl, rfl⟩
  rw [H2.out]
  go_wp2_with fail
  refine (of_any (Fl.key a) H4.out _).mono ?_
  rintro e w' ⟨rfl, rfl⟩
  go_wp2_with fail
  refine (key_any (Fl.of (Fl.key a)) H3.out _).mono ?_
  rintro e w' ⟨rfl, rfl⟩
  rw [H1.out]
  go_wp2_with fail
  go_ret
  exact ⟨rfl, B1.out⟩

theorem cmp_three (p q : Int) : cmpI p q = -1 ∧ p < q ∨ cmpI p q = 0 ∧ p = q ∨ cmpI p q = 1 ∧ q < p := by
  unfold cmpI
  split
  · exact .inl ⟨rfl, by assumption⟩
  · split
    · exact .inr (.inr ⟨rfl, by assumption⟩)
    · exact .inr (.inl ⟨rfl, by omega⟩)

theorem line_walk (a b c : Nat) (ha : Fl.Ok a) (hb : Fl.Ok b) (hc : Fl.Ok c) (w : World) :
    Calls Try.prog 5 #[.float .f64 a, .float .f64 b, .float .f64 c] w fun e w' => e = .returned (.bool true) ∧ Below w.heap.size w w' := by
  rcases cmp_three (Fl.key a) (Fl.key b) with ⟨e1, f1⟩ | ⟨e1, f1⟩ | ⟨e1, f1⟩ <;> rcases cmp_three (Fl.key b) (Fl.key c) with ⟨e2, f2⟩ | ⟨e2, f2⟩ | ⟨e2, f2⟩ <;> rcases cmp_three (Fl.key a) (Fl.key c) with ⟨e3, f3⟩ | ⟨e3, f3⟩ | ⟨e3, f3⟩
  · exact line_lll a b c ha hb hc e1 (ordB_gt f1) e2 e3 (Int.ofNat_lt.1 f1) w
  · omega
  · omega
  · exact line_lel a b c ha hb hc e1 (ordB_gt f1) e2 e3 (Int.ofNat_lt.1 f1) w
  · omega
  · omega
  · exact line_lgl a b c ha hb hc e1 (ordB_gt f1) e2 e3 (Int.ofNat_lt.1 f1) w
  · exact line_lge a b c ha hb hc e1 (ordB_gt f1) e2 e3 (Int.ofNat_lt.1 f1) w
  · exact line_lgg a b c ha hb hc e1 (ordB_gt f1) e2 e3 (Int.ofNat_lt.1 f1) w
  · exact line_ell a b c ha hb hc e1 (ordB_eq0 f1.symm) e2 e3 (show Fl.key b = Fl.key a from Int.ofNat_inj.1 f1.symm) w
  · omega
  · omega
  · omega
  · exact line_eee a b c ha hb hc e1 (ordB_eq0 f1.symm) e2 e3 (show Fl.key b = Fl.key a from Int.ofNat_inj.1 f1.symm) w
  · omega
  · omega
  · omega
  · exact line_egg a b c ha hb hc e1 (ordB_eq0 f1.symm) e2 e3 (show Fl.key b = Fl.key a from Int.ofNat_inj.1 f1.symm) w
  · exact line_gll a b c ha hb hc e1 (ordB_lt f1) e2 e3 (Int.ofNat_lt.1 f1) w
  · exact line_gle a b c ha hb hc e1 (ordB_lt f1) e2 e3 (Int.ofNat_lt.1 f1) w
  · exact line_glg a b c ha hb hc e1 (ordB_lt f1) e2 e3 (Int.ofNat_lt.1 f1) w
  · omega
  · omega
  · exact line_geg a b c ha hb hc e1 (ordB_lt f1) e2 e3 (Int.ofNat_lt.1 f1) w
  · omega
  · omega
  · exact line_ggg a b c ha hb hc e1 (ordB_lt f1) e2 e3 (Int.ofNat_lt.1 f1) w
end Go.Proofs.Ytjmjlhcmicljiaa
