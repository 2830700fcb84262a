/- WeighOrders: the call returns true. -/
import Derived.Test.YtjmjlhcmicljiaaM1
import Derived.Test.YtjmjlhcmicljiaaL6
namespace Go.Proofs.Ytjmjlhcmicljiaa
open Go.RowKit

set_option maxHeartbeats 1000000 in
theorem orders_walk (a b k : Nat) (ha : Fl.Ok a) (hb : Fl.Ok b) (hk : Fl.Ok k) (w : World) :
    Calls Try.prog 4 #[.float .f64 a, .float .f64 b, .int .u64 k] w fun e w' => e = .returned (.bool true) ∧ Below w.heap.size w w' := by
  have A : Hid _ := ha
  have B : Hid _ := hb
  have K : Hid _ := hk
  have R : Hid _ := of_ref hk
  have O1 : Hid _ := Fl.of_ok hk
  have O2 : Hid (Fl.Ok (refOf k)) := by
    show Fl.Ok (refOf k)
    unfold refOf
    split
    · unfold Fl.Ok; omega
    · exact Fl.back_ok hk
  clear ha hb hk
  go_enter Try.func4, Try.ntmps4
  go_wp2_with fail
  refine (begun_any _).mono ?_
  rintro e w1 ⟨rfl, hb1⟩
  have B1 : Hid _ := hb1
  clear hb1
  go_wp2_with fail
  refine (of_any k K.out _).mono ?_
  rintro e w' ⟨rfl, rfl⟩
  go_wp2_with fail
  refine (order_any a b A.out B.out _).mono ?_
  rintro e w' ⟨rfl, rfl⟩
  go_wp2_with fail
  refine (refOrder_any a b A.out B.out _).mono ?_
  rintro e w' ⟨rfl, rfl⟩
  go_wp2_with fail
  refine (same_any a b A.out B.out _).mono ?_
  rintro e w' ⟨rfl, rfl⟩
  go_wp2_with fail
  refine (refSame_any a b A.out B.out _).mono ?_
  rintro e w' ⟨rfl, rfl⟩
  go_wp2_with fail
  refine (key_any a A.out _).mono ?_
  rintro e w' ⟨rfl, rfl⟩
  go_wp2_with fail
  refine (refKey_any a A.out _).mono ?_
  rintro e w' ⟨rfl, rfl⟩
  go_wp2_with fail
  refine (refOf_any k K.out _).mono ?_
  rintro e w' ⟨rfl, rfl⟩
  go_wp2_with fail
  refine (refSame_any _ _ O1.out O2.out _).mono ?_
  rintro e w' ⟨rfl, rfl⟩
  rw [R.out]
  go_wp2_with fail
  refine (kind_any a A.out _).mono ?_
  rintro e w' ⟨rfl, rfl⟩
  go_wp2_with fail
  refine (refKind_any a A.out _).mono ?_
  rintro e w' ⟨rfl, rfl⟩
  go_wp2_with fail
  go_ret
  exact ⟨rfl, B1.out⟩
end Go.Proofs.Ytjmjlhcmicljiaa
