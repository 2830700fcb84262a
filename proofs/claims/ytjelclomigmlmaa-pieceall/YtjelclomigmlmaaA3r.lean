/- PieceAll: the row. -/
import Derived.Test.YtjelclomigmlmaaA3
namespace Go.Proofs.Ytjelclomigmlmaa
open Go.RowKit

set_option maxHeartbeats 1000000 in
set_option maxRecDepth 20000 in
theorem all_out (w : World) (z : Int) (ua : Option Addr) (ka ca : Nat) (at' : Int) (h : 30 < ka ∨ 200 < z) :
    Calls Try.prog 3 #[.int .i64 z, .slice ua ka ca, .int .i64 at'] w fun e w' => e = .returned (.bool true) ∧ Below w.heap.size w w' := by
  by_cases h1 : 30 < ka
  · have h1z : (30 : Int) < ka := by omega
    clear h
    go_enter Try.func3, Try.ntmps3
    go_wp2_with fail
    refine (begun_any w).mono ?_
    rintro e w1 ⟨rfl, bl⟩
    have B1 : Hid (Below w.heap.size w w1) := bl
    clear bl
    go_wp2_with fail
    go_ret
    exact ⟨rfl, B1.out⟩
  · have h1z : (ka : Int) ≤ 30 := by omega
    have h2z : (200 : Int) < z := by omega
    clear h
    go_enter Try.func3, Try.ntmps3
    go_wp2_with fail
    refine (begun_any w).mono ?_
    rintro e w1 ⟨rfl, bl⟩
    have B1 : Hid (Below w.heap.size w w1) := bl
    clear bl
    go_wp2_with fail
    go_ret
    exact ⟨rfl, B1.out⟩
theorem pieceAll_row (W : World) (z : Int) (_wz : (Lit.int .i64 z).wf = true) (ua : Option Addr) (ka ca : Nat) (so : So W ua ka) (at' : Int) (_wa : (Lit.int .i64 at').wf = true) :
    Calls Try.prog 3 #[.int .i64 z, .slice ua ka ca, .int .i64 at'] W fun e w' => e = .returned (.bool true) ∧ Below W.heap.size W w' := by
  by_cases h : 30 < ka ∨ 200 < z
  · exact all_out W z ua ka ca at' h
  · exact all_any W z (by omega) ua ka ca so (by omega) at'
end Go.Proofs.Ytjelclomigmlmaa
