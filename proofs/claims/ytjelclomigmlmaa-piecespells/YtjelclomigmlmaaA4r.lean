/- PieceSpells: the row. -/
import Derived.Test.YtjelclomigmlmaaA4
namespace Go.Proofs.Ytjelclomigmlmaa
open Go.RowKit

set_option maxHeartbeats 1000000 in
set_option maxRecDepth 20000 in
theorem spells_out (w : World) (ba : Option Addr) (nb cb : Nat) (ua : Option Addr) (ka ca : Nat) (h : 200 < nb ∨ 20 < ka) :
    Calls Try.prog 4 #[.slice ba nb cb, .slice ua ka ca] w fun e w' => e = .returned (.bool true) ∧ Below w.heap.size w w' := by
  by_cases h1 : 200 < nb
  · have h1z : (200 : Int) < nb := by omega
    clear h
    go_enter Try.func4, Try.ntmps4
    go_wp2_with fail
    refine (begun_any w).mono ?_
    rintro e w1 ⟨rfl, bl⟩
    have B1 : Hid (Below w.heap.size w w1) := bl
    clear bl
    go_wp2_with fail
    go_ret
    exact ⟨rfl, B1.out⟩
  · have h1z : (nb : Int) ≤ 200 := by omega
    have h2z : (20 : Int) < ka := by omega
    clear h
    go_enter Try.func4, Try.ntmps4
    go_wp2_with fail
    refine (begun_any w).mono ?_
    rintro e w1 ⟨rfl, bl⟩
    have B1 : Hid (Below w.heap.size w w1) := bl
    clear bl
    go_wp2_with fail
    go_ret
    exact ⟨rfl, B1.out⟩
theorem pieceSpells_row (W : World) (ba : Option Addr) (nb cb : Nat) (f : Nat → Int) (s : Sl W ba nb (fun i => .int .u8 (f i))) (_o : ∀ i, (Lit.int .u8 (f i)).wf = true) (e : ba = none → nb = 0 ∧ cb = 0) (room : nb ≤ cb) (ua : Option Addr) (ka ca : Nat) (so : So W ua ka) :
    Calls Try.prog 4 #[.slice ba nb cb, .slice ua ka ca] W fun e w' => e = .returned (.bool true) ∧ Below W.heap.size W w' := by
  by_cases h : 200 < nb ∨ 20 < ka
  · exact spells_out W ba nb cb ua ka ca h
  · exact spells_any W ba nb cb f s e room ua ka ca so (by omega) (by omega)
end Go.Proofs.Ytjelclomigmlmaa
