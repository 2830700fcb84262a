/- The list of a cache: what its two functions do. -/
import Derived.Test.YtjlnmkoggobbgaaM1
import Derived.RegionTactic
import Derived.BigRegion
namespace Go.Proofs.Ytjlnmkoggobbgaa
open Go.RowKit

set_option maxHeartbeats 1000000 in
theorem bremove00 (c nb  : Nat) (w : World) (v2 v3 : Value) (h2 : w.cell? ⟨nb, 2, none⟩ = some (.pointer none)) (h3 : w.cell? ⟨nb, 3, none⟩ = some (.pointer none))
    (u2 : w.cell? ⟨c, 2, none⟩ = some v2) (z2 : w.frozen? ⟨c, 2, none⟩ = false) (u3 : w.cell? ⟨c, 3, none⟩ = some v3) (z3 : w.frozen? ⟨c, 3, none⟩ = false) (hne : nb ≠ c) :
    Calls Try.prog 58 #[.pointer (some ⟨c, 2, none⟩), .pointer (some ⟨nb, 0, none⟩)] w fun e w' => e = .returned (.tuple #[]) ∧ Hid (Mv (fun _ => False) ((w.setCell ⟨c, 2, none⟩ (.pointer none)).setCell ⟨c, 3, none⟩ (.pointer none)) w') := by
  go_enter Try.func58, Try.ntmps58
  go_wp2
  go_end0
  exact ⟨rfl, Mv.refl _ _⟩

set_option maxHeartbeats 1000000 in
theorem bremove01 (c nb nx : Nat) (w : World) (v2 v3 : Value) (h2 : w.cell? ⟨nb, 2, none⟩ = some (.pointer none)) (h3 : w.cell? ⟨nb, 3, none⟩ = some (.pointer (some ⟨nx, 0, none⟩)))
    (u2 : w.cell? ⟨c, 2, none⟩ = some v2) (z2 : w.frozen? ⟨c, 2, none⟩ = false) (u3 : w.cell? ⟨nx, 2, none⟩ = some v3) (z3 : w.frozen? ⟨nx, 2, none⟩ = false) (hne : nb ≠ c) (hnx : nb ≠ nx) (hcx : c ≠ nx) :
    Calls Try.prog 58 #[.pointer (some ⟨c, 2, none⟩), .pointer (some ⟨nb, 0, none⟩)] w fun e w' => e = .returned (.tuple #[]) ∧ Hid (Mv (fun _ => False) ((w.setCell ⟨c, 2, none⟩ (.pointer (some ⟨nx, 0, none⟩))).setCell ⟨nx, 2, none⟩ (.pointer none)) w') := by
  go_enter Try.func58, Try.ntmps58
  go_wp2
  go_region
  go_wp2
  go_end0
  exact ⟨rfl, ⟨rfl, rfl, rfl, Nat.le_refl _, fun _ _ _ => rfl⟩⟩

set_option maxHeartbeats 1000000 in
theorem bremove10 (c nb pv : Nat) (w : World) (v2 v3 : Value) (h2 : w.cell? ⟨nb, 2, none⟩ = some (.pointer (some ⟨pv, 0, none⟩))) (h3 : w.cell? ⟨nb, 3, none⟩ = some (.pointer none))
    (u2 : w.cell? ⟨pv, 3, none⟩ = some v2) (z2 : w.frozen? ⟨pv, 3, none⟩ = false) (u3 : w.cell? ⟨c, 3, none⟩ = some v3) (z3 : w.frozen? ⟨c, 3, none⟩ = false) (hnp : nb ≠ pv) (hcp : c ≠ pv) :
    Calls Try.prog 58 #[.pointer (some ⟨c, 2, none⟩), .pointer (some ⟨nb, 0, none⟩)] w fun e w' => e = .returned (.tuple #[]) ∧ Hid (Mv (fun _ => False) ((w.setCell ⟨pv, 3, none⟩ (.pointer none)).setCell ⟨c, 3, none⟩ (.pointer (some ⟨pv, 0, none⟩))) w') := by
  go_enter Try.func58, Try.ntmps58
  go_wp2
  go_region
  go_wp2
  go_end0
  exact ⟨rfl, ⟨rfl, rfl, rfl, Nat.le_refl _, fun _ _ _ => rfl⟩⟩

set_option maxHeartbeats 1000000 in
theorem bremove11 (c nb pv nx : Nat) (w : World) (v2 v3 : Value) (h2 : w.cell? ⟨nb, 2, none⟩ = some (.pointer (some ⟨pv, 0, none⟩))) (h3 : w.cell? ⟨nb, 3, none⟩ = some (.pointer (some ⟨nx, 0, none⟩)))
    (u2 : w.cell? ⟨pv, 3, none⟩ = some v2) (z2 : w.frozen? ⟨pv, 3, none⟩ = false) (u3 : w.cell? ⟨nx, 2, none⟩ = some v3) (z3 : w.frozen? ⟨nx, 2, none⟩ = false) (hnp : nb ≠ pv) (hcp : c ≠ pv) (hnx : nb ≠ nx) (hcx : c ≠ nx) :
    Calls Try.prog 58 #[.pointer (some ⟨c, 2, none⟩), .pointer (some ⟨nb, 0, none⟩)] w fun e w' => e = .returned (.tuple #[]) ∧ Hid (Mv (fun _ => False) ((w.setCell ⟨pv, 3, none⟩ (.pointer (some ⟨nx, 0, none⟩))).setCell ⟨nx, 2, none⟩ (.pointer (some ⟨pv, 0, none⟩))) w') := by
  go_enter Try.func58, Try.ntmps58
  go_wp2
  go_region
  go_wp2
  go_region
  go_wp2
  go_end0
  exact ⟨rfl, ⟨rfl, rfl, rfl, Nat.le_refl _, fun _ _ _ => rfl⟩⟩

set_option maxHeartbeats 1000000 in
theorem badd0 (c nb : Nat) (w : World) (v2 v3 vd : Value) (h2 : w.cell? ⟨c, 2, none⟩ = some (.pointer none)) (y2 : w.frozen? ⟨c, 2, none⟩ = false) 
    (u2 : w.cell? ⟨nb, 2, none⟩ = some v2) (z2 : w.frozen? ⟨nb, 2, none⟩ = false) (u3 : w.cell? ⟨nb, 3, none⟩ = some v3) (z3 : w.frozen? ⟨nb, 3, none⟩ = false) (ud : w.cell? ⟨c, 3, none⟩ = some vd) (zd : w.frozen? ⟨c, 3, none⟩ = false) (hne : nb ≠ c) :
    Calls Try.prog 59 #[.pointer (some ⟨c, 2, none⟩), .pointer (some ⟨nb, 0, none⟩)] w fun e w' => e = .returned (.tuple #[]) ∧ Hid (Mv (fun _ => False) ((((w.setCell ⟨nb, 2, none⟩ (.pointer none)).setCell ⟨nb, 3, none⟩ (.pointer none)).setCell ⟨c, 3, none⟩ (.pointer (some ⟨nb, 0, none⟩))).setCell ⟨c, 2, none⟩ (.pointer (some ⟨nb, 0, none⟩))) w') := by
  go_enter Try.func59, Try.ntmps59
  go_wp2
  go_end0
  exact ⟨rfl, Mv.refl _ _⟩

set_option maxHeartbeats 1000000 in
theorem badd1 (c nb nx : Nat) (w : World) (v2 v3 vd : Value) (h2 : w.cell? ⟨c, 2, none⟩ = some (.pointer (some ⟨nx, 0, none⟩))) (y2 : w.frozen? ⟨c, 2, none⟩ = false) 
    (u2 : w.cell? ⟨nb, 2, none⟩ = some v2) (z2 : w.frozen? ⟨nb, 2, none⟩ = false) (u3 : w.cell? ⟨nb, 3, none⟩ = some v3) (z3 : w.frozen? ⟨nb, 3, none⟩ = false) (ud : w.cell? ⟨nx, 2, none⟩ = some vd) (zd : w.frozen? ⟨nx, 2, none⟩ = false) (hne : nb ≠ c) (hnx : nb ≠ nx) (hcx : c ≠ nx) :
    Calls Try.prog 59 #[.pointer (some ⟨c, 2, none⟩), .pointer (some ⟨nb, 0, none⟩)] w fun e w' => e = .returned (.tuple #[]) ∧ Hid (Mv (fun _ => False) ((((w.setCell ⟨nb, 2, none⟩ (.pointer none)).setCell ⟨nb, 3, none⟩ (.pointer (some ⟨nx, 0, none⟩))).setCell ⟨nx, 2, none⟩ (.pointer (some ⟨nb, 0, none⟩))).setCell ⟨c, 2, none⟩ (.pointer (some ⟨nb, 0, none⟩))) w') := by
  go_enter Try.func59, Try.ntmps59
  go_wp2
  go_end0
  exact ⟨rfl, Mv.refl _ _⟩

end Go.Proofs.Ytjlnmkoggobbgaa
