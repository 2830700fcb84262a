/- Bytes: what recovers. -/
import Derived.Test.YtjlnmkoggobbgaaF7
namespace Go.Proofs.Ytjlnmkoggobbgaa
open Go.RowKit

set_option maxRecDepth 20000 in
theorem errno_any (x : Int) (w : World) : Calls Try.prog 44 #[.iface 26 (.int .i64 x)] w fun e w' => e = .returned (.int .i64 x) ∧ w' = w := by
  have hta : (Instr.typeAssert (.iface 26 (.int .i64 x)) 20 26 true).run Try.prog w = .ok (.tuple #[.int .i64 x, .bool true]) w := by first | kernel_rfl | rfl
  go_enter Try.func44, Try.ntmps44
  go_wp2
  go_ret
  exact ⟨rfl, rfl⟩

theorem catchB_idle (p q : Addr) (w : World) :
    CallsD Try.prog 43 #[.pointer (some p), .pointer (some q)] .returning w fun e u' w' => e = .returned (.tuple #[]) ∧ u' = .returning ∧ w' = w := by
  refine callsD_of_wpS Try.func43 rfl fun c₀ cs hu => ?_
  apply wpS_seq
  apply wpS_region
  simp [wpOpsS, go_sem, recoverD, hu, Try.ntmps43, Exit.thenS]
  refine wpS_of_wp ?_
  rw [show (#[Value.pointer (some p), Value.pointer (some q)] ++ ((Array.replicate 6 undef).setIfInBounds 1 Value.nilIface).setIfInBounds 0 Value.nilIface) = #[Value.pointer (some p), Value.pointer (some q), Value.nilIface, Value.nilIface, undef, undef, undef, undef] from rfl]
  go_wp2_with fail
  cases c₀
  simp_all [bodyPostS, results, Try.results43]
theorem catchB_panicking (p q : Addr) (w : World) (y z : Value) (hc : w.cell? p = some y) (hz : w.frozen? p = false) (hc2 : w.cell? q = some z) (hz2 : w.frozen? q = false) (hqr : p ≠ q) :
    CallsD Try.prog 43 #[.pointer (some p), .pointer (some q)] (.panicking fchain) w fun e u' w' =>
      e = .returned (.tuple #[]) ∧ u' = .panicking [{ v := .iface 26 (.int .i64 11), recovered := true }] ∧ w' = (w.setCell p (.slice none 0 0)).setCell q (.int .i64 11) := by
  refine callsD_of_wpS Try.func43 rfl fun c₀ cs hu => ?_
  unfold fchain at hu
  apply wpS_seq
  apply wpS_region
  simp [wpOpsS, go_sem, recoverD, hu, Try.ntmps43, Exit.thenS]
  refine wpS_of_wp ?_
  rw [show (#[Value.pointer (some p), Value.pointer (some q)] ++ ((Array.replicate 6 undef).setIfInBounds 1 (Value.iface 26 (.int .i64 11))).setIfInBounds 0 (Value.iface 26 (.int .i64 11))) = #[Value.pointer (some p), Value.pointer (some q), (Value.iface 26 (.int .i64 11)), (Value.iface 26 (.int .i64 11)), undef, undef, undef, undef] from rfl]
  go_wp2_with fail
  refine (errno_any 11 w).mono ?_
  rintro e w1 ⟨rfl, hw⟩
  obtain rfl := hw.symm
  clear hw
  go_wp2_with fail
  exact ⟨rfl, _, rfl, .tuple #[], by simp [results, Try.results43], rfl, rfl, rfl⟩
end Go.Proofs.Ytjlnmkoggobbgaa
