/- Sets of bytes as the program has them. -/
import Derived.Test.YtkclkhfcmjhogaaDoorB1
import Derived.Test.YtkclkhfcmjhogaaDoorM1
import Derived.Test.YtkclkhfcmjhogaaDoorM2
import Derived.Laws.Rows
import Derived.Laws.BitsAllLaws
import Derived.Laws.Bits64b
import Derived.Lib.TrailingZeros
import Derived.Deep.RegionHeld3
import Derived.LoopN
namespace Go.Proofs.YtkclkhfcmjhogaaDoor
open Go.RowKit
set_option linter.unusedVariables false

abbrev Qt (w w' : World) : Prop := Mv (fun _ => False) w w'
theorem Qt.comp {a b c : World} (h : Qt a b) (k : Qt b c) : Qt a c := Mv.trans h k (fun _ _ h => h)
theorem Qt.refl (w : World) : Qt w w := Mv.refl _ w
theorem Qt.alloc {a b : World} (h : Qt a b) (o : Obj) : Qt a (b.alloc o) := h.comp (Mv.alloc _ b o)

/-- A set. -/
def sv (p : Nat → Bool) : Value := .agg #[.int .u64 (limb p 0), .int .u64 (limb p 1), .int .u64 (limb p 2), .int .u64 (limb p 3)]


theorem xor_run (p : Nat → Bool) (i : Nat) : bits .xor .u64 IntKind.u64.max (limb p i : Int) = ((limb (no p) i : Nat) : Int) := by
  have h := bits_xor_u64_nat 18446744073709551615 (limb p i) (by decide) (limb_lt p i)
  rw [show IntKind.u64.max = ((18446744073709551615 : Nat) : Int) from rfl, h, Nat.xor_comm, limb_xor]
  rfl

set_option maxHeartbeats 1000000 in
theorem not_any (p : Nat → Bool) (w : World) : Calls Tryd.prog 74 #[sv p] w fun e w' => e = .returned (sv (no p)) ∧ Hid (Qt w w') := by
  unfold sv
  have r0 := xor_run p 0
  have r1 := xor_run p 1
  have r2 := xor_run p 2
  have r3 := xor_run p 3
  generalize limb p 0 = x0 at *
  generalize limb p 1 = x1 at *
  generalize limb p 2 = x2 at *
  generalize limb p 3 = x3 at *
  generalize limb (no p) 0 = y0 at *
  generalize limb (no p) 1 = y1 at *
  generalize limb (no p) 2 = y2 at *
  generalize limb (no p) 3 = y3 at *
  go_enter Tryd.func74, Tryd.ntmps74
  go_wp2
  refine wp_loop_rounds 5 ?_
  rw [rounds_succ]; go_wp2
  rw [rounds_succ]; go_wp2
  rw [rounds_succ]; go_wp2
  rw [rounds_succ]; go_wp2
  rw [rounds_succ]; go_wp2
  refine bodyPost_ret (results_cell_row (p := 2) (ty := 25) rfl _ _ (w.heap.size + 1) 25 _ (0, 0) _ rfl (heap_alloc2_new _ _ _) Tryd.underlying25 rfl (by kernel_rfl)) rfl ?_
  exact ⟨rfl, ((Qt.refl w).alloc _).alloc _⟩

theorem heap3 (w : World) (A B C : Obj) : (((w.alloc A).alloc B).alloc C).heap[w.heap.size + 1 + 1]? = some C := by
  have h := heap_alloc_new ((w.alloc A).alloc B) C
  simpa using h
theorem Qt.drew {a b : World} (h : Qt a b) : Qt a b.drew := ⟨h.os, h.tape, h.output, h.size, h.block⟩

set_option maxHeartbeats 1000000 in
theorem and_any (p q : Nat → Bool) (w : World) : Calls Tryd.prog 91 #[sv p, sv q] w fun e w' => e = .returned (sv (fun b => p b && q b)) ∧ Hid (Qt w w') := by
  unfold sv
  have r0 := bits_and_u64_nat _ _ (limb_lt p 0) (limb_lt q 0)
  have r1 := bits_and_u64_nat _ _ (limb_lt p 1) (limb_lt q 1)
  have r2 := bits_and_u64_nat _ _ (limb_lt p 2) (limb_lt q 2)
  have r3 := bits_and_u64_nat _ _ (limb_lt p 3) (limb_lt q 3)
  rw [limb_and] at r0 r1 r2 r3
  generalize limb p 0 = x0 at *
  generalize limb p 1 = x1 at *
  generalize limb p 2 = x2 at *
  generalize limb p 3 = x3 at *
  generalize limb q 0 = z0 at *
  generalize limb q 1 = z1 at *
  generalize limb q 2 = z2 at *
  generalize limb q 3 = z3 at *
  generalize limb (fun b => p b && q b) 0 = y0 at *
  generalize limb (fun b => p b && q b) 1 = y1 at *
  generalize limb (fun b => p b && q b) 2 = y2 at *
  generalize limb (fun b => p b && q b) 3 = y3 at *
  go_enter Tryd.func91, Tryd.ntmps91
  go_wp2
  refine wp_loop_rounds 5 ?_
  rw [rounds_succ]; go_wp2
  go_region
  go_wp2
  rw [rounds_succ]; go_wp2
  go_region
  go_wp2
  rw [rounds_succ]; go_wp2
  go_region
  go_wp2
  rw [rounds_succ]; go_wp2
  go_region
  go_wp2
  rw [rounds_succ]; go_wp2
  refine bodyPost_ret (results_cell_row (p := 4) (ty := 25) rfl _ _ (w.heap.size + 1 + 1) 25 _ (0, 0) _ rfl (heap3 _ _ _ _) Tryd.underlying25 rfl (by kernel_rfl)) rfl ?_
  exact ⟨rfl, (((((((Qt.refl w).alloc _).alloc _).alloc _).drew).drew).drew).drew⟩

set_option maxHeartbeats 1000000 in
theorem or_any (p q : Nat → Bool) (w : World) : Calls Tryd.prog 119 #[sv p, sv q] w fun e w' => e = .returned (sv (fun b => p b || q b)) ∧ Hid (Qt w w') := by
  unfold sv
  have r0 := bits_or_u64_nat _ _ (limb_lt p 0) (limb_lt q 0)
  have r1 := bits_or_u64_nat _ _ (limb_lt p 1) (limb_lt q 1)
  have r2 := bits_or_u64_nat _ _ (limb_lt p 2) (limb_lt q 2)
  have r3 := bits_or_u64_nat _ _ (limb_lt p 3) (limb_lt q 3)
  rw [limb_or] at r0 r1 r2 r3
  generalize limb p 0 = x0 at *
  generalize limb p 1 = x1 at *
  generalize limb p 2 = x2 at *
  generalize limb p 3 = x3 at *
  generalize limb q 0 = z0 at *
  generalize limb q 1 = z1 at *
  generalize limb q 2 = z2 at *
  generalize limb q 3 = z3 at *
  generalize limb (fun b => p b || q b) 0 = y0 at *
  generalize limb (fun b => p b || q b) 1 = y1 at *
  generalize limb (fun b => p b || q b) 2 = y2 at *
  generalize limb (fun b => p b || q b) 3 = y3 at *
  go_enter Tryd.func119, Tryd.ntmps119
  go_wp2
  refine wp_loop_rounds 5 ?_
  rw [rounds_succ]; go_wp2
  go_region
  go_wp2
  rw [rounds_succ]; go_wp2
  go_region
  go_wp2
  rw [rounds_succ]; go_wp2
  go_region
  go_wp2
  rw [rounds_succ]; go_wp2
  go_region
  go_wp2
  rw [rounds_succ]; go_wp2
  refine bodyPost_ret (results_cell_row (p := 4) (ty := 25) rfl _ _ (w.heap.size + 1 + 1) 25 _ (0, 0) _ rfl (heap3 _ _ _ _) Tryd.underlying25 rfl (by kernel_rfl)) rfl ?_
  exact ⟨rfl, (((((((Qt.refl w).alloc _).alloc _).alloc _).drew).drew).drew).drew⟩


end Go.Proofs.YtkclkhfcmjhogaaDoor
