/- ClassParses. -/
import Derived.Test.YtnchddgjeeaohaaDoorR7
namespace Go.Proofs.YtnchddgjeeaohaaDoor
open Go.RowKit
set_option linter.unusedVariables false

set_option maxHeartbeats 2000000 in
theorem classParses_walk (S : ByteArray) (w : World) (hT : Hid (Tab w)) : Calls Tryd.prog 3 #[.string S] w fun e w' => e = .returned (.bool true) ∧ Hid (Qt w w') := by
  by_cases h40 : S.size ≤ 40
  · have p1 := fun w => parse_any S w (by omega)
    have p2 := fun w => rclass_any S h40 w
    rw [ptv_parse] at p2
    rw [sv_cells] at p1 p2
    have hq := eqlA (pset S) (pset S) true (same_of (fun _ => rfl))
    have g1 : ¬ (40 : Int) < (S.size : Int) := by omega
    generalize pset S = p at *
    generalize plen S = n at *
    generalize perr S = er at *
    go_enter Tryd.func3, Tryd.ntmps3
    go_wp2_with fail
    refine (begun_true _ hT).mono ?_
    rintro e w1 ⟨rfl, q1⟩
    go_wp2_with fail
    refine (p1 _).mono ?_
    rintro e w2 ⟨rfl, q2⟩
    go_wp2_with fail
    refine (p2 _).mono ?_
    rintro e w3 ⟨rfl, q3⟩
    have B1 : Hid (Bk w2.heap.size p (w3.alloc (.cells #[.int .u64 (limb p 0), .int .u64 (limb p 1), .int .u64 (limb p 2), .int .u64 (limb p 3)] 25))) := Bk.mv (Bk.mv (w := w2.alloc (.cells #[.int .u64 (limb p 0), .int .u64 (limb p 1), .int .u64 (limb p 2), .int .u64 (limb p 3)] 25)) (heap_alloc_new _ _) q3.out (fun h => h)) (Mv.alloc (fun _ => False) _ _) (fun h => h)
    obtain ⟨k0, k1, k2, k3, _⟩ := Bk.facts B1
    go_wp2_with fail
    go_ret
    exact ⟨by simp, (((q1.out.comp q2.out).alloc _).comp q3.out).alloc _⟩
  · have g1 : (40 : Int) < (S.size : Int) := by omega
    go_enter Tryd.func3, Tryd.ntmps3
    go_wp2_with fail
    refine (begun_true _ hT).mono ?_
    rintro e w1 ⟨rfl, q1⟩
    go_wp2_with fail
    go_ret
    exact ⟨rfl, q1.out⟩
theorem classParses_row (S : ByteArray) (hS : S.size ≤ maxLen) (w : World) (hT : Tab w) : Calls Tryd.prog 3 #[.string S] w fun e w' => e = .returned (.bool true) ∧ Below w.heap.size w w' :=
  (classParses_walk S w hT).mono fun e w' ⟨he, hq⟩ => ⟨he, hq.out.below (Nat.le_refl _) (fun _ _ h => h)⟩

end Go.Proofs.YtnchddgjeeaohaaDoor
