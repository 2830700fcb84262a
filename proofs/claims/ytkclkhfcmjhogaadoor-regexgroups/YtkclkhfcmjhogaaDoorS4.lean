/- Show. -/
import Derived.Test.YtkclkhfcmjhogaaDoorS2
import Derived.Test.YtkclkhfcmjhogaaDoorS3
import Derived.Test.YtkclkhfcmjhogaaDoorL5
import Derived.Test.YtkclkhfcmjhogaaDoorE1
namespace Go.Proofs.YtkclkhfcmjhogaaDoor
open Go.RowKit
set_option linter.unusedVariables false

/-- What Show tells. -/
def Sw (p : Nat → Bool) (w : World) (e : Ending) (w' : World) : Prop := ∃ R, Runs p 0 R ∧ e = .returned (.string (str (shw R))) ∧ Qt w w'
abbrev cs4 (p : Nat → Bool) : Array Value := #[.int .u64 (limb p 0), .int .u64 (limb p 1), .int .u64 (limb p 2), .int .u64 (limb p 3)]
theorem same_none2 (p : Nat → Bool) : same p (fun _ => false) = !any p := by rw [← same_none]; simp
theorem eql_none (p : Nat → Bool) (W : World) : (binOp .eql 25 (.agg #[.int .u64 (limb p 0), .int .u64 (limb p 1), .int .u64 (limb p 2), .int .u64 (limb p 3)]) (.agg #[.int .u64 0, .int .u64 0, .int .u64 0, .int .u64 0])).run Tryd.prog W = .ok (.bool (!any p)) W := by
  have := eql_run p (fun _ => false) W
  rwa [sv_none, sv_cells, same_none2] at this
theorem sv_all : sv (fun _ => true) = .agg #[.int .u64 18446744073709551615, .int .u64 18446744073709551615, .int .u64 18446744073709551615, .int .u64 18446744073709551615] := by
  rw [sv_cells, limb_all, limb_all, limb_all, limb_all]; rfl
theorem eql_all (p : Nat → Bool) (W : World) : (binOp .eql 25 (.agg #[.int .u64 (limb p 0), .int .u64 (limb p 1), .int .u64 (limb p 2), .int .u64 (limb p 3)]) (.agg #[.int .u64 18446744073709551615, .int .u64 18446744073709551615, .int .u64 18446744073709551615, .int .u64 18446744073709551615])).run Tryd.prog W = .ok (.bool (same p (fun _ => true))) W := by
  have := eql_run p (fun _ => true) W
  rwa [sv_cells p, sv_all] at this

set_option maxHeartbeats 1000000 in
theorem show_empty (p : Nat → Bool) (h : any p = false) (w : World) : Calls Tryd.prog 57 #[sv p] w fun e w' => Sw p w e w' := by
  have he := eql_none p
  rw [h] at he
  have HR : Hid (Runs p 0 []) := fun b _ hb => any_false.1 h b hb
  clear h
  rw [sv_cells]
  go_enter Tryd.func57, Tryd.ntmps57
  go_wp2_with fail
  go_ret
  exact ⟨[], HR.out, rfl, (Qt.refl w).alloc _⟩

/-- What a region may read of W, and that nothing has turned since. -/
theorem hold4 {W w' : World} {g : Nat} {u0 u1 u2 u3 : Value} (c0 : Hid (W.cell? ⟨g, 0, none⟩ = some u0)) (c1 : Hid (W.cell? ⟨g, 1, none⟩ = some u1)) (c2 : Hid (W.cell? ⟨g, 2, none⟩ = some u2)) (c3 : Hid (W.cell? ⟨g, 3, none⟩ = some u3)) (q : Hid (Qt W w')) :
    w'.cell? ⟨g, 0, none⟩ = some u0 ∧ w'.cell? ⟨g, 1, none⟩ = some u1 ∧ w'.cell? ⟨g, 2, none⟩ = some u2 ∧ w'.cell? ⟨g, 3, none⟩ = some u3 ∧ Hid (Qt W w') :=
  ⟨Qt.keep q c0.out, Qt.keep q c1.out, Qt.keep q c2.out, Qt.keep q c3.out, q⟩
theorem hold4q {W w' w'' : World} {A B C D : Prop} (q : Hid (Qt w' w'')) (h : A ∧ B ∧ C ∧ D ∧ Hid (Qt W w')) : Hid (Qt W w'') := h.2.2.2.2.out.comp q.out
theorem c4 (w : World) (p : Nat → Bool) : (w.alloc (.cells (cs4 p) 25)).cell? ⟨w.heap.size, 0, none⟩ = some (.int .u64 (limb p 0)) ∧ (w.alloc (.cells (cs4 p) 25)).cell? ⟨w.heap.size, 1, none⟩ = some (.int .u64 (limb p 1)) ∧ (w.alloc (.cells (cs4 p) 25)).cell? ⟨w.heap.size, 2, none⟩ = some (.int .u64 (limb p 2)) ∧ (w.alloc (.cells (cs4 p) 25)).cell? ⟨w.heap.size, 3, none⟩ = some (.int .u64 (limb p 3)) := ⟨by simp, by simp, by simp, by simp⟩

set_option maxHeartbeats 1000000 in
theorem show_all (p : Nat → Bool) (h : any p = true) (hs : same p (fun _ => true) = true) (w : World) : Calls Tryd.prog 57 #[sv p] w fun e w' => Sw p w e w' := by
  have he := eql_none p
  have he2 := eql_all p
  rw [h] at he
  rw [hs] at he2
  have HR : Hid (Runs p 0 [(0, 255)]) := by
    have := same_like.1 hs
    exact ⟨by omega, by omega, by omega, fun c _ h => by omega, fun c _ h => this c (by omega), fun h => by omega, fun b h1 h2 => by omega⟩
  clear h hs
  rw [sv_cells]
  go_enter Tryd.func57, Tryd.ntmps57
  go_wp2_with fail
  obtain ⟨k0, k1, k2, k3⟩ := c4 w p
  have Q0 : Hid (Qt w (w.alloc (.cells (cs4 p) 25))) := (Qt.refl w).alloc _
  generalize w.alloc (.cells (cs4 p) 25) = W at *
  have C0 : Hid _ := k0
  have C1 : Hid _ := k1
  have C2 : Hid _ := k2
  have C3 : Hid _ := k3
  have DQ : Hid (Qt W W.drew) := Mv.drewN _ W 1
  go_region_held3 (fun w' => w'.cell? ⟨w.heap.size, 0, none⟩ = some (.int .u64 (limb p 0)) ∧ w'.cell? ⟨w.heap.size, 1, none⟩ = some (.int .u64 (limb p 1)) ∧ w'.cell? ⟨w.heap.size, 2, none⟩ = some (.int .u64 (limb p 2)) ∧ w'.cell? ⟨w.heap.size, 3, none⟩ = some (.int .u64 (limb p 3)) ∧ Hid (Qt W w'))
    (first | (refine hold4 C0 C1 C2 C3 ?_; first | exact hold4q (by assumption) (by assumption) | exact DQ | exact Qt.comp DQ.out (Hid.out (by assumption))))
    ((first | (go_at_call 74; with_reducible refine (not_none _).mono ?_; rintro e4 w4 ⟨rfl, q4⟩; rw [sv_all])))
  go_wp2_with fail
  go_ret
  exact ⟨_, HR.out, rfl, (Q0.out.comp DQ.out).comp q4.out⟩

end Go.Proofs.YtkclkhfcmjhogaaDoor
