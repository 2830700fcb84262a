/- Two appends in one region. -/
import Derived.Test.YtjlnmkoggobbgaaN9
import Derived.Test.YtjlnmkoggobbgaaC7
import Derived.Deep.RegionLaw
namespace Go.Proofs.Ytjlnmkoggobbgaa
open Go.RowKit

theorem step_append_given {P : Program} {ops : Array Oper} {o : Oper} {a : Act} {w : World} {K : Act → World → Prop} {Q : Exit → Act → World → Prop} {E : Prop}
    (hg : o.guard = none) (s x : Operand) (t : TypeId) (hop : o.op = Op.call { callee := Callee.builtin Builtin.append, args := #[s, x], argTypes := #[t, t] })
    (sv xv v' : Value) (hs : a.eval s = sv) (hx : a.eval x = xv) (W : World) (hr : (Builtin.append_ #[t, t] o.type #[sv, xv]).run P w = .ok v' W)
    (hK : K (a.put o.dst v') W) : if Region.wanted o (yielded ops a.tmps) = true then Oper.wp P o a w K Q else E := by
  have hw : Region.wanted o (yielded ops a.tmps) = true := by simp [Region.wanted, hg]
  rw [if_pos hw]
  unfold Oper.wp
  simp [execOp, hop, resolve, invoke, builtin, hs, hx, hr, Result.andThen]
  exact hK

/-- Two parts of a row of whole numbers, one behind the other. -/
theorem parts (w : World) (p1 p2 : Addr) (cap t m2 cap2 t2 : Nat) (f : Nat → Int) (h : Sl w (some p1) t (In f)) (h2 : Sl w (some p2) m2 (In fun i => f (t2 + i))) (hm : t + m2 < 50000) :
    ∃ a1 c1 W1 a2 c2 W2, (Builtin.append_ #[31, 31] 31 #[.slice (some ⟨w.heap.size, 0, none⟩) 0 0, .slice (some p1) t cap]).run Try.prog (w.alloc (.cells #[] 3)) = .ok (.slice a1 t c1) W1 ∧
      (Builtin.append_ #[31, 31] 31 #[.slice a1 t c1, .slice (some p2) m2 cap2]).run Try.prog W1 = .ok (.slice a2 (t + m2) c2) W2 ∧
      Own W2 w.heap.size 3 (.slice a2 (t + m2) c2) (t + m2) (In fun i => if i < t then f i else f (t2 + (i - t))) ∧ Below w.heap.size w W2 ∧ Below w.heap.size w W1 := by
  have A1 : Mv (fun _ => False) w (w.alloc (.cells #[] 3)) := Mv.alloc _ _ _
  have O0 := own_empty w w.heap.size w.heap.size 3 rfl (Nat.le_refl _) (In f)
  obtain ⟨v1, W1, hr1, o1, g1, _⟩ := append_own 31 31 3 Try.t3 (.int .i64 0) 8 Try.underlying31 info3 (by kernel_rfl) (by kernel_rfl) (by kernel_rfl) rfl (by omega) _ w.heap.size _ 0 t cap (In f) (In f) (some p1) O0 (h.mv A1 (fun _ _ h => h)) (fun _ => rfl) (by omega) (fun h => by cases h) (by simp)
  rw [Nat.zero_add] at o1
  obtain ⟨a1, c1, rfl, _⟩ := o1.sl
  have B1 : Below w.heap.size w W1 := (A1.below (Nat.le_refl _) (fun _ _ h => h)).trans ((Mv.of_grown g1).below (by simp) (fun k hk e => by have e2 : w.heap.size = k := Option.some.inj e; omega))
  obtain ⟨v2, W2, hr2, o2, g2, _⟩ := append_own 31 31 3 Try.t3 (.int .i64 0) 8 Try.underlying31 info3 (by kernel_rfl) (by kernel_rfl) (by kernel_rfl) rfl (by omega) _ w.heap.size _ t m2 cap2 _ (In fun i => f (t2 + i)) (some p2) o1 (h2.below B1) (fun _ => rfl) (by omega) (fun h => by cases h) B1.size
  obtain ⟨a2, c2, rfl, _⟩ := o2.sl
  refine ⟨a1, c1, W1, a2, c2, W2, hr1, hr2, o2.congr (fun i hi => ?_), B1.trans ((Mv.of_grown g2).below B1.size (fun k hk e => ?_)), B1⟩
  · unfold cat In
    by_cases h : i < t
    · rw [if_pos h]; simp [h]
    · rw [if_neg h]; simp [h]
  · have := (o1.blk k e).1
    omega

end Go.Proofs.Ytjlnmkoggobbgaa
