/- A new cache, the length of a map in a walk, the last one. -/
import Derived.Test.YtjlnmkoggobbgaaN4
namespace Go.Proofs.Ytjlnmkoggobbgaa
open Go.RowKit

theorem wpList_len_given {P : Program} {w : World} {ops : Array Oper} {rest : List Oper} {o : Oper} {a : Act} {Q : Exit → Act → World → Prop} (hg : o.guard = none) (m : Operand) (t : TypeId)
    (hop : o.op = Op.call { callee := Callee.builtin Builtin.len, args := #[m], argTypes := #[t] }) (mv : Value) (hm : a.eval m = mv) (n : Value) (hr : (Builtin.len_ #[t] o.type #[mv]).run P w = .ok n w)
    (hK : wpList P ops Q rest (a.put o.dst n) w) : wpList P ops Q (o :: rest) a w := by
  refine wpList_plain hg fun K' hK' => ?_
  unfold Oper.wp
  simp [execOp, hop, resolve, invoke, builtin, hm, hr, Result.andThen]
  exact hK' _ _ hK

theorem Ch.new (w : World) (o : Nat) (mo : Int) (T : TypeId) (X : Nat → Prop) (hX : ∀ j, X j → j < w.heap.size) (ho : 2 ≤ o) : Ch (w.alloc (.cells #[.int .i64 mo, .map none, .pointer none, .pointer none] T)) w.heap.size o mo [] X := by
  have A : ∀ i v, (#[Value.int .i64 mo, .map none, .pointer none, .pointer none] : Array Value)[i]? = some v → _ := fun i v => alloc_new w #[.int .i64 mo, .map none, .pointer none, .pointer none] T i v
  refine ⟨none, [], ⟨⟨(A 0 _ rfl).1, (A 1 _ rfl).1, (A 1 _ rfl).2, ⟨?_, ?_, ?_, ?_, fun i j hi => (by simp at hi), fun i hi => (by simp at hi)⟩, fun y hy => (by cases hy), ho⟩, List.nodup_nil, fun y hy => (by cases hy), fun _ => rfl, fun m e => (by cases e), fun e => ?_, fun y hy => (by cases hy), fun m e => (by cases e)⟩, rfl⟩
  · intro i hi
    obtain rfl : i = 0 := by simpa using hi
    exact (A 2 _ rfl).1
  · intro i hi
    obtain rfl : i = 0 := by simpa using hi
    exact (A 3 _ rfl).1
  · intro i hi
    obtain rfl : i = 0 := by simpa using hi
    exact (A 2 _ rfl).2
  · intro i hi
    obtain rfl : i = 0 := by simpa using hi
    exact (A 3 _ rfl).2
  · have := hX _ e; omega

section
variable {w : World} {c o : Nat} {mo : Int} {M : Option Nat} {L : List Nd} {X : Nat → Prop}
theorem Ca.oldest (h : Ca w c o mo M L X) (hL : L ≠ []) : ∃ y, L.getLast? = some y ∧ y ∈ L ∧ w.cell? ⟨c, 3, none⟩ = some (.pointer (some ⟨y.b, 0, none⟩)) := by
  have hp := List.length_pos_iff.2 hL
  have e0 : L[L.length - 1]? = some (L[L.length - 1]'(by omega)) := List.getElem?_eq_getElem (by omega)
  refine ⟨L[L.length - 1]'(by omega), ?_, List.getElem_mem _, ?_⟩
  · rw [List.getLast?_eq_getElem?, e0]
  · have h1 := h.li.dl.up L.length (by omega)
    unfold upA ptU at h1
    rw [if_neg (by omega), if_neg (by omega), bl_of e0] at h1
    exact h1
theorem Ca.newest (h : Ca w c o mo M L X) : w.cell? ⟨c, 2, none⟩ = some (pt (L[0]?.map Nd.b)) := by
  have h1 := h.li.dl.dn 0 (by omega)
  unfold dnA ptD at h1
  rw [if_pos rfl] at h1
  rw [h1]
  cases L with
  | nil => rfl
  | cons x r => rfl
/-- The way down. -/
theorem Ca.older (h : Ca w c o mo M L X) {i : Nat} {x : Nd} (hx : L[i]? = some x) : w.cell? ⟨x.b, o + 1, none⟩ = some (pt (L[i + 1]?.map Nd.b)) := by
  obtain ⟨hi, e⟩ := List.getElem?_eq_some_iff.1 hx
  have h1 := h.li.dl.dn (i + 1) (by omega)
  unfold dnA ptD at h1
  rw [if_neg (by omega), Nat.add_sub_cancel, bl_of hx] at h1
  rw [h1]
  by_cases hj : i + 1 < L.length
  · rw [if_pos hj, List.getElem?_eq_getElem hj, bl_of (List.getElem?_eq_getElem hj)]; rfl
  · rw [if_neg hj, List.getElem?_eq_none (by omega)]; rfl
theorem Ca.some_m (h : Ca w c o mo M L X) (hL : L ≠ []) : ∃ m, M = some m := by
  cases M with
  | none => exact (hL (h.mp0 rfl)).elim
  | some m => exact ⟨m, rfl⟩
end

end Go.Proofs.Ytjlnmkoggobbgaa
