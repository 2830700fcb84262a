/- The program's reader: what a call tells; oneOrAll. -/
import Derived.Test.YtojbakkbmfgoaaaDoorMg09
import Derived.Test.YtojbakkbmfgoaaaDoorMg07
import Derived.Test.YtojbakkbmfgoaaaDoorMg08
import Derived.Test.YtojbakkbmfgoaaaDoorMg11
import Derived.MapKept
namespace Go.Proofs.YtojbakkbmfgoaaaDoor
open Go.RowKit
set_option linter.unusedVariables false

/-- The cells of a result that nobody has written yet. -/
abbrev zeros6 : Obj := .cells #[.int .i64 0, .int .u64 0, .int .u64 0, .int .u64 0, .int .u64 0, .slice none 0 0] 29
abbrev put6 (w : World) (g : Nat) (v0 v1 v2 v3 v4 v5 : Value) : World := (((((w.setCell ⟨g, 0, none⟩ v0).setCell ⟨g, 1, none⟩ v1).setCell ⟨g, 2, none⟩ v2).setCell ⟨g, 3, none⟩ v3).setCell ⟨g, 4, none⟩ v4).setCell ⟨g, 5, none⟩ v5
theorem put6_heap {w : World} {g : Nat} {c0 c1 c2 c3 c4 c5 : Value} (h : w.heap[g]? = some (.cells #[c0, c1, c2, c3, c4, c5] 29 (0, 0))) (v0 v1 v2 v3 v4 v5 : Value) : (put6 w g v0 v1 v2 v3 v4 v5).heap[g]? = some (.cells #[v0, v1, v2, v3, v4, v5] 29 (0, 0)) :=
  heap_set (heap_set (heap_set (heap_set (heap_set (heap_set h)))))
theorem put6_mv (w : World) (g : Nat) (v0 v1 v2 v3 v4 v5 : Value) : Mv (fun k => k = g) w (put6 w g v0 v1 v2 v3 v4 v5) :=
  (((((Mv.setCell w ⟨g, 0, none⟩ v0).trans (Mv.setCell _ ⟨g, 1, none⟩ v1) (fun _ _ h => h)).trans (Mv.setCell _ ⟨g, 2, none⟩ v2) (fun _ _ h => h)).trans (Mv.setCell _ ⟨g, 3, none⟩ v3) (fun _ _ h => h)).trans (Mv.setCell _ ⟨g, 4, none⟩ v4) (fun _ _ h => h)).trans (Mv.setCell _ ⟨g, 5, none⟩ v5) (fun _ _ h => h)
/-- A block of six cells. -/
abbrev B6 (g : Nat) (v0 v1 v2 v3 v4 v5 : Value) (w : World) : Prop := w.heap[g]? = some (.cells #[v0, v1, v2, v3, v4, v5] 29 (0, 0))
theorem B6.mv {X : Nat → Prop} {g : Nat} {v0 v1 v2 v3 v4 v5 : Value} {w w' : World} (h : B6 g v0 v1 v2 v3 v4 v5 w) (m : Mv X w w') (hx : ¬ X g) : Hid (B6 g v0 v1 v2 v3 v4 v5 w') := (m.block g (Array.getElem?_eq_some_iff.1 h).1 hx).trans h
theorem B6.facts {g : Nat} {v0 v1 v2 v3 v4 v5 : Value} {w : World} (h : Hid (B6 g v0 v1 v2 v3 v4 v5 w)) : w.cell? ⟨g, 0, none⟩ = some v0 ∧ w.cell? ⟨g, 1, none⟩ = some v1 ∧ w.cell? ⟨g, 2, none⟩ = some v2 ∧ w.cell? ⟨g, 3, none⟩ = some v3 ∧ w.cell? ⟨g, 4, none⟩ = some v4 ∧ w.cell? ⟨g, 5, none⟩ = some v5 ∧ w.frozen? ⟨g, 0, none⟩ = false ∧ w.frozen? ⟨g, 1, none⟩ = false ∧ w.frozen? ⟨g, 2, none⟩ = false ∧ w.frozen? ⟨g, 3, none⟩ = false ∧ w.frozen? ⟨g, 4, none⟩ = false ∧ w.frozen? ⟨g, 5, none⟩ = false := by
  have h' := h.out
  unfold B6 at h'
  refine ⟨?_, ?_, ?_, ?_, ?_, ?_, ?_, ?_, ?_, ?_, ?_, ?_⟩ <;> simp [World.cell?, World.frozen?, h']
theorem B6.lt {g : Nat} {v0 v1 v2 v3 v4 v5 : Value} {w : World} (h : B6 g v0 v1 v2 v3 v4 v5 w) : g < w.heap.size := (Array.getElem?_eq_some_iff.1 h).1
end Go.Proofs.YtojbakkbmfgoaaaDoor

namespace Go.Proofs.YtojbakkbmfgoaaaDoor
open Go.RowKit
set_option linter.unusedVariables false

theorem parts_none (w : World) : Parts [] (fun _ => False) w none 0 := ⟨[], (fun q h => nomatch h), Nat.le_refl 0, ⟨Nat.zero_lt_succ _, fun _ => ⟨rfl, rfl⟩⟩, (fun i v h => nomatch h), rfl⟩
end Go.Proofs.YtojbakkbmfgoaaaDoor
