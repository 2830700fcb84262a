/- Rows of trees that a statement lays itself. -/
import Derived.Test.YtkclkhfcmjhogaaDoorB3
import Derived.Test.YtkclkhfcmjhogaaDoorH2
namespace Go.Proofs.YtkclkhfcmjhogaaDoor
open Go.RowKit
set_option linter.unusedVariables false

/-- A tree's six cells in a row of values. -/
abbrev cs6 (x : RX) (a : Option Addr) (c : Nat) : Array Value := #[.int .i64 x.kind, .int .u64 (limb x.set 0), .int .u64 (limb x.set 1), .int .u64 (limb x.set 2), .int .u64 (limb x.set 3), .slice a x.args.length c]
abbrev cs12 (x y : RX) (a b : Option Addr) (c d : Nat) : Array Value := #[.int .i64 x.kind, .int .u64 (limb x.set 0), .int .u64 (limb x.set 1), .int .u64 (limb x.set 2), .int .u64 (limb x.set 3), .slice a x.args.length c, .int .i64 y.kind, .int .u64 (limb y.set 0), .int .u64 (limb y.set 1), .int .u64 (limb y.set 2), .int .u64 (limb y.set 3), .slice b y.args.length d]
theorem parts_none (w : World) : Parts [] (fun _ => False) w none 0 := ⟨[], (fun q h => nomatch h), Nat.le_refl 0, ⟨Nat.zero_lt_succ _, fun _ => ⟨rfl, rfl⟩⟩, (fun i v h => nomatch h), rfl⟩
theorem parts_new1 {K : Nat → Prop} {w : World} {x : RX} {a : Option Addr} {c : Nat} (hx : Parts x.args K w a c) : Parts [x] (fun j => K j ∨ j = w.heap.size) (w.alloc (.cells (cs6 x a c) 28)) (some ⟨w.heap.size, 0, none⟩) 1 := by
  have qa := Mv.alloc (fun _ => False) w (.cells (cs6 x a c) 28)
  refine ⟨cells6 x.kind x.set a x.args.length c, fun q hq => ?_, Nat.le_refl 1, ⟨by simp, fun h => nomatch h⟩, Ls.new w _ 28, row_one (RX.lies_mono x _ _ _ _ (fun _ h => .inl h) (RX.lies_mv qa x K _ (fun _ _ h => h) (lies_of hx)))⟩
  cases hq
  exact ⟨.inr rfl, rfl, _, _, heap_alloc_new w _⟩
theorem parts_new2 {K : Nat → Prop} {w : World} {x y : RX} {a b : Option Addr} {c d : Nat} (hx : Parts x.args K w a c) (hy : Parts y.args K w b d) : Parts [x, y] (fun j => K j ∨ j = w.heap.size) (w.alloc (.cells (cs12 x y a b c d) 28)) (some ⟨w.heap.size, 0, none⟩) 2 := by
  have qa := Mv.alloc (fun _ => False) w (.cells (cs12 x y a b c d) 28)
  refine ⟨cells6 x.kind x.set a x.args.length c ++ cells6 y.kind y.set b y.args.length d, fun q hq => ?_, Nat.le_refl 2, ⟨by simp, fun h => nomatch h⟩, Ls.new w _ 28, row_append (l := [x]) (m := [y]) (row_one (RX.lies_mono x _ _ _ _ (fun _ h => .inl h) (RX.lies_mv qa x K _ (fun _ _ h => h) (lies_of hx)))) (row_one (RX.lies_mono y _ _ _ _ (fun _ h => .inl h) (RX.lies_mv qa y K _ (fun _ _ h => h) (lies_of hy))))⟩
  cases hq
  exact ⟨.inr rfl, rfl, _, _, heap_alloc_new w _⟩

/-- While a row of one byte is filled. -/
def Pf (c i : Nat) : Nat → Value := fun r => if r < i then .int .u8 (c : Int) else .int .u8 0
structure Fw (w wr : World) (g N c i : Nat) : Prop where
  own : Own wr w.heap.size 5 (.slice (some ⟨g, 0, none⟩) N N) N (Pf c i)
  qt : Qt w wr
end Go.Proofs.YtkclkhfcmjhogaaDoor
