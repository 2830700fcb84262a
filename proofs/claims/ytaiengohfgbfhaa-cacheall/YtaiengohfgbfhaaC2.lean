/- Bytes that are handed in. -/
import Derived.Test.YtaiengohfgbfhaaN9
import Derived.Test.YtaiengohfgbfhaaC1
namespace Go.Proofs.Ytaiengohfgbfhaa
open Go.RowKit

def By (f : Nat → Int) : Nat → Value := fun i => .int .u8 (f i)
theorem u8_wf' {x : Int} (h : (Lit.int .u8 x).wf = true) : 0 ≤ x ∧ x ≤ 255 := by
  simpa [Lit.wf, IntKind.min, IntKind.max, IntKind.signed, IntKind.bits] using h
theorem Sl.congr {w : World} {a : Option Addr} {n : Nat} {V U : Nat → Value} (h : Sl w a n V) (k : ∀ i, i < n → V i = U i) : Sl w a n U := by
  intro i hi
  obtain ⟨b, off, e, hb, hc⟩ := h i hi
  exact ⟨b, off, e, hb, by rw [hc, k i hi]⟩
/-- What a cache does, of what it keeps away from. -/
theorem mvb {w a b : World} (h : Below w.heap.size w a) (k : Mv (fun j => ¬ j < w.heap.size) a b) : Below w.heap.size w b := below_mv h k (Nat.le_refl _) (fun _ hj h => h hj)

end Go.Proofs.Ytaiengohfgbfhaa
