/- The program's reader: cat, alt. -/
import Derived.Test.YtojbakkbmfgoaaaDoorMg13
import Derived.Deep.LoopGhost
import Derived.Laws.RangeString
namespace Go.Proofs.YtojbakkbmfgoaaaDoor
open Go.RowKit
set_option linter.unusedVariables false

theorem Ro.mono {base : Nat} {K J : Nat → Prop} {w : World} {v : Value} {l : List RX} (h : Ro base K w v l) (hJ : ∀ j, K j → J j) (ho : ∀ j, J j → v.ownBlock ≠ some j) : Ro base J w v l := by
  obtain ⟨ys, h1, h2⟩ := h.ow
  exact ⟨⟨ys, h1, row_mono hJ h2⟩, ho⟩
end Go.Proofs.YtojbakkbmfgoaaaDoor
