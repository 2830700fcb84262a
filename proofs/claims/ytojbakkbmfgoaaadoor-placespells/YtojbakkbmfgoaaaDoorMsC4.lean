/- A run's bytes. -/
import Derived.Test.YtojbakkbmfgoaaaDoorMsC3
import Derived.Deep.RegionHeld3
import Derived.Shelf.Small.Strs
namespace Go.Proofs.YtojbakkbmfgoaaaDoor
open Go.RowKit
set_option linter.unusedVariables false

theorem Qt.keep {w w' : World} (h : Hid (Qt w w')) {g o : Nat} {v : Value} (hc : w.cell? ⟨g, o, none⟩ = some v) : w'.cell? ⟨g, o, none⟩ = some v := h.out.cell (p := ⟨g, o, none⟩) hc (fun h => h)

theorem sv_cells (p : Nat → Bool) : sv p = .agg #[.int .u64 (limb p 0), .int .u64 (limb p 1), .int .u64 (limb p 2), .int .u64 (limb p 3)] := rfl

end Go.Proofs.YtojbakkbmfgoaaaDoor
