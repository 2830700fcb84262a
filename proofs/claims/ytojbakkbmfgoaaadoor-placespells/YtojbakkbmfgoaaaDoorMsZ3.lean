/- Rows of places: or, and nothing. -/
import Derived.Test.YtojbakkbmfgoaaaDoorMg09
import Derived.Test.YtojbakkbmfgoaaaDoorMsC4
import Derived.Test.YtojbakkbmfgoaaaDoorMg11
import Derived.Deep.LoopGhost
namespace Go.Proofs.YtojbakkbmfgoaaaDoor
open Go.RowKit
set_option linter.unusedVariables false

theorem row_set (V : Nat → Value) (n j : Nat) (u : Value) : (row V n).set j u = row (fun i => if i = j then u else V i) n := by
  apply List.ext_getElem
  · simp [row_length]
  · intro i h1 h2
    rw [List.getElem_set, row_get, row_get]
    by_cases h : j = i
    · rw [if_pos h, if_pos h.symm]
    · rw [if_neg h, if_neg (fun e => h e.symm)]
end Go.Proofs.YtojbakkbmfgoaaaDoor
