/- How a byte and a run are shown. -/
import Derived.Test.YtojbakkbmfgoaaaDoorMg07
import Derived.Laws.Runes
namespace Go.Proofs.YtojbakkbmfgoaaaDoor
open Go.RowKit
set_option linter.unusedVariables false

theorem shn_le (c : Nat) : (shn c).length ≤ 4 := by
  unfold shn; split
  · simp
  · split <;> simp

end Go.Proofs.YtojbakkbmfgoaaaDoor

namespace Go.Proofs.YtojbakkbmfgoaaaDoor
open Go.RowKit
set_option linter.unusedVariables false

/-- Bytes as cells. -/
def nc (l : List Nat) : List Value := l.map fun (c : Nat) => Value.int .u8 (c : Int)
theorem nc_append (l m : List Nat) : nc (l ++ m) = nc l ++ nc m := List.map_append
theorem info5s : Tryd.prog.info? 5 = some Tryd.t5 := by kernel_rfl
theorem zero5 : Tryd.t5.zero = some (.int .u8 0) := by kernel_rfl
theorem size5 : Tryd.t5.size = 1 := by kernel_rfl
theorem bytes5 : Tryd.t5.bytes = 1 := by kernel_rfl

end Go.Proofs.YtojbakkbmfgoaaaDoor
