/-
  ErrText's variable in the program's table.
-/
import Derived.Test.YtledipmimfphdaaDoorLaidCore
namespace Go.Proofs.YtledipmimfphdaaDoor
open Go.RowKit

theorem Tryd.gText : Tryd.prog.globalNamed "packhorse/api.ErrText" = some 4 := by kernel_rfl
theorem Tryd.tText : (Tryd.prog.globals[4]?).map (·.type) = some 26 := by kernel_rfl
end Go.Proofs.YtledipmimfphdaaDoor
