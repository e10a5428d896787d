/-
  ErrText's variable in the program's table.
-/
import Derived.Test.YtaambclpkghddaaDoorLaidCore
namespace Go.Proofs.YtaambclpkghddaaDoor
open Go.RowKit

theorem Tryd.gText : Tryd.prog.globalNamed "packhorse/api.ErrText" = some 2 := by kernel_rfl
theorem Tryd.tText : (Tryd.prog.globals[2]?).map (·.type) = some 31 := by kernel_rfl
end Go.Proofs.YtaambclpkghddaaDoor
