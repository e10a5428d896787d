/-
  ErrText's variable in the program's table.
-/
import Derived.Test.YtogpjblikphpcaaGreatDoorLaidCore
namespace Go.Proofs.YtogpjblikphpcaaGreatDoor
open Go.RowKit

theorem Tryz.gText : Tryz.prog.globalNamed "packhorse/api.ErrText" = some 5 := by kernel_rfl
theorem Tryz.tText : (Tryz.prog.globals[5]?).map (·.type) = some 28 := by kernel_rfl
end Go.Proofs.YtogpjblikphpcaaGreatDoor
