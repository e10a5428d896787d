/-
  ErrBound's variable in the program's table; what an error made by errors.New is made of.
-/
import Derived.Test.YtogpjblikphpcaaGreatDoorRows
import Derived.Test.YtogpjblikphpcaaGreatDoorChecked
import Derived.ProofKit
import Derived.LaidMore
import Derived.OpenShut
import Derived.ShutString
import Derived.Stop.LaidErr
import Derived.Stop.Joined
namespace Go.Proofs.YtogpjblikphpcaaGreatDoor
open Go.ChangeShapes Go.WideShapes Go.ChangeAt Go.RowKit

theorem Tryz.own : ownKnob Tryz.prog.godebug = none := by kernel_rfl
theorem Tryz.gBound : Tryz.prog.globalNamed "packhorse/api.ErrBound" = some 4 := by kernel_rfl
theorem Tryz.tBound : (Tryz.prog.globals[4]?).map (·.type) = some 28 := by kernel_rfl
theorem Tryz.cells233 : Tryz.prog.cellsOf 233 = 1 := by kernel_rfl
theorem Tryz.cells9 : Tryz.prog.cellsOf 9 = 1 := by kernel_rfl
theorem starErr : "*" ++ "errors.errorString" = "*errors.errorString" := by decide
theorem Tryz.row231 (u : TypeId) (h : Tryz.prog.typeName? 3 u = some "*errors.errorString") : u = 231 :=
  typeName_ptr_named (nm := "errors.errorString") (by rw [starErr]; kernel_rfl) (by kernel_rfl) (by decide) u (by rw [starErr]; exact h)
end Go.Proofs.YtogpjblikphpcaaGreatDoor
