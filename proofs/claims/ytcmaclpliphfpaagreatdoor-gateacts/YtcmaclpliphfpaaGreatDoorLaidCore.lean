/-
  ErrBound's variable in the program's table; what an error made by errors.New is made of.
-/
import Derived.Test.YtcmaclpliphfpaaGreatDoorRows
import Derived.Test.YtcmaclpliphfpaaGreatDoorChecked
import Derived.ProofKit
import Derived.LaidMore
import Derived.OpenShut
import Derived.ShutString
import Derived.Stop.LaidErr
import Derived.Stop.Joined
namespace Go.Proofs.YtcmaclpliphfpaaGreatDoor
open Go.ChangeShapes Go.WideShapes Go.ChangeAt Go.RowKit

theorem Tryz.own : ownKnob Tryz.prog.godebug = none := by kernel_rfl
theorem Tryz.gBound : Tryz.prog.globalNamed "packhorse/api.ErrBound" = some 4 := by kernel_rfl
theorem Tryz.tBound : (Tryz.prog.globals[4]?).map (·.type) = some 28 := by kernel_rfl
theorem Tryz.cells179 : Tryz.prog.cellsOf 179 = 1 := by kernel_rfl
theorem Tryz.cells9 : Tryz.prog.cellsOf 9 = 1 := by kernel_rfl
theorem starErr : "*" ++ "errors.errorString" = "*errors.errorString" := by decide
theorem Tryz.row177 (u : TypeId) (h : Tryz.prog.typeName? 3 u = some "*errors.errorString") : u = 177 :=
  typeName_ptr_named (nm := "errors.errorString") (by rw [starErr]; kernel_rfl) (by kernel_rfl) (by decide) u (by rw [starErr]; exact h)
end Go.Proofs.YtcmaclpliphfpaaGreatDoor
