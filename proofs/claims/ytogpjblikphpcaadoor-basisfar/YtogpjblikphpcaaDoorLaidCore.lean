/-
  ErrBound's variable in the program's table; what an error made by errors.New is made of.
-/
import Derived.Test.YtogpjblikphpcaaDoorRows
import Derived.Test.YtogpjblikphpcaaDoorChecked
import Derived.ProofKit
import Derived.LaidMore
import Derived.OpenShut
import Derived.ShutString
import Derived.Stop.LaidErr
import Derived.Stop.Joined
namespace Go.Proofs.YtogpjblikphpcaaDoor
open Go.ChangeShapes Go.WideShapes Go.ChangeAt Go.RowKit

theorem Tryd.own : ownKnob Tryd.prog.godebug = none := by kernel_rfl
theorem Tryd.gBound : Tryd.prog.globalNamed "packhorse/api.ErrBound" = some 0 := by kernel_rfl
theorem Tryd.tBound : (Tryd.prog.globals[0]?).map (·.type) = some 25 := by kernel_rfl
theorem Tryd.cells131 : Tryd.prog.cellsOf 131 = 1 := by kernel_rfl
theorem Tryd.cells9 : Tryd.prog.cellsOf 9 = 1 := by kernel_rfl
theorem starErr : "*" ++ "errors.errorString" = "*errors.errorString" := by decide
theorem Tryd.row129 (u : TypeId) (h : Tryd.prog.typeName? 3 u = some "*errors.errorString") : u = 129 :=
  typeName_ptr_named (nm := "errors.errorString") (by rw [starErr]; kernel_rfl) (by kernel_rfl) (by decide) u (by rw [starErr]; exact h)
end Go.Proofs.YtogpjblikphpcaaDoor
