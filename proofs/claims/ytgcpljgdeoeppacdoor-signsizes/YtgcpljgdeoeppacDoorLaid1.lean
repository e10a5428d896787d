/-
  The one error's variable, as the row of SignSizes lists it; the door's own heap meets it.
-/
import Derived.Test.YtgcpljgdeoeppacDoorRows
import Derived.Test.YtgcpljgdeoeppacDoorChecked
import Derived.ProofKit
import Derived.LaidMore
import Derived.OpenShut
import Derived.ShutString
import Derived.Stop.LaidErr
import Derived.Stop.Joined
namespace Go.Proofs.YtgcpljgdeoeppacDoor
open Go.ChangeShapes Go.WideShapes Go.ChangeAt Go.RowKit

theorem Tryd.own : ownKnob Tryd.prog.godebug = none := by kernel_rfl
abbrev laid1 : List (String × DataW Unit) := [("packhorse/api.ErrBound", Rows.laid_packhorse_api_ErrBound)]
theorem door_met1 (os : Os) (args : Array Value) : laidMetH Tryd.prog laid1 ((World.doorLaid Tryd.prog 400 os).forCall (fun _ _ => 0) ⟨#[], args, []⟩).memory :=
  laidMetH_of_parts3 (fuel := 8) (laidMet_of_run' 8 (by kernel_rfl) (by kernel_rfl)) (by kernel_rfl) (by kernel_rfl)
end Go.Proofs.YtgcpljgdeoeppacDoor
