/-
  What the row's condition on the two errors' variables gives the walk; the door's own heap meets it.
-/
import Derived.Test.YtgogjncamjbajacDoorLaidBase
import Derived.Test.YtgogjncamjbajacDoorWrong
namespace Go.Proofs.YtgogjncamjbajacDoor
open Go.ChangeShapes Go.WideShapes Go.ChangeAt Go.RowKit

theorem Tryd.gFull : Tryd.prog.globalNamed "packhorse/api.ErrFull" = some 1 := by kernel_rfl
theorem Tryd.tFull : (Tryd.prog.globals[1]?).map (·.type) = some 26 := by kernel_rfl
abbrev laid2 : List (String × DataW Unit) := [("packhorse/api.ErrBound", Rows.laid_packhorse_api_ErrBound), ("packhorse/api.ErrFull", Rows.laid_packhorse_api_ErrFull)]

theorem er2_of_laid {W : World} (h : laidMetH Tryd.prog laid2 W) : ∃ e, Er2 e W := by
  rw [MakeChecks.laidMetH_plain _ _ _ (by kernel_rfl)] at h
  obtain ⟨a1, _, hv1, _⟩ := laid_sentinel h Tryd.gBound Tryd.tBound Tryd.underlying26 Tryd.row102 Tryd.underlying102 Tryd.underlying117 rfl rfl Tryd.underlying9 Tryd.cells117 Tryd.cells9
  obtain ⟨a2, _, hv2, _⟩ := laid_sentinel h.tail Tryd.gFull Tryd.tFull Tryd.underlying26 Tryd.row102 Tryd.underlying102 Tryd.underlying117 rfl rfl Tryd.underlying9 Tryd.cells117 Tryd.cells9
  exact ⟨⟨0, .nilIface, _, _, _, _⟩, by simpa using World.var?_cell Tryd.gBound hv1 0, by simpa using World.var?_cell Tryd.gFull hv2 0⟩

theorem door_met2 (os : Os) (args : Array Value) : laidMetH Tryd.prog laid2 ((World.doorLaid Tryd.prog 400 os).forCall (fun _ _ => 0) ⟨#[], args, []⟩).memory :=
  laidMetH_of_parts3 (fuel := 8) (laidMet_of_run' 8 (by kernel_rfl) (by kernel_rfl)) (by kernel_rfl) (by kernel_rfl)
end Go.Proofs.YtgogjncamjbajacDoor
