/-
  What the row's condition on the five errors' variables gives the walk; the door's own heap meets it.
-/
import Derived.Test.YtgogjncamjbajacDoorLaid2
import Derived.Test.YtgogjncamjbajacDoorOpsErr
namespace Go.Proofs.YtgogjncamjbajacDoor
open Go.ChangeShapes Go.WideShapes Go.ChangeAt Go.RowKit

theorem Tryd.gShape : Tryd.prog.globalNamed "packhorse/api.ErrShape" = some 4 := by kernel_rfl
theorem Tryd.tShape : (Tryd.prog.globals[4]?).map (·.type) = some 26 := by kernel_rfl
theorem Tryd.gKind : Tryd.prog.globalNamed "packhorse/api.ErrKind" = some 2 := by kernel_rfl
theorem Tryd.tKind : (Tryd.prog.globals[2]?).map (·.type) = some 26 := by kernel_rfl
abbrev laid5 : List (String × DataW Unit) := [("packhorse/api.ErrText", Rows.laid_packhorse_api_ErrText), ("packhorse/api.ErrBound", Rows.laid_packhorse_api_ErrBound), ("packhorse/api.ErrShape", Rows.laid_packhorse_api_ErrShape), ("packhorse/api.ErrKind", Rows.laid_packhorse_api_ErrKind), ("packhorse/api.ErrFull", Rows.laid_packhorse_api_ErrFull)]

theorem oer_of_laid {W : World} (h : laidMetH Tryd.prog laid5 W) : ∃ e, OEr e W := by
  rw [MakeChecks.laidMetH_plain _ _ _ (by kernel_rfl)] at h
  obtain ⟨a0, _, hv0, _⟩ := laid_sentinel h Tryd.gText Tryd.tText Tryd.underlying26 Tryd.row102 Tryd.underlying102 Tryd.underlying117 rfl rfl Tryd.underlying9 Tryd.cells117 Tryd.cells9
  obtain ⟨a1, _, hv1, _⟩ := laid_sentinel h.tail Tryd.gBound Tryd.tBound Tryd.underlying26 Tryd.row102 Tryd.underlying102 Tryd.underlying117 rfl rfl Tryd.underlying9 Tryd.cells117 Tryd.cells9
  obtain ⟨a3, _, hv3, _⟩ := laid_sentinel h.tail.tail Tryd.gShape Tryd.tShape Tryd.underlying26 Tryd.row102 Tryd.underlying102 Tryd.underlying117 rfl rfl Tryd.underlying9 Tryd.cells117 Tryd.cells9
  obtain ⟨a4, _, hv4, _⟩ := laid_sentinel h.tail.tail.tail Tryd.gKind Tryd.tKind Tryd.underlying26 Tryd.row102 Tryd.underlying102 Tryd.underlying117 rfl rfl Tryd.underlying9 Tryd.cells117 Tryd.cells9
  obtain ⟨a2, _, hv2, _⟩ := laid_sentinel h.tail.tail.tail.tail Tryd.gFull Tryd.tFull Tryd.underlying26 Tryd.row102 Tryd.underlying102 Tryd.underlying117 rfl rfl Tryd.underlying9 Tryd.cells117 Tryd.cells9
  exact ⟨⟨⟨_, _, _, _, _, _⟩, _, _, _, _⟩, ⟨by simpa using World.var?_cell Tryd.gText hv0 0, by simpa using World.var?_cell Tryd.gBound hv1 0, by simpa using World.var?_cell Tryd.gFull hv2 0⟩, by simpa using World.var?_cell Tryd.gShape hv3 0, by simpa using World.var?_cell Tryd.gKind hv4 0⟩

theorem door_met5 (os : Os) (args : Array Value) : laidMetH Tryd.prog laid5 ((World.doorLaid Tryd.prog 400 os).forCall (fun _ _ => 0) ⟨#[], args, []⟩).memory :=
  laidMetH_of_parts3 (fuel := 8) (laidMet_of_run' 8 (by kernel_rfl) (by kernel_rfl)) (by kernel_rfl) (by kernel_rfl)
end Go.Proofs.YtgogjncamjbajacDoor
