/-
  What the row's condition on the three errors' variables gives the walks; the door's own heap meets it.
-/
import Derived.Test.YtgcpljgdeoeppabDoorLaidBase
import Derived.Test.YtgcpljgdeoeppabDoorWrong
namespace Go.Proofs.YtgcpljgdeoeppabDoor
open Go.ChangeShapes Go.WideShapes Go.ChangeAt Go.RowKit

theorem Tryd.gFull : Tryd.prog.globalNamed "packhorse/api.ErrFull" = some 7 := by kernel_rfl
theorem Tryd.tFull : (Tryd.prog.globals[7]?).map (·.type) = some 37 := by kernel_rfl
abbrev laid3 : List (String × DataW Unit) := [("packhorse/api.ErrText", Rows.laid_packhorse_api_ErrText), ("packhorse/api.ErrBound", Rows.laid_packhorse_api_ErrBound), ("packhorse/api.ErrFull", Rows.laid_packhorse_api_ErrFull)]

theorem er_of_laid {W : World} (h : laidMetH Tryd.prog laid3 W) : ∃ e, Er e W := by
  rw [MakeChecks.laidMetH_plain _ _ _ (by kernel_rfl)] at h
  obtain ⟨a0, _, hv0, _⟩ := laid_sentinel h Tryd.gText Tryd.tText Tryd.underlying37 Tryd.row137 Tryd.underlying137 Tryd.underlying157 rfl rfl Tryd.underlying9 Tryd.cells157 Tryd.cells9
  obtain ⟨a1, _, hv1, _⟩ := laid_sentinel h.tail Tryd.gBound Tryd.tBound Tryd.underlying37 Tryd.row137 Tryd.underlying137 Tryd.underlying157 rfl rfl Tryd.underlying9 Tryd.cells157 Tryd.cells9
  obtain ⟨a2, _, hv2, _⟩ := laid_sentinel h.tail.tail Tryd.gFull Tryd.tFull Tryd.underlying37 Tryd.row137 Tryd.underlying137 Tryd.underlying157 rfl rfl Tryd.underlying9 Tryd.cells157 Tryd.cells9
  exact ⟨⟨_, _, _, _, _, _⟩, by simpa using World.var?_cell Tryd.gText hv0 0, by simpa using World.var?_cell Tryd.gBound hv1 0, by simpa using World.var?_cell Tryd.gFull hv2 0⟩

theorem door_met3 (os : Os) (args : Array Value) : laidMetH Tryd.prog laid3 ((World.doorLaid Tryd.prog 400 os).forCall (fun _ _ => 0) ⟨#[], args, []⟩).memory :=
  laidMetH_of_parts3 (fuel := 8) (laidMet_of_run' 8 (by kernel_rfl) (by kernel_rfl)) (by kernel_rfl) (by kernel_rfl)
end Go.Proofs.YtgcpljgdeoeppabDoor
