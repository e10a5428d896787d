/-
  What the row's condition on the two errors' variables that package window meets gives the walk; the door's own heap meets it.
-/
import Derived.Test.YtaambclpkghddaaDoorLaidCore
import Derived.Test.YtaambclpkghddaaDoorWinSnd
namespace Go.Proofs.YtaambclpkghddaaDoor
open Go.ChangeShapes Go.WideShapes Go.ChangeAt Go.RowKit

theorem Tryd.wpBound : Tryd.prog.globalNamed "packhorse/api.ErrBound" = some 0 := by kernel_rfl
theorem Tryd.wqBound : (Tryd.prog.globals[0]?).map (·.type) = some 31 := by kernel_rfl
theorem Tryd.wpFull : Tryd.prog.globalNamed "packhorse/api.ErrFull" = some 1 := by kernel_rfl
theorem Tryd.wqFull : (Tryd.prog.globals[1]?).map (·.type) = some 31 := by kernel_rfl
abbrev laidW2 : List (String × DataW Unit) := [("packhorse/api.ErrBound", Rows.laid_packhorse_api_ErrBound), ("packhorse/api.ErrFull", Rows.laid_packhorse_api_ErrFull)]

theorem wner_of_laid {W : World} (h : laidMetH Tryd.prog laidW2 W) : ∃ e, WnEr e W := by
  rw [MakeChecks.laidMetH_plain _ _ _ (by kernel_rfl)] at h
  obtain ⟨aBound, _, hvBound, _⟩ := laid_sentinel h Tryd.wpBound Tryd.wqBound Tryd.underlying31 Tryd.row116 Tryd.underlying116 Tryd.underlying138 rfl rfl Tryd.underlying9 Tryd.cells138 Tryd.cells9
  obtain ⟨aFull, _, hvFull, _⟩ := laid_sentinel h.tail Tryd.wpFull Tryd.wqFull Tryd.underlying31 Tryd.row116 Tryd.underlying116 Tryd.underlying138 rfl rfl Tryd.underlying9 Tryd.cells138 Tryd.cells9
  exact ⟨⟨_, _, _, _⟩, by simpa using World.var?_cell Tryd.wpBound hvBound 0, by simpa using World.var?_cell Tryd.wpFull hvFull 0⟩
theorem door_metW2 (os : Os) (args : Array Value) : laidMetH Tryd.prog laidW2 ((World.doorLaid Tryd.prog 400 os).forCall (fun _ _ => 0) ⟨#[], args, []⟩).memory :=
  laidMetH_of_parts3 (fuel := 8) (laidMet_of_run' 8 (by kernel_rfl) (by kernel_rfl)) (by kernel_rfl) (by kernel_rfl)
end Go.Proofs.YtaambclpkghddaaDoor
