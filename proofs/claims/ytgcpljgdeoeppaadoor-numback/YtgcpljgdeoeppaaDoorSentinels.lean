/-
  What the rows' condition on the two errors' variables gives the walks; the door's own heap meets it.
-/
import Derived.Test.YtgcpljgdeoeppaaDoorRows
import Derived.Test.YtgcpljgdeoeppaaDoorBackWalk
import Derived.ProofKit
import Derived.LaidMore
import Derived.OpenShut
import Derived.ShutString
import Derived.Stop.LaidErr
import Derived.Stop.Joined
namespace Go.Proofs.YtgcpljgdeoeppaaDoor
open Go.ChangeShapes Go.WideShapes Go.ChangeAt Go.RowKit

theorem Tryd.own : ownKnob Tryd.prog.godebug = none := by kernel_rfl
theorem Tryd.gText : Tryd.prog.globalNamed "packhorse/api.ErrText" = some 0 := by kernel_rfl
theorem Tryd.gBound : Tryd.prog.globalNamed "packhorse/api.ErrBound" = some 1 := by kernel_rfl
theorem Tryd.tText : (Tryd.prog.globals[0]?).map (·.type) = some 25 := by kernel_rfl
theorem Tryd.tBound : (Tryd.prog.globals[1]?).map (·.type) = some 25 := by kernel_rfl
theorem Tryd.cells57 : Tryd.prog.cellsOf 57 = 1 := by kernel_rfl
theorem Tryd.cells9 : Tryd.prog.cellsOf 9 = 1 := by kernel_rfl
theorem starErr : "*" ++ "errors.errorString" = "*errors.errorString" := by decide
theorem Tryd.row55 (u : TypeId) (h : Tryd.prog.typeName? 3 u = some "*errors.errorString") : u = 55 :=
  typeName_ptr_named (nm := "errors.errorString") (by rw [starErr]; kernel_rfl) (by kernel_rfl) (by decide) u (by rw [starErr]; exact h)

/-- The two errors' variables, as the rows list them. -/
abbrev laid2 : List (String × DataW Unit) := [("packhorse/api.ErrText", Rows.laid_packhorse_api_ErrText), ("packhorse/api.ErrBound", Rows.laid_packhorse_api_ErrBound)]

theorem errs_of_laid {W : World} (h : laidMetH Tryd.prog laid2 W) : ∃ aT aB, Errs W 55 (.pointer (some aT)) 55 (.pointer (some aB)) := by
  rw [MakeChecks.laidMetH_plain _ _ _ (by kernel_rfl)] at h
  obtain ⟨a0, _, hv0, _⟩ := laid_sentinel h Tryd.gText Tryd.tText Tryd.underlying25 Tryd.row55 Tryd.underlying55 Tryd.underlying57 rfl rfl Tryd.underlying9 Tryd.cells57 Tryd.cells9
  obtain ⟨a1, _, hv1, _⟩ := laid_sentinel h.tail Tryd.gBound Tryd.tBound Tryd.underlying25 Tryd.row55 Tryd.underlying55 Tryd.underlying57 rfl rfl Tryd.underlying9 Tryd.cells57 Tryd.cells9
  exact ⟨a0, a1, by simpa using World.var?_cell Tryd.gText hv0 0, by simpa using World.var?_cell Tryd.gBound hv1 0⟩

theorem door_met2 (os : Os) (args : Array Value) : laidMetH Tryd.prog laid2 ((World.doorLaid Tryd.prog 400 os).forCall (fun _ _ => 0) ⟨#[], args, []⟩).memory :=
  laidMetH_of_parts3 (fuel := 8) (laidMet_of_run' 8 (by kernel_rfl) (by kernel_rfl)) (by kernel_rfl) (by kernel_rfl)
end Go.Proofs.YtgcpljgdeoeppaaDoor
