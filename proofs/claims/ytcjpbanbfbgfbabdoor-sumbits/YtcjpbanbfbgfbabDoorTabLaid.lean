/-
  What the rows' condition on the library's table gives the walks; the door's own heap meets it.
-/
import Derived.Test.YtcjpbanbfbgfbabDoorRows
import Derived.Test.YtcjpbanbfbgfbabDoorMade
import Derived.ProofKit
import Derived.LaidMore
import Derived.OpenShut
import Derived.ShutString
import Derived.Stop.Joined
import Derived.Lib.LaidTab
namespace Go.Proofs.YtcjpbanbfbgfbabDoor
open Go.ChangeShapes Go.WideShapes Go.ChangeAt Go.RowKit

theorem Tryd.own : ownKnob Tryd.prog.godebug = none := by kernel_rfl
theorem Tryd.gTab : Tryd.prog.globalNamed "math/bits.deBruijn32tab" = some 0 := by kernel_rfl
theorem Tryd.tTab : (Tryd.prog.globals[0]?).map (·.type) = some 42 := by kernel_rfl
theorem Tryd.cTab : Tryd.prog.cellsOf 42 = 32 := by kernel_rfl
theorem Tryd.cByte : Tryd.prog.cellsOf 5 = 1 := by kernel_rfl
theorem u32_bounds {a : Int} (h : (Lit.int .u32 a).wf = true) : 0 ≤ a ∧ a < 4294967296 := by
  simp only [Lit.wf, Bool.and_eq_true, decide_eq_true_eq] at h
  have h1 : IntKind.u32.min = 0 := rfl
  have h2 : IntKind.u32.max = 4294967295 := rfl
  omega

/-- The table, as the rows list it. -/
abbrev laidTab : List (String × DataW Unit) := [("math/bits.deBruijn32tab", Rows.laid_math_bits_deBruijn32tab)]
def tabInts : List Int := Lib.deBruijn32tab.map Int.ofNat
theorem tab_data : (Rows.laid_math_bits_deBruijn32tab : DataW Unit) = Lib.tabData .u8 tabInts := by rfl
theorem tab_of_laid {W : World} (h : laidMetH Tryd.prog laidTab W) : Tab W := by
  rw [MakeChecks.laidMetH_plain _ _ _ (by kernel_rfl)] at h
  unfold laidTab at h
  rw [tab_data] at h
  have hv : Lib.TabIs Tryd.prog W "math/bits.deBruijn32tab" .u8 tabInts := Lib.tabIs_of_head Tryd.gTab Tryd.tTab Tryd.underlying42 Tryd.underlying5 Tryd.cByte Tryd.cTab h
  intro j hj
  have hc := World.var?_cell Tryd.gTab hv j
  rw [hc]
  have hl : j < Lib.deBruijn32tab.length := hj
  simp [tabInts, List.getElem?_eq_getElem hl]
theorem door_tab (os : Os) (args : Array Value) : laidMetH Tryd.prog laidTab ((World.doorLaid Tryd.prog 400 os).forCall (fun _ _ => 0) ⟨#[], args, []⟩).memory :=
  laidMetH_of_parts3 (fuel := 8) (laidMet_of_run' 8 (by kernel_rfl) (by kernel_rfl)) (by kernel_rfl) (by kernel_rfl)
end Go.Proofs.YtcjpbanbfbgfbabDoor
