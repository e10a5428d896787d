/-
  What the rows' condition on the eighteen variables gives the walks of the gate's laws; the door's own heap meets it.
-/
import Derived.Test.YtogpjblikphpcaaGreatDoorSentinels12
import Derived.Test.YtogpjblikphpcaaGreatDoorLibDig
import Derived.LaidSub
import Derived.Lib.LaidTab
namespace Go.Proofs.YtogpjblikphpcaaGreatDoor
open Go.ChangeShapes Go.WideShapes Go.ChangeAt Go.RowKit

theorem Tryz.gPow : Tryz.prog.globalNamed "internal/strconv.uint64pow10" = some 14 := by kernel_rfl
theorem Tryz.tPow : (Tryz.prog.globals[14]?).map (·.type) = some 208 := by kernel_rfl
theorem Tryz.cPow : Tryz.prog.cellsOf 208 = 20 := by kernel_rfl
theorem Tryz.cWord : Tryz.prog.cellsOf 132 = 1 := by kernel_rfl
theorem Tryz.gSyn : Tryz.prog.globalNamed "strconv.ErrSyntax" = some 15 := by kernel_rfl
theorem Tryz.tSyn : (Tryz.prog.globals[15]?).map (·.type) = some 28 := by kernel_rfl

/-- The eighteen, as the rows list them. -/
abbrev laid18 : List (String × DataW Unit) := [("math/bits.deBruijn32tab", Rows.laid_math_bits_deBruijn32tab), ("math/bits.deBruijn64tab", Rows.laid_math_bits_deBruijn64tab), ("internal/strconv.uint64pow10", Rows.laid_internal_strconv_uint64pow10), ("errors.errorType", Rows.laid_errors_errorType), ("packhorse/api.ErrText", Rows.laid_packhorse_api_ErrText), ("packhorse/api.ErrBound", Rows.laid_packhorse_api_ErrBound), ("packhorse/api.ErrShape", Rows.laid_packhorse_api_ErrShape), ("packhorse/api.ErrKind", Rows.laid_packhorse_api_ErrKind), ("packhorse/api.ErrName", Rows.laid_packhorse_api_ErrName), ("packhorse/api.ErrNone", Rows.laid_packhorse_api_ErrNone), ("packhorse/api.ErrExist", Rows.laid_packhorse_api_ErrExist), ("packhorse/api.ErrFull", Rows.laid_packhorse_api_ErrFull), ("packhorse/api.ErrOrder", Rows.laid_packhorse_api_ErrOrder), ("packhorse/api.ErrSum", Rows.laid_packhorse_api_ErrSum), ("packhorse/api.ErrStale", Rows.laid_packhorse_api_ErrStale), ("packhorse/api.ErrOff", Rows.laid_packhorse_api_ErrOff), ("strconv.ErrRange", Rows.laid_strconv_ErrRange), ("strconv.ErrSyntax", Rows.laid_strconv_ErrSyntax)]
def among (l : List String) (x : String × DataW Unit) : Bool := l.contains x.1
theorem laid18_13 : laid18.filter (among (laid13.map (·.1))) = laid13 := by kernel_rfl
theorem laid18_pow : laid18.filter (among ["internal/strconv.uint64pow10"]) = [("internal/strconv.uint64pow10", Lib.tabData .u64 Lib.pow10Tab)] := by kernel_rfl
theorem laid18_syn : laid18.filter (among ["strconv.ErrSyntax"]) = [("strconv.ErrSyntax", Rows.laid_strconv_ErrSyntax)] := by kernel_rfl
theorem gtenv_of_laid {W : World} (h : laidMetH Tryz.prog laid18 W) : ∃ s : (Nat → Addr) × (TypeId × Value), GtEnv s.1 s.2 W := by
  have h13 := h.filter (among (laid13.map (·.1)))
  rw [laid18_13] at h13
  have hp := h.filter (among ["internal/strconv.uint64pow10"])
  rw [laid18_pow, MakeChecks.laidMetH_plain _ _ _ (by kernel_rfl)] at hp
  have hs := h.filter (among ["strconv.ErrSyntax"])
  rw [laid18_syn, MakeChecks.laidMetH_plain _ _ _ (by kernel_rfl)] at hs
  obtain ⟨a, ha⟩ := sents_of_laid h13
  obtain ⟨aS, _, hvS, _⟩ := laid_sentinel hs Tryz.gSyn Tryz.tSyn Tryz.underlying28 Tryz.row231 Tryz.underlying231 Tryz.underlying233 rfl rfl Tryz.underlying9 Tryz.cells233 Tryz.cells9
  exact ⟨(a, 231, .pointer (some aS)), ha, Lib.tabIs_of_head Tryz.gPow Tryz.tPow Tryz.underlying208 Tryz.underlying132 Tryz.cWord Tryz.cPow hp, hvS⟩
theorem door_met18 (os : Os) (args : Array Value) : laidMetH Tryz.prog laid18 ((World.doorLaid Tryz.prog 400 os).forCall (fun _ _ => 0) ⟨#[], args, []⟩).memory :=
  laidMetH_of_parts3 (fuel := 8) (laidMet_of_run' 8 (by kernel_rfl) (by kernel_rfl)) (by kernel_rfl) (by kernel_rfl)
end Go.Proofs.YtogpjblikphpcaaGreatDoor
