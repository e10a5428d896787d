/-
  What the rows' condition on the eighteen variables gives the walks of the gate's laws; the door's own heap meets it.
-/
import Derived.Test.YtledipmimfphdaaDoorSentinels12
import Derived.Test.YtledipmimfphdaaDoorLibDig
import Derived.LaidSub
import Derived.Lib.LaidTab
namespace Go.Proofs.YtledipmimfphdaaDoor
open Go.ChangeShapes Go.WideShapes Go.ChangeAt Go.RowKit

theorem Tryd.gPow : Tryd.prog.globalNamed "internal/strconv.uint64pow10" = some 16 := by kernel_rfl
theorem Tryd.tPow : (Tryd.prog.globals[16]?).map (·.type) = some 124 := by kernel_rfl
theorem Tryd.cPow : Tryd.prog.cellsOf 124 = 20 := by kernel_rfl
theorem Tryd.cWord : Tryd.prog.cellsOf 112 = 1 := by kernel_rfl
theorem Tryd.gSyn : Tryd.prog.globalNamed "strconv.ErrSyntax" = some 14 := by kernel_rfl
theorem Tryd.tSyn : (Tryd.prog.globals[14]?).map (·.type) = some 26 := by kernel_rfl

/-- The eighteen, as the rows list them. -/
abbrev laid18 : List (String × DataW Unit) := [("math/bits.deBruijn32tab", Rows.laid_math_bits_deBruijn32tab), ("math/bits.deBruijn64tab", Rows.laid_math_bits_deBruijn64tab), ("internal/strconv.uint64pow10", Rows.laid_internal_strconv_uint64pow10), ("errors.errorType", Rows.laid_errors_errorType), ("packhorse/api.ErrText", Rows.laid_packhorse_api_ErrText), ("packhorse/api.ErrBound", Rows.laid_packhorse_api_ErrBound), ("packhorse/api.ErrShape", Rows.laid_packhorse_api_ErrShape), ("packhorse/api.ErrKind", Rows.laid_packhorse_api_ErrKind), ("packhorse/api.ErrName", Rows.laid_packhorse_api_ErrName), ("packhorse/api.ErrNone", Rows.laid_packhorse_api_ErrNone), ("packhorse/api.ErrExist", Rows.laid_packhorse_api_ErrExist), ("packhorse/api.ErrFull", Rows.laid_packhorse_api_ErrFull), ("packhorse/api.ErrOrder", Rows.laid_packhorse_api_ErrOrder), ("packhorse/api.ErrSum", Rows.laid_packhorse_api_ErrSum), ("packhorse/api.ErrStale", Rows.laid_packhorse_api_ErrStale), ("packhorse/api.ErrOff", Rows.laid_packhorse_api_ErrOff), ("strconv.ErrRange", Rows.laid_strconv_ErrRange), ("strconv.ErrSyntax", Rows.laid_strconv_ErrSyntax)]
def among (l : List String) (x : String × DataW Unit) : Bool := l.contains x.1
theorem laid18_13 : laid18.filter (among (laid13.map (·.1))) = laid13 := by kernel_rfl
theorem laid18_pow : laid18.filter (among ["internal/strconv.uint64pow10"]) = [("internal/strconv.uint64pow10", Lib.tabData .u64 Lib.pow10Tab)] := by kernel_rfl
theorem laid18_syn : laid18.filter (among ["strconv.ErrSyntax"]) = [("strconv.ErrSyntax", Rows.laid_strconv_ErrSyntax)] := by kernel_rfl
theorem gtenv_of_laid {W : World} (h : laidMetH Tryd.prog laid18 W) : ∃ s : (Nat → Addr) × (TypeId × Value), GtEnv s.1 s.2 W := by
  have h13 := h.filter (among (laid13.map (·.1)))
  rw [laid18_13] at h13
  have hp := h.filter (among ["internal/strconv.uint64pow10"])
  rw [laid18_pow, MakeChecks.laidMetH_plain _ _ _ (by kernel_rfl)] at hp
  have hs := h.filter (among ["strconv.ErrSyntax"])
  rw [laid18_syn, MakeChecks.laidMetH_plain _ _ _ (by kernel_rfl)] at hs
  obtain ⟨a, ha⟩ := sents_of_laid h13
  obtain ⟨aS, _, hvS, _⟩ := laid_sentinel hs Tryd.gSyn Tryd.tSyn Tryd.underlying26 Tryd.row134 Tryd.underlying134 Tryd.underlying136 rfl rfl Tryd.underlying9 Tryd.cells136 Tryd.cells9
  exact ⟨(a, 134, .pointer (some aS)), ha, Lib.tabIs_of_head Tryd.gPow Tryd.tPow Tryd.underlying124 Tryd.underlying112 Tryd.cWord Tryd.cPow hp, hvS⟩
theorem door_met18 (os : Os) (args : Array Value) : laidMetH Tryd.prog laid18 ((World.doorLaid Tryd.prog 400 os).forCall (fun _ _ => 0) ⟨#[], args, []⟩).memory :=
  laidMetH_of_parts3 (fuel := 8) (laidMet_of_run' 8 (by kernel_rfl) (by kernel_rfl)) (by kernel_rfl) (by kernel_rfl)
end Go.Proofs.YtledipmimfphdaaDoor
