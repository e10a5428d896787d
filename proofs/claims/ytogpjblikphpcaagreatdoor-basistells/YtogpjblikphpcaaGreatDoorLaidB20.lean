/-
  What the condition of the row of BasisTells, on twenty variables, gives its walk; a world that meets it.
-/
import Derived.Test.YtogpjblikphpcaaGreatDoorBkRead
import Derived.Test.YtogpjblikphpcaaGreatDoorLaidG18
import Derived.Lay
namespace Go.Proofs.YtogpjblikphpcaaGreatDoor
open Go.ChangeShapes Go.WideShapes Go.ChangeAt Go.RowKit

/-- The twenty, as the row lists them. -/
abbrev laidB20 : List (String × DataW Unit) := [("math/bits.deBruijn32tab", Rows.laid_math_bits_deBruijn32tab), ("math/bits.deBruijn64tab", Rows.laid_math_bits_deBruijn64tab), ("internal/strconv.uint64pow10", Rows.laid_internal_strconv_uint64pow10), ("unicode/utf8.acceptRanges", Rows.laid_unicode_utf8_acceptRanges), ("errors.errorType", Rows.laid_errors_errorType), ("packhorse/api.ErrText", Rows.laid_packhorse_api_ErrText), ("packhorse/api.ErrBound", Rows.laid_packhorse_api_ErrBound), ("packhorse/api.ErrShape", Rows.laid_packhorse_api_ErrShape), ("packhorse/api.ErrKind", Rows.laid_packhorse_api_ErrKind), ("packhorse/api.ErrName", Rows.laid_packhorse_api_ErrName), ("packhorse/api.ErrNone", Rows.laid_packhorse_api_ErrNone), ("packhorse/api.ErrExist", Rows.laid_packhorse_api_ErrExist), ("packhorse/api.ErrFull", Rows.laid_packhorse_api_ErrFull), ("packhorse/api.ErrOrder", Rows.laid_packhorse_api_ErrOrder), ("packhorse/api.ErrSum", Rows.laid_packhorse_api_ErrSum), ("packhorse/api.ErrStale", Rows.laid_packhorse_api_ErrStale), ("packhorse/api.ErrOff", Rows.laid_packhorse_api_ErrOff), ("strconv.ErrRange", Rows.laid_strconv_ErrRange), ("strconv.ErrSyntax", Rows.laid_strconv_ErrSyntax), ("unicode/utf8.first", Rows.laid_unicode_utf8_first)]
theorem laidB20_18 : laidB20.filter (among (laid18.map (·.1))) = laid18 := by kernel_rfl
theorem bkenv_of_laid20 {W : World} (h : laidMetH Tryz.prog laidB20 W) : ∃ s : (Nat → Addr) × (TypeId × Value), BkEnv s.1 s.2 W ∧ Sents W s.1 := by
  have h1 := h.filter (among (laid18.map (·.1)))
  rw [laidB20_18] at h1
  obtain ⟨⟨a, e⟩, hg⟩ := gtenv_of_laid h1
  exact ⟨(a, e), ⟨⟨hg.sents.c0, hg.sents.c1, hg.sents.c4⟩, hg.tab, hg.syn⟩, hg.sents⟩
/-- The pinned one. -/
abbrev pinB20 : List String := ["unicode/utf8.first"]
/-- The list but for the handle. -/
abbrev plainB20 : List (String × DataW Unit) := laidB20.filter fun x => x.2.handleName?.isNone
theorem door_metB20 (os : Os) (args : Array Value) : laidMetH Tryz.prog laidB20 (((World.doorLaid Tryz.prog 400 os).layVars Tryz.prog (plainB20.filter fun x => pinB20.contains x.1)).forCall (fun _ _ => 0) ⟨#[], args, []⟩).memory :=
  laidMetH_of_parts3 (fuel := 8)
    (laidMet_layVars (w0 := World.doorLaid Tryz.prog 400 os) pinB20 (((DataW.laidRun Tryz.prog (((World.doorLaid Tryz.prog 400 os).layVars Tryz.prog (plainB20.filter fun x => pinB20.contains x.1)).forCall (fun _ _ => 0) ⟨#[], args, []⟩).memory 8 ((plainB20.filter fun x => !pinB20.contains x.1).map (·.1))).map fun x => x.2.map (·.block)).getD []) (by kernel_rfl) (by kernel_rfl) (by kernel_rfl)
      (LaidIn.of_run _ 8 (by kernel_rfl) (by kernel_rfl) (by kernel_rfl) (by kernel_rfl)))
    (by kernel_rfl) (by kernel_rfl)
end Go.Proofs.YtogpjblikphpcaaGreatDoor
