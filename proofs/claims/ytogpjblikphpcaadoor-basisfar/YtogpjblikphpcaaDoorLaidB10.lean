/-
  What the condition of the row of BasisFar, on ten variables, gives its walk; the door's own heap meets it.
-/
import Derived.Test.YtogpjblikphpcaaDoorBkRead
import Derived.Test.YtogpjblikphpcaaDoorLaidCore
import Derived.LaidSub
import Derived.Lib.LaidTab
import Derived.LaidMore
import Derived.Lay
namespace Go.Proofs.YtogpjblikphpcaaDoor
open Go.ChangeShapes Go.WideShapes Go.ChangeAt Go.RowKit

theorem Tryd.gPow : Tryd.prog.globalNamed "internal/strconv.uint64pow10" = some 3 := by kernel_rfl
theorem Tryd.tPow : (Tryd.prog.globals[3]?).map (·.type) = some 98 := by kernel_rfl
theorem Tryd.cPow : Tryd.prog.cellsOf 98 = 20 := by kernel_rfl
theorem Tryd.cWord : Tryd.prog.cellsOf 58 = 1 := by kernel_rfl
theorem Tryd.gSyn : Tryd.prog.globalNamed "strconv.ErrSyntax" = some 5 := by kernel_rfl
theorem Tryd.tSyn : (Tryd.prog.globals[5]?).map (·.type) = some 25 := by kernel_rfl
theorem Tryd.gTxt : Tryd.prog.globalNamed "packhorse/api.ErrText" = some 1 := by kernel_rfl
theorem Tryd.tTxt : (Tryd.prog.globals[1]?).map (·.type) = some 25 := by kernel_rfl
theorem Tryd.gNam : Tryd.prog.globalNamed "packhorse/api.ErrName" = some 2 := by kernel_rfl
theorem Tryd.tNam : (Tryd.prog.globals[2]?).map (·.type) = some 25 := by kernel_rfl

/-- The ten, as the row lists them. -/
abbrev laidB10 : List (String × DataW Unit) := [("math/bits.deBruijn32tab", Rows.laid_math_bits_deBruijn32tab), ("math/bits.deBruijn64tab", Rows.laid_math_bits_deBruijn64tab), ("internal/strconv.uint64pow10", Rows.laid_internal_strconv_uint64pow10), ("unicode/utf8.acceptRanges", Rows.laid_unicode_utf8_acceptRanges), ("packhorse/api.ErrText", Rows.laid_packhorse_api_ErrText), ("packhorse/api.ErrBound", Rows.laid_packhorse_api_ErrBound), ("packhorse/api.ErrName", Rows.laid_packhorse_api_ErrName), ("strconv.ErrRange", Rows.laid_strconv_ErrRange), ("strconv.ErrSyntax", Rows.laid_strconv_ErrSyntax), ("unicode/utf8.first", Rows.laid_unicode_utf8_first)]
def among (l : List String) (x : String × DataW Unit) : Bool := l.contains x.1
/-- One error's variable. -/
theorem sent_of {W : World} {n : String} {text : List UInt8} {g : Nat} (h : laidMet Tryd.prog [(n, .iface "*errors.errorString" (.ptr (.agg [.lit (.string text)])))] W) (hg : Tryd.prog.globalNamed n = some g) (ht : (Tryd.prog.globals[g]?).map (·.type) = some 25) :
    ∃ a : Addr, W.var? Tryd.prog n = some #[.iface 129 (.pointer (some a))] ∧ W.cell? ⟨g, 0, none⟩ = some (.iface 129 (.pointer (some a))) := by
  obtain ⟨aS, _, hvS, _⟩ := laid_sentinel h hg ht Tryd.underlying25 Tryd.row129 Tryd.underlying129 Tryd.underlying131 rfl rfl Tryd.underlying9 Tryd.cells131 Tryd.cells9
  exact ⟨aS, hvS, by simpa using World.var?_cell hg hvS 0⟩
theorem one_of {ls : List (String × DataW Unit)} {x : String × DataW Unit} {W : World} (h : laidMetH Tryd.prog ls W) (he : ls.filter (among [x.1]) = [x]) (hp : ([x].all fun y => y.2.handleName?.isNone) = true) : laidMet Tryd.prog [x] W := by
  have h1 := h.filter (among [x.1])
  rw [he, MakeChecks.laidMetH_plain _ _ _ hp] at h1
  exact h1
theorem laidB10_pow : laidB10.filter (among ["internal/strconv.uint64pow10"]) = [("internal/strconv.uint64pow10", Lib.tabData .u64 Lib.pow10Tab)] := by kernel_rfl
theorem laidB10_txt : laidB10.filter (among ["packhorse/api.ErrText"]) = [("packhorse/api.ErrText", Rows.laid_packhorse_api_ErrText)] := by kernel_rfl
theorem laidB10_bnd : laidB10.filter (among ["packhorse/api.ErrBound"]) = [("packhorse/api.ErrBound", Rows.laid_packhorse_api_ErrBound)] := by kernel_rfl
theorem laidB10_nam : laidB10.filter (among ["packhorse/api.ErrName"]) = [("packhorse/api.ErrName", Rows.laid_packhorse_api_ErrName)] := by kernel_rfl
theorem laidB10_syn : laidB10.filter (among ["strconv.ErrSyntax"]) = [("strconv.ErrSyntax", Rows.laid_strconv_ErrSyntax)] := by kernel_rfl
def threeB (t b n : Addr) : Nat → Addr
  | 0 => t
  | 1 => b
  | _ => n
theorem bkenv_of_laid10 {W : World} (h : laidMetH Tryd.prog laidB10 W) : ∃ s : (Nat → Addr) × (TypeId × Value), BkEnv s.1 s.2 W := by
  have hp := one_of (x := ("internal/strconv.uint64pow10", Lib.tabData .u64 Lib.pow10Tab)) h laidB10_pow (by kernel_rfl)
  obtain ⟨t, _, ht⟩ := sent_of (one_of (x := ("packhorse/api.ErrText", Rows.laid_packhorse_api_ErrText)) h laidB10_txt (by kernel_rfl)) Tryd.gTxt Tryd.tTxt
  obtain ⟨b, _, hb⟩ := sent_of (one_of (x := ("packhorse/api.ErrBound", Rows.laid_packhorse_api_ErrBound)) h laidB10_bnd (by kernel_rfl)) Tryd.gBound Tryd.tBound
  obtain ⟨n, _, hn⟩ := sent_of (one_of (x := ("packhorse/api.ErrName", Rows.laid_packhorse_api_ErrName)) h laidB10_nam (by kernel_rfl)) Tryd.gNam Tryd.tNam
  obtain ⟨y, hy, _⟩ := sent_of (one_of (x := ("strconv.ErrSyntax", Rows.laid_strconv_ErrSyntax)) h laidB10_syn (by kernel_rfl)) Tryd.gSyn Tryd.tSyn
  exact ⟨(threeB t b n, (129, .pointer (some y))), ⟨⟨ht, hb, hn⟩, Lib.tabIs_of_head Tryd.gPow Tryd.tPow Tryd.underlying98 Tryd.underlying58 Tryd.cWord Tryd.cPow hp, hy⟩⟩
theorem door_metB10 (os : Os) (args : Array Value) : laidMetH Tryd.prog laidB10 ((World.laidAll Tryd.prog os laidB10).forCall (fun _ _ => 0) ⟨#[], args, []⟩).memory := by
  rw [MakeChecks.laidMetH_plain _ _ _ (by kernel_rfl)]
  exact laidMet_laidAll _ (by kernel_rfl) (by kernel_rfl)
end Go.Proofs.YtogpjblikphpcaaDoor
