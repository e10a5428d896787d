/-
  What the condition of the rows of TapeCuts and TapeJoins, on nine variables, gives their walks; the door's own heap meets it. And what the eighteen of TapeActs give.
-/
import Derived.Test.YtledipmimfphdaaDoorLaidG18
import Derived.Test.YtledipmimfphdaaDoorTkFirst
namespace Go.Proofs.YtledipmimfphdaaDoor
open Go.ChangeShapes Go.WideShapes Go.ChangeAt Go.RowKit

/-- The nine, as the rows list them. -/
abbrev laid9 : List (String × DataW Unit) := [("math/bits.deBruijn32tab", Rows.laid_math_bits_deBruijn32tab), ("math/bits.deBruijn64tab", Rows.laid_math_bits_deBruijn64tab), ("internal/strconv.uint64pow10", Rows.laid_internal_strconv_uint64pow10), ("packhorse/api.ErrBound", Rows.laid_packhorse_api_ErrBound), ("packhorse/api.ErrShape", Rows.laid_packhorse_api_ErrShape), ("packhorse/api.ErrFull", Rows.laid_packhorse_api_ErrFull), ("packhorse/api.ErrOff", Rows.laid_packhorse_api_ErrOff), ("strconv.ErrRange", Rows.laid_strconv_ErrRange), ("strconv.ErrSyntax", Rows.laid_strconv_ErrSyntax)]
theorem Tryd.gRng : Tryd.prog.globalNamed "strconv.ErrRange" = some 15 := by kernel_rfl
theorem Tryd.tRng : (Tryd.prog.globals[15]?).map (·.type) = some 26 := by kernel_rfl
theorem Tryd.gFul : Tryd.prog.globalNamed "packhorse/api.ErrFull" = some 3 := by kernel_rfl
theorem Tryd.tFul : (Tryd.prog.globals[3]?).map (·.type) = some 26 := by kernel_rfl
theorem Tryd.gOff : Tryd.prog.globalNamed "packhorse/api.ErrOff" = some 1 := by kernel_rfl
theorem Tryd.tOff : (Tryd.prog.globals[1]?).map (·.type) = some 26 := by kernel_rfl
/-- One error's variable. -/
theorem sent_of {W : World} {n : String} {text : List UInt8} {g : Nat} (h : laidMet Tryd.prog [(n, .iface "*errors.errorString" (.ptr (.agg [.lit (.string text)])))] W) (hg : Tryd.prog.globalNamed n = some g) (ht : (Tryd.prog.globals[g]?).map (·.type) = some 26) :
    ∃ a : Addr, W.var? Tryd.prog n = some #[.iface 134 (.pointer (some a))] ∧ W.cell? ⟨g, 0, none⟩ = some (.iface 134 (.pointer (some a))) := by
  obtain ⟨aS, _, hvS, _⟩ := laid_sentinel h hg ht Tryd.underlying26 Tryd.row134 Tryd.underlying134 Tryd.underlying136 rfl rfl Tryd.underlying9 Tryd.cells136 Tryd.cells9
  exact ⟨aS, hvS, by simpa using World.var?_cell hg hvS 0⟩
theorem one_of {ls : List (String × DataW Unit)} {x : String × DataW Unit} {W : World} (h : laidMetH Tryd.prog ls W) (he : ls.filter (among [x.1]) = [x]) (hp : ([x].all fun y => y.2.handleName?.isNone) = true) : laidMet Tryd.prog [x] W := by
  have h1 := h.filter (among [x.1])
  rw [he, MakeChecks.laidMetH_plain _ _ _ hp] at h1
  exact h1
theorem laid9_pow : laid9.filter (among ["internal/strconv.uint64pow10"]) = [("internal/strconv.uint64pow10", Lib.tabData .u64 Lib.pow10Tab)] := by kernel_rfl
theorem laid9_bnd : laid9.filter (among ["packhorse/api.ErrBound"]) = [("packhorse/api.ErrBound", Rows.laid_packhorse_api_ErrBound)] := by kernel_rfl
theorem laid9_ful : laid9.filter (among ["packhorse/api.ErrFull"]) = [("packhorse/api.ErrFull", Rows.laid_packhorse_api_ErrFull)] := by kernel_rfl
theorem laid9_off : laid9.filter (among ["packhorse/api.ErrOff"]) = [("packhorse/api.ErrOff", Rows.laid_packhorse_api_ErrOff)] := by kernel_rfl
theorem laid9_syn : laid9.filter (among ["strconv.ErrSyntax"]) = [("strconv.ErrSyntax", Rows.laid_strconv_ErrSyntax)] := by kernel_rfl
theorem laid9_rng : laid9.filter (among ["strconv.ErrRange"]) = [("strconv.ErrRange", Rows.laid_strconv_ErrRange)] := by kernel_rfl
theorem laid18_rng : laid18.filter (among ["strconv.ErrRange"]) = [("strconv.ErrRange", Rows.laid_strconv_ErrRange)] := by kernel_rfl
def three (b f o : Addr) : Nat → Addr
  | 1 => b
  | 7 => f
  | _ => o
theorem tkenv_of_laid {W : World} (h : laidMetH Tryd.prog laid9 W) : ∃ s : (Nat → Addr) × ((TypeId × Value) × (TypeId × Value)), TkEnv s.1 s.2.1 s.2.2 W := by
  have hp := one_of (x := ("internal/strconv.uint64pow10", Lib.tabData .u64 Lib.pow10Tab)) h laid9_pow (by kernel_rfl)
  obtain ⟨b, _, hb⟩ := sent_of (one_of (x := ("packhorse/api.ErrBound", Rows.laid_packhorse_api_ErrBound)) h laid9_bnd (by kernel_rfl)) Tryd.gBound Tryd.tBound
  obtain ⟨f, _, hf⟩ := sent_of (one_of (x := ("packhorse/api.ErrFull", Rows.laid_packhorse_api_ErrFull)) h laid9_ful (by kernel_rfl)) Tryd.gFul Tryd.tFul
  obtain ⟨o, _, ho⟩ := sent_of (one_of (x := ("packhorse/api.ErrOff", Rows.laid_packhorse_api_ErrOff)) h laid9_off (by kernel_rfl)) Tryd.gOff Tryd.tOff
  obtain ⟨y, hy, _⟩ := sent_of (one_of (x := ("strconv.ErrSyntax", Rows.laid_strconv_ErrSyntax)) h laid9_syn (by kernel_rfl)) Tryd.gSyn Tryd.tSyn
  obtain ⟨r, hr, _⟩ := sent_of (one_of (x := ("strconv.ErrRange", Rows.laid_strconv_ErrRange)) h laid9_rng (by kernel_rfl)) Tryd.gRng Tryd.tRng
  exact ⟨(three b f o, (134, .pointer (some y)), (134, .pointer (some r))), ⟨hb, hf, ho⟩, Lib.tabIs_of_head Tryd.gPow Tryd.tPow Tryd.underlying124 Tryd.underlying112 Tryd.cWord Tryd.cPow hp, hy, hr⟩
theorem tkenv_of_laid18 {W : World} (h : laidMetH Tryd.prog laid18 W) : ∃ s : (Nat → Addr) × ((TypeId × Value) × (TypeId × Value)), TkEnv s.1 s.2.1 s.2.2 W ∧ Sents W s.1 := by
  obtain ⟨r, hr, _⟩ := sent_of (one_of (x := ("strconv.ErrRange", Rows.laid_strconv_ErrRange)) h laid18_rng (by kernel_rfl)) Tryd.gRng Tryd.tRng
  obtain ⟨⟨a, e⟩, hg⟩ := gtenv_of_laid h
  exact ⟨(a, e, (134, .pointer (some r))), ⟨⟨hg.sents.c1, hg.sents.c7, hg.sents.c11⟩, hg.tab, hg.syn, hr⟩, hg.sents⟩
theorem door_met9 (os : Os) (args : Array Value) : laidMetH Tryd.prog laid9 ((World.doorLaid Tryd.prog 400 os).forCall (fun _ _ => 0) ⟨#[], args, []⟩).memory :=
  laidMetH_of_parts3 (fuel := 8) (laidMet_of_run' 8 (by kernel_rfl) (by kernel_rfl)) (by kernel_rfl) (by kernel_rfl)
end Go.Proofs.YtledipmimfphdaaDoor
