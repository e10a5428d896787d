/-
  NARROWER THAN 'FOR EVERY INPUT', by the rows' own cells (each row's printed sentence says how): SignSizes: laid · DeltaBack: laid · DeltaSame: laid.
  DERIVED. THE GIVEN ROWS OF THIS SEAT. 3 by the template 'for every input the law returns true; each argument reads behind the call as it read before'; 0 by the template 'total and deterministic' (their statements: YtgogjncamjbajacDoorTotals.lean).
  GIVEN WITH THE SEED: the statements are not yours to turn. If you find one false, say at which input.
  Laid BY PROGRAM, IN A SANDBOX (cutbox-rows.mjs): the forced cells as the released guide's own fill.sh prints them over the translation 40394ad39351af70… (all of the seat's roots in one cut). By AI agents, Wed Nov 11 2026. No macro, syntax, notation, axiom, sorry.
-/
import Derived.Test.YtgogjncamjbajacDoorChecked
import GoSem.Claim
import GoSem.ClaimJoined
import GoSem.ClaimMapViews
import Derived.JoinedTies
import Derived.KernelRfl
namespace Go.Proofs.YtgogjncamjbajacDoor
/- THE CELL 'sum', in the pinned program and in every row, IS THE sha256 OF THE DUMP (.gsa) THAT YtgogjncamjbajacDoorProg.lean LOADS. Nothing in Lean hashes anything: it is a label: what it is worth is what the hold of that sum in a sandbox is worth. -/
noncomputable def Tryd.pinned : Pinned := { name := "ytgogjncamjbajacdoor", sum := "40394ad39351af70311fa8f2fcb9ebc6d04e0679a24e3ef867a32e58a7d3558b", checked := Tryd.checked }
namespace Rows
def none {H : Type} : Left H := { results := [], args := [] }

/- WHAT THE LISTED PACKAGE-LEVEL VARIABLES READ AS WHEN THE CALL BEGINS. Each datum BY PROGRAM (the guide's laid-datum.mjs) off the statement by which the dump's own 'gosem.cut.vars' lays the variable. In a bare row this is a premise. The card (YtgogjncamjbajacDoorCards.lean) ties it to the program's text. -/
def laid_packhorse_api_ErrBound {H : Type} : DataW H := .iface "*errors.errorString" (.ptr (.agg [.lit (.string [112, 97, 99, 107, 104, 111, 114, 115, 101, 58, 32, 98, 111, 117, 110, 100])]))
def laid_packhorse_api_ErrText {H : Type} : DataW H := .iface "*errors.errorString" (.ptr (.agg [.lit (.string [112, 97, 99, 107, 104, 111, 114, 115, 101, 58, 32, 116, 101, 120, 116])]))
def laid_packhorse_api_ErrShape {H : Type} : DataW H := .iface "*errors.errorString" (.ptr (.agg [.lit (.string [112, 97, 99, 107, 104, 111, 114, 115, 101, 58, 32, 115, 104, 97, 112, 101])]))
def laid_packhorse_api_ErrKind {H : Type} : DataW H := .iface "*errors.errorString" (.ptr (.agg [.lit (.string [112, 97, 99, 107, 104, 111, 114, 115, 101, 58, 32, 107, 105, 110, 100])]))
def laid_packhorse_api_ErrFull {H : Type} : DataW H := .iface "*errors.errorString" (.ptr (.agg [.lit (.string [112, 97, 99, 107, 104, 111, 114, 115, 101, 58, 32, 102, 117, 108, 108])]))

/-- 'packhorselaw1.SignSizes': WHATEVER THE INPUT: true; the input reads as it did. -/
def signSizesSpec : ChangeSpec := { name := "signSizes", fn := fun _ => fun
  | [d1, d2, d3] => { results := [.lit (.bool true)], args := [d1, d2, d3] }
  | _ => none }
def signSizesRow : OpenClaim := { program := "ytgogjncamjbajacdoor", sum := "40394ad39351af70311fa8f2fcb9ebc6d04e0679a24e3ef867a32e58a7d3558b", func := "packhorse/packhorselaw1.SignSizes", spec := "signSizes", named := ["packhorse/api.ErrBound"], apart := false, laid := [("packhorse/api.ErrBound", laid_packhorse_api_ErrBound)] }
def SignSizesSaid : Prop := signSizesRow.holds Tryd.pinned (OpenSpec.ofChange signSizesSpec)

/-- ITS FALSE NEIGHBOUR: 'it returns false'. Refute it at one input. -/
def signSizesWrong : ChangeSpec := { name := "signSizes", fn := fun _ => fun
  | [d1, d2, d3] => { results := [.lit (.bool false)], args := [d1, d2, d3] }
  | _ => none }
def SignSizesWrongFalsely : Prop := signSizesRow.holds Tryd.pinned (OpenSpec.ofChange signSizesWrong)

/-- 'packhorselaw1.DeltaBack': WHATEVER THE INPUT: true; the input reads as it did. -/
def deltaBackSpec : ChangeSpec := { name := "deltaBack", fn := fun _ => fun
  | [d1, d2, d3] => { results := [.lit (.bool true)], args := [d1, d2, d3] }
  | _ => none }
def deltaBackRow : OpenClaim := { program := "ytgogjncamjbajacdoor", sum := "40394ad39351af70311fa8f2fcb9ebc6d04e0679a24e3ef867a32e58a7d3558b", func := "packhorse/packhorselaw1.DeltaBack", spec := "deltaBack", unfollowed := true, recurses := true, named := ["packhorse/api.ErrBound", "packhorse/api.ErrFull", "packhorse/api.ErrKind", "packhorse/api.ErrShape", "packhorse/api.ErrText"], apart := false, laid := [("packhorse/api.ErrText", laid_packhorse_api_ErrText), ("packhorse/api.ErrBound", laid_packhorse_api_ErrBound), ("packhorse/api.ErrShape", laid_packhorse_api_ErrShape), ("packhorse/api.ErrKind", laid_packhorse_api_ErrKind), ("packhorse/api.ErrFull", laid_packhorse_api_ErrFull)] }
def DeltaBackSaid : Prop := deltaBackRow.holds Tryd.pinned (OpenSpec.ofChange deltaBackSpec)

/-- ITS FALSE NEIGHBOUR: 'it returns false'. Refute it at one input. -/
def deltaBackWrong : ChangeSpec := { name := "deltaBack", fn := fun _ => fun
  | [d1, d2, d3] => { results := [.lit (.bool false)], args := [d1, d2, d3] }
  | _ => none }
def DeltaBackWrongFalsely : Prop := deltaBackRow.holds Tryd.pinned (OpenSpec.ofChange deltaBackWrong)

/-- 'packhorselaw1.DeltaSame': WHATEVER THE INPUT: true; the input reads as it did. -/
def deltaSameSpec : ChangeSpec := { name := "deltaSame", fn := fun _ => fun
  | [d1, d2, d3] => { results := [.lit (.bool true)], args := [d1, d2, d3] }
  | _ => none }
def deltaSameRow : OpenClaim := { program := "ytgogjncamjbajacdoor", sum := "40394ad39351af70311fa8f2fcb9ebc6d04e0679a24e3ef867a32e58a7d3558b", func := "packhorse/packhorselaw1.DeltaSame", spec := "deltaSame", unfollowed := true, recurses := true, named := ["packhorse/api.ErrBound", "packhorse/api.ErrFull"], apart := false, laid := [("packhorse/api.ErrBound", laid_packhorse_api_ErrBound), ("packhorse/api.ErrFull", laid_packhorse_api_ErrFull)] }
def DeltaSameSaid : Prop := deltaSameRow.holds Tryd.pinned (OpenSpec.ofChange deltaSameSpec)

/-- ITS FALSE NEIGHBOUR: 'it returns false'. Refute it at one input. -/
def deltaSameWrong : ChangeSpec := { name := "deltaSame", fn := fun _ => fun
  | [d1, d2, d3] => { results := [.lit (.bool false)], args := [d1, d2, d3] }
  | _ => none }
def DeltaSameWrongFalsely : Prop := deltaSameRow.holds Tryd.pinned (OpenSpec.ofChange deltaSameWrong)

/- THE SECOND FORM. 'bulk': how many values and letters a reading holds, each counted each time it is reached (what is shared counts as often as it is met; a slice's spare places count too). A statement '..UptoSaid' is the law's where the arguments, and the package variables that the reading takes, are together of bulk at most 1048576: NARROWER than '..Said'. Prove '..Said' where nothing that the law and all that it calls make is longer than what came in: it says more and counts as full. Else prove '..UptoSaid'. A law counts once. -/
mutual
def uptoBulk {H : Type} : DataW H → Nat
  | .lit (.string bytes) => bytes.length + 1
  | .lit _ => 1
  | .nil => 1
  | .ptr d => uptoBulk d + 1
  | .slice elems spare => uptoBulkAll elems + uptoBulkAll spare + 1
  | .agg parts => uptoBulkAll parts + 1
  | .iface _ d => uptoBulk d + 1
  | .map entries => uptoBulkEntries entries + 1
  | .held _ => 1
def uptoBulkAll {H : Type} : List (DataW H) → Nat
  | [] => 0
  | d :: r => uptoBulk d + uptoBulkAll r
def uptoBulkEntries {H : Type} : List (Lit × DataW H) → Nat
  | [] => 0
  | x :: r => uptoBulkEntry x + uptoBulkEntries r
def uptoBulkEntry {H : Type} : Lit × DataW H → Nat
  | (.string bytes, d) => bytes.length + uptoBulk d + 1
  | (_, d) => uptoBulk d + 1
 end
def uptoSmall : (H : Type) → List (DataW H) → Bool := fun _ ds => decide (uptoBulkAll ds ≤ 1048576)
def OpenSpec.upto (s : _root_.Go.ChangeSpec) : _root_.Go.OpenSpec := { _root_.Go.OpenSpec.ofChange s with cond := some uptoSmall }

/-- 'packhorselaw1.SignSizes', WHERE WHAT IT READS IS OF BULK AT MOST 1048576: true; the input reads as it did. -/
def signSizesUptoRow : OpenClaim := { program := "ytgogjncamjbajacdoor", sum := "40394ad39351af70311fa8f2fcb9ebc6d04e0679a24e3ef867a32e58a7d3558b", func := "packhorse/packhorselaw1.SignSizes", spec := "signSizes", named := ["packhorse/api.ErrBound"], apart := false, laid := [("packhorse/api.ErrBound", laid_packhorse_api_ErrBound)], narrowed := true }
def SignSizesUptoSaid : Prop := signSizesUptoRow.holds Tryd.pinned (OpenSpec.upto signSizesSpec)

/-- 'packhorselaw1.DeltaBack', WHERE WHAT IT READS IS OF BULK AT MOST 1048576: true; the input reads as it did. -/
def deltaBackUptoRow : OpenClaim := { program := "ytgogjncamjbajacdoor", sum := "40394ad39351af70311fa8f2fcb9ebc6d04e0679a24e3ef867a32e58a7d3558b", func := "packhorse/packhorselaw1.DeltaBack", spec := "deltaBack", unfollowed := true, recurses := true, named := ["packhorse/api.ErrBound", "packhorse/api.ErrFull", "packhorse/api.ErrKind", "packhorse/api.ErrShape", "packhorse/api.ErrText"], apart := false, laid := [("packhorse/api.ErrText", laid_packhorse_api_ErrText), ("packhorse/api.ErrBound", laid_packhorse_api_ErrBound), ("packhorse/api.ErrShape", laid_packhorse_api_ErrShape), ("packhorse/api.ErrKind", laid_packhorse_api_ErrKind), ("packhorse/api.ErrFull", laid_packhorse_api_ErrFull)], narrowed := true }
def DeltaBackUptoSaid : Prop := deltaBackUptoRow.holds Tryd.pinned (OpenSpec.upto deltaBackSpec)

/-- 'packhorselaw1.DeltaSame', WHERE WHAT IT READS IS OF BULK AT MOST 1048576: true; the input reads as it did. -/
def deltaSameUptoRow : OpenClaim := { program := "ytgogjncamjbajacdoor", sum := "40394ad39351af70311fa8f2fcb9ebc6d04e0679a24e3ef867a32e58a7d3558b", func := "packhorse/packhorselaw1.DeltaSame", spec := "deltaSame", unfollowed := true, recurses := true, named := ["packhorse/api.ErrBound", "packhorse/api.ErrFull"], apart := false, laid := [("packhorse/api.ErrBound", laid_packhorse_api_ErrBound), ("packhorse/api.ErrFull", laid_packhorse_api_ErrFull)], narrowed := true }
def DeltaSameUptoSaid : Prop := deltaSameUptoRow.holds Tryd.pinned (OpenSpec.upto deltaSameSpec)

end Rows
end Go.Proofs.YtgogjncamjbajacDoor
