/-
  NARROWER THAN 'FOR EVERY INPUT', by the rows' own cells (each row's printed sentence says how): SignSizes: laid · DeltaBack: laid · DeltaSame: laid · PatchTells: laid · PatchWhole: laid.
  DERIVED. THE GIVEN ROWS OF THIS SEAT. 5 by the template 'for every input the law returns true; each argument reads behind the call as it read before'; 0 by the template 'total and deterministic' (their statements: YtcenohaadggdiacDoorTotals.lean).
  GIVEN WITH THE SEED: the statements are not yours to turn. If you find one false, say at which input.
  Laid BY PROGRAM, IN A SANDBOX (cutbox-rows.mjs): the forced cells as the released guide's own fill.sh prints them over the translation 7b0296bfe3e89249… (all of the seat's roots in one cut). By AI agents, Wed Nov 11 2026. No macro, syntax, notation, axiom, sorry.
-/
import Derived.Test.YtcenohaadggdiacDoorChecked
import GoSem.Claim
import GoSem.ClaimJoined
import GoSem.ClaimMapViews
import Derived.JoinedTies
import Derived.KernelRfl
namespace Go.Proofs.YtcenohaadggdiacDoor
/- THE CELL 'sum', in the pinned program and in every row, IS THE sha256 OF THE DUMP (.gsa) THAT YtcenohaadggdiacDoorProg.lean LOADS. Nothing in Lean hashes anything: it is a label: what it is worth is what the hold of that sum in a sandbox is worth. -/
noncomputable def Tryd.pinned : Pinned := { name := "ytcenohaadggdiacdoor", sum := "7b0296bfe3e89249f89c3fc248c4fdf15d51f6e5787d94c602a3b905f6f2cef9", checked := Tryd.checked }
namespace Rows
def none {H : Type} : Left H := { results := [], args := [] }

/- WHAT THE LISTED PACKAGE-LEVEL VARIABLES READ AS WHEN THE CALL BEGINS. Each datum BY PROGRAM (the guide's laid-datum.mjs) off the statement by which the dump's own 'gosem.cut.vars' lays the variable. In a bare row this is a premise. The card (YtcenohaadggdiacDoorCards.lean) ties it to the program's text. -/
def laid_packhorse_api_ErrBound {H : Type} : DataW H := .iface "*errors.errorString" (.ptr (.agg [.lit (.string [112, 97, 99, 107, 104, 111, 114, 115, 101, 58, 32, 98, 111, 117, 110, 100])]))
def laid_packhorse_api_ErrText {H : Type} : DataW H := .iface "*errors.errorString" (.ptr (.agg [.lit (.string [112, 97, 99, 107, 104, 111, 114, 115, 101, 58, 32, 116, 101, 120, 116])]))
def laid_packhorse_api_ErrShape {H : Type} : DataW H := .iface "*errors.errorString" (.ptr (.agg [.lit (.string [112, 97, 99, 107, 104, 111, 114, 115, 101, 58, 32, 115, 104, 97, 112, 101])]))
def laid_packhorse_api_ErrKind {H : Type} : DataW H := .iface "*errors.errorString" (.ptr (.agg [.lit (.string [112, 97, 99, 107, 104, 111, 114, 115, 101, 58, 32, 107, 105, 110, 100])]))
def laid_packhorse_api_ErrFull {H : Type} : DataW H := .iface "*errors.errorString" (.ptr (.agg [.lit (.string [112, 97, 99, 107, 104, 111, 114, 115, 101, 58, 32, 102, 117, 108, 108])]))
def laid_errors_errorType {H : Type} : DataW H := .iface "internal/reflectlite.rtype" (.agg [.ptr (.lit (.string [101, 114, 114, 111, 114]))])
def laid_packhorse_api_ErrName {H : Type} : DataW H := .iface "*errors.errorString" (.ptr (.agg [.lit (.string [112, 97, 99, 107, 104, 111, 114, 115, 101, 58, 32, 110, 97, 109, 101])]))
def laid_packhorse_api_ErrNone {H : Type} : DataW H := .iface "*errors.errorString" (.ptr (.agg [.lit (.string [112, 97, 99, 107, 104, 111, 114, 115, 101, 58, 32, 110, 111, 110, 101])]))
def laid_packhorse_api_ErrExist {H : Type} : DataW H := .iface "*errors.errorString" (.ptr (.agg [.lit (.string [112, 97, 99, 107, 104, 111, 114, 115, 101, 58, 32, 101, 120, 105, 115, 116])]))
def laid_packhorse_api_ErrOrder {H : Type} : DataW H := .iface "*errors.errorString" (.ptr (.agg [.lit (.string [112, 97, 99, 107, 104, 111, 114, 115, 101, 58, 32, 111, 114, 100, 101, 114])]))
def laid_packhorse_api_ErrSum {H : Type} : DataW H := .iface "*errors.errorString" (.ptr (.agg [.lit (.string [112, 97, 99, 107, 104, 111, 114, 115, 101, 58, 32, 115, 117, 109])]))
def laid_packhorse_api_ErrStale {H : Type} : DataW H := .iface "*errors.errorString" (.ptr (.agg [.lit (.string [112, 97, 99, 107, 104, 111, 114, 115, 101, 58, 32, 115, 116, 97, 108, 101])]))
def laid_packhorse_api_ErrOff {H : Type} : DataW H := .iface "*errors.errorString" (.ptr (.agg [.lit (.string [112, 97, 99, 107, 104, 111, 114, 115, 101, 58, 32, 111, 102, 102])]))

/-- 'packhorselaw1.SignSizes': WHATEVER THE INPUT: true; the input reads as it did. -/
def signSizesSpec : ChangeSpec := { name := "signSizes", fn := fun _ => fun
  | [d1, d2, d3] => { results := [.lit (.bool true)], args := [d1, d2, d3] }
  | _ => none }
def signSizesRow : OpenClaim := { program := "ytcenohaadggdiacdoor", sum := "7b0296bfe3e89249f89c3fc248c4fdf15d51f6e5787d94c602a3b905f6f2cef9", func := "packhorse/packhorselaw1.SignSizes", spec := "signSizes", named := ["packhorse/api.ErrBound"], apart := false, laid := [("packhorse/api.ErrBound", laid_packhorse_api_ErrBound)] }
def SignSizesSaid : Prop := signSizesRow.holds Tryd.pinned (OpenSpec.ofChange signSizesSpec)

/-- ITS FALSE NEIGHBOUR: 'it returns false'. Refute it at one input. -/
def signSizesWrong : ChangeSpec := { name := "signSizes", fn := fun _ => fun
  | [d1, d2, d3] => { results := [.lit (.bool false)], args := [d1, d2, d3] }
  | _ => none }
def SignSizesWrongFalsely : Prop := signSizesRow.holds Tryd.pinned (OpenSpec.ofChange signSizesWrong)

/-- 'packhorselaw1.DeltaBack': WHATEVER THE INPUT: true; the input reads as it did. -/
def deltaBackSpec : ChangeSpec := { name := "deltaBack", fn := fun _ => fun
  | [d1, d2, d3] => { results := [.lit (.bool true)], args := [d1, d2, d3] }
  | _ => none }
def deltaBackRow : OpenClaim := { program := "ytcenohaadggdiacdoor", sum := "7b0296bfe3e89249f89c3fc248c4fdf15d51f6e5787d94c602a3b905f6f2cef9", func := "packhorse/packhorselaw1.DeltaBack", spec := "deltaBack", unfollowed := true, recurses := true, named := ["packhorse/api.ErrBound", "packhorse/api.ErrFull", "packhorse/api.ErrKind", "packhorse/api.ErrShape", "packhorse/api.ErrText"], apart := false, laid := [("packhorse/api.ErrText", laid_packhorse_api_ErrText), ("packhorse/api.ErrBound", laid_packhorse_api_ErrBound), ("packhorse/api.ErrShape", laid_packhorse_api_ErrShape), ("packhorse/api.ErrKind", laid_packhorse_api_ErrKind), ("packhorse/api.ErrFull", laid_packhorse_api_ErrFull)] }
def DeltaBackSaid : Prop := deltaBackRow.holds Tryd.pinned (OpenSpec.ofChange deltaBackSpec)

/-- ITS FALSE NEIGHBOUR: 'it returns false'. Refute it at one input. -/
def deltaBackWrong : ChangeSpec := { name := "deltaBack", fn := fun _ => fun
  | [d1, d2, d3] => { results := [.lit (.bool false)], args := [d1, d2, d3] }
  | _ => none }
def DeltaBackWrongFalsely : Prop := deltaBackRow.holds Tryd.pinned (OpenSpec.ofChange deltaBackWrong)

/-- 'packhorselaw1.DeltaSame': WHATEVER THE INPUT: true; the input reads as it did. -/
def deltaSameSpec : ChangeSpec := { name := "deltaSame", fn := fun _ => fun
  | [d1, d2, d3] => { results := [.lit (.bool true)], args := [d1, d2, d3] }
  | _ => none }
def deltaSameRow : OpenClaim := { program := "ytcenohaadggdiacdoor", sum := "7b0296bfe3e89249f89c3fc248c4fdf15d51f6e5787d94c602a3b905f6f2cef9", func := "packhorse/packhorselaw1.DeltaSame", spec := "deltaSame", unfollowed := true, recurses := true, named := ["packhorse/api.ErrBound", "packhorse/api.ErrFull"], apart := false, laid := [("packhorse/api.ErrBound", laid_packhorse_api_ErrBound), ("packhorse/api.ErrFull", laid_packhorse_api_ErrFull)] }
def DeltaSameSaid : Prop := deltaSameRow.holds Tryd.pinned (OpenSpec.ofChange deltaSameSpec)

/-- ITS FALSE NEIGHBOUR: 'it returns false'. Refute it at one input. -/
def deltaSameWrong : ChangeSpec := { name := "deltaSame", fn := fun _ => fun
  | [d1, d2, d3] => { results := [.lit (.bool false)], args := [d1, d2, d3] }
  | _ => none }
def DeltaSameWrongFalsely : Prop := deltaSameRow.holds Tryd.pinned (OpenSpec.ofChange deltaSameWrong)

/-- 'packhorselaw1.PatchTells': WHATEVER THE INPUT: true; the input reads as it did. -/
def patchTellsSpec : ChangeSpec := { name := "patchTells", fn := fun _ => fun
  | [d1, d2, d3, d4, d5] => { results := [.lit (.bool true)], args := [d1, d2, d3, d4, d5] }
  | _ => none }
def patchTellsRow : OpenClaim := { program := "ytcenohaadggdiacdoor", sum := "7b0296bfe3e89249f89c3fc248c4fdf15d51f6e5787d94c602a3b905f6f2cef9", func := "packhorse/packhorselaw1.PatchTells", spec := "patchTells", inPlace := ["internal/abi.NoEscape", "internal/reflectlite.ValueOf", "(internal/reflectlite.Value).Type", "(internal/reflectlite.Value).IsNil", "internal/reflectlite.TypeOf", "(internal/reflectlite.Value).Elem", "(internal/reflectlite.Value).Set"], unfollowed := true, recurses := true, named := ["packhorse/api.ErrBound", "packhorse/api.ErrKind", "packhorse/api.ErrShape", "packhorse/api.ErrNone", "packhorse/api.ErrFull", "packhorse/api.ErrText", "packhorse/api.ErrName", "packhorse/api.ErrExist", "packhorse/api.ErrOrder", "packhorse/api.ErrSum", "packhorse/api.ErrStale", "packhorse/api.ErrOff", "errors.errorType"], apart := false, laid := [("errors.errorType", laid_errors_errorType), ("packhorse/api.ErrText", laid_packhorse_api_ErrText), ("packhorse/api.ErrBound", laid_packhorse_api_ErrBound), ("packhorse/api.ErrShape", laid_packhorse_api_ErrShape), ("packhorse/api.ErrKind", laid_packhorse_api_ErrKind), ("packhorse/api.ErrName", laid_packhorse_api_ErrName), ("packhorse/api.ErrNone", laid_packhorse_api_ErrNone), ("packhorse/api.ErrExist", laid_packhorse_api_ErrExist), ("packhorse/api.ErrFull", laid_packhorse_api_ErrFull), ("packhorse/api.ErrOrder", laid_packhorse_api_ErrOrder), ("packhorse/api.ErrSum", laid_packhorse_api_ErrSum), ("packhorse/api.ErrStale", laid_packhorse_api_ErrStale), ("packhorse/api.ErrOff", laid_packhorse_api_ErrOff)] }
def PatchTellsSaid : Prop := patchTellsRow.holds Tryd.pinned (OpenSpec.ofChange patchTellsSpec)

/-- ITS FALSE NEIGHBOUR: 'it returns false'. Refute it at one input. -/
def patchTellsWrong : ChangeSpec := { name := "patchTells", fn := fun _ => fun
  | [d1, d2, d3, d4, d5] => { results := [.lit (.bool false)], args := [d1, d2, d3, d4, d5] }
  | _ => none }
def PatchTellsWrongFalsely : Prop := patchTellsRow.holds Tryd.pinned (OpenSpec.ofChange patchTellsWrong)

/-- 'packhorselaw1.PatchWhole': WHATEVER THE INPUT: true; the input reads as it did. -/
def patchWholeSpec : ChangeSpec := { name := "patchWhole", fn := fun _ => fun
  | [d1, d2, d3] => { results := [.lit (.bool true)], args := [d1, d2, d3] }
  | _ => none }
def patchWholeRow : OpenClaim := { program := "ytcenohaadggdiacdoor", sum := "7b0296bfe3e89249f89c3fc248c4fdf15d51f6e5787d94c602a3b905f6f2cef9", func := "packhorse/packhorselaw1.PatchWhole", spec := "patchWhole", inPlace := ["internal/abi.NoEscape"], unfollowed := true, recurses := true, named := ["packhorse/api.ErrBound", "packhorse/api.ErrKind", "packhorse/api.ErrShape", "packhorse/api.ErrNone", "packhorse/api.ErrFull", "packhorse/api.ErrSum"], apart := false, laid := [("packhorse/api.ErrBound", laid_packhorse_api_ErrBound), ("packhorse/api.ErrShape", laid_packhorse_api_ErrShape), ("packhorse/api.ErrKind", laid_packhorse_api_ErrKind), ("packhorse/api.ErrNone", laid_packhorse_api_ErrNone), ("packhorse/api.ErrFull", laid_packhorse_api_ErrFull), ("packhorse/api.ErrSum", laid_packhorse_api_ErrSum)] }
def PatchWholeSaid : Prop := patchWholeRow.holds Tryd.pinned (OpenSpec.ofChange patchWholeSpec)

/-- ITS FALSE NEIGHBOUR: 'it returns false'. Refute it at one input. -/
def patchWholeWrong : ChangeSpec := { name := "patchWhole", fn := fun _ => fun
  | [d1, d2, d3] => { results := [.lit (.bool false)], args := [d1, d2, d3] }
  | _ => none }
def PatchWholeWrongFalsely : Prop := patchWholeRow.holds Tryd.pinned (OpenSpec.ofChange patchWholeWrong)

/- THE SECOND FORM. 'bulk': how many values and letters a reading holds, each counted each time it is reached (what is shared counts as often as it is met; a slice's spare places count too). A statement '..UptoSaid' is the law's where the arguments, and the package variables that the reading takes, are together of bulk at most 1048576: NARROWER than '..Said'. Prove '..Said' where nothing that the law and all that it calls make is longer than what came in: it says more and counts as full. Else prove '..UptoSaid'. A law counts once. -/
mutual
def uptoBulk {H : Type} : DataW H → Nat
  | .lit (.string bytes) => bytes.length + 1
  | .lit _ => 1
  | .nil => 1
  | .ptr d => uptoBulk d + 1
  | .slice elems spare => uptoBulkAll elems + uptoBulkAll spare + 1
  | .agg parts => uptoBulkAll parts + 1
  | .iface _ d => uptoBulk d + 1
  | .map entries => uptoBulkEntries entries + 1
  | .held _ => 1
def uptoBulkAll {H : Type} : List (DataW H) → Nat
  | [] => 0
  | d :: r => uptoBulk d + uptoBulkAll r
def uptoBulkEntries {H : Type} : List (Lit × DataW H) → Nat
  | [] => 0
  | x :: r => uptoBulkEntry x + uptoBulkEntries r
def uptoBulkEntry {H : Type} : Lit × DataW H → Nat
  | (.string bytes, d) => bytes.length + uptoBulk d + 1
  | (_, d) => uptoBulk d + 1
 end
def uptoSmall : (H : Type) → List (DataW H) → Bool := fun _ ds => decide (uptoBulkAll ds ≤ 1048576)
def OpenSpec.upto (s : _root_.Go.ChangeSpec) : _root_.Go.OpenSpec := { _root_.Go.OpenSpec.ofChange s with cond := some uptoSmall }

/-- 'packhorselaw1.SignSizes', WHERE WHAT IT READS IS OF BULK AT MOST 1048576: true; the input reads as it did. -/
def signSizesUptoRow : OpenClaim := { program := "ytcenohaadggdiacdoor", sum := "7b0296bfe3e89249f89c3fc248c4fdf15d51f6e5787d94c602a3b905f6f2cef9", func := "packhorse/packhorselaw1.SignSizes", spec := "signSizes", named := ["packhorse/api.ErrBound"], apart := false, laid := [("packhorse/api.ErrBound", laid_packhorse_api_ErrBound)], narrowed := true }
def SignSizesUptoSaid : Prop := signSizesUptoRow.holds Tryd.pinned (OpenSpec.upto signSizesSpec)

/-- 'packhorselaw1.DeltaBack', WHERE WHAT IT READS IS OF BULK AT MOST 1048576: true; the input reads as it did. -/
def deltaBackUptoRow : OpenClaim := { program := "ytcenohaadggdiacdoor", sum := "7b0296bfe3e89249f89c3fc248c4fdf15d51f6e5787d94c602a3b905f6f2cef9", func := "packhorse/packhorselaw1.DeltaBack", spec := "deltaBack", unfollowed := true, recurses := true, named := ["packhorse/api.ErrBound", "packhorse/api.ErrFull", "packhorse/api.ErrKind", "packhorse/api.ErrShape", "packhorse/api.ErrText"], apart := false, laid := [("packhorse/api.ErrText", laid_packhorse_api_ErrText), ("packhorse/api.ErrBound", laid_packhorse_api_ErrBound), ("packhorse/api.ErrShape", laid_packhorse_api_ErrShape), ("packhorse/api.ErrKind", laid_packhorse_api_ErrKind), ("packhorse/api.ErrFull", laid_packhorse_api_ErrFull)], narrowed := true }
def DeltaBackUptoSaid : Prop := deltaBackUptoRow.holds Tryd.pinned (OpenSpec.upto deltaBackSpec)

/-- 'packhorselaw1.DeltaSame', WHERE WHAT IT READS IS OF BULK AT MOST 1048576: true; the input reads as it did. -/
def deltaSameUptoRow : OpenClaim := { program := "ytcenohaadggdiacdoor", sum := "7b0296bfe3e89249f89c3fc248c4fdf15d51f6e5787d94c602a3b905f6f2cef9", func := "packhorse/packhorselaw1.DeltaSame", spec := "deltaSame", unfollowed := true, recurses := true, named := ["packhorse/api.ErrBound", "packhorse/api.ErrFull"], apart := false, laid := [("packhorse/api.ErrBound", laid_packhorse_api_ErrBound), ("packhorse/api.ErrFull", laid_packhorse_api_ErrFull)], narrowed := true }
def DeltaSameUptoSaid : Prop := deltaSameUptoRow.holds Tryd.pinned (OpenSpec.upto deltaSameSpec)

/-- 'packhorselaw1.PatchTells', WHERE WHAT IT READS IS OF BULK AT MOST 1048576: true; the input reads as it did. -/
def patchTellsUptoRow : OpenClaim := { program := "ytcenohaadggdiacdoor", sum := "7b0296bfe3e89249f89c3fc248c4fdf15d51f6e5787d94c602a3b905f6f2cef9", func := "packhorse/packhorselaw1.PatchTells", spec := "patchTells", inPlace := ["internal/abi.NoEscape", "internal/reflectlite.ValueOf", "(internal/reflectlite.Value).Type", "(internal/reflectlite.Value).IsNil", "internal/reflectlite.TypeOf", "(internal/reflectlite.Value).Elem", "(internal/reflectlite.Value).Set"], unfollowed := true, recurses := true, named := ["packhorse/api.ErrBound", "packhorse/api.ErrKind", "packhorse/api.ErrShape", "packhorse/api.ErrNone", "packhorse/api.ErrFull", "packhorse/api.ErrText", "packhorse/api.ErrName", "packhorse/api.ErrExist", "packhorse/api.ErrOrder", "packhorse/api.ErrSum", "packhorse/api.ErrStale", "packhorse/api.ErrOff", "errors.errorType"], apart := false, laid := [("errors.errorType", laid_errors_errorType), ("packhorse/api.ErrText", laid_packhorse_api_ErrText), ("packhorse/api.ErrBound", laid_packhorse_api_ErrBound), ("packhorse/api.ErrShape", laid_packhorse_api_ErrShape), ("packhorse/api.ErrKind", laid_packhorse_api_ErrKind), ("packhorse/api.ErrName", laid_packhorse_api_ErrName), ("packhorse/api.ErrNone", laid_packhorse_api_ErrNone), ("packhorse/api.ErrExist", laid_packhorse_api_ErrExist), ("packhorse/api.ErrFull", laid_packhorse_api_ErrFull), ("packhorse/api.ErrOrder", laid_packhorse_api_ErrOrder), ("packhorse/api.ErrSum", laid_packhorse_api_ErrSum), ("packhorse/api.ErrStale", laid_packhorse_api_ErrStale), ("packhorse/api.ErrOff", laid_packhorse_api_ErrOff)], narrowed := true }
def PatchTellsUptoSaid : Prop := patchTellsUptoRow.holds Tryd.pinned (OpenSpec.upto patchTellsSpec)

/-- 'packhorselaw1.PatchWhole', WHERE WHAT IT READS IS OF BULK AT MOST 1048576: true; the input reads as it did. -/
def patchWholeUptoRow : OpenClaim := { program := "ytcenohaadggdiacdoor", sum := "7b0296bfe3e89249f89c3fc248c4fdf15d51f6e5787d94c602a3b905f6f2cef9", func := "packhorse/packhorselaw1.PatchWhole", spec := "patchWhole", inPlace := ["internal/abi.NoEscape"], unfollowed := true, recurses := true, named := ["packhorse/api.ErrBound", "packhorse/api.ErrKind", "packhorse/api.ErrShape", "packhorse/api.ErrNone", "packhorse/api.ErrFull", "packhorse/api.ErrSum"], apart := false, laid := [("packhorse/api.ErrBound", laid_packhorse_api_ErrBound), ("packhorse/api.ErrShape", laid_packhorse_api_ErrShape), ("packhorse/api.ErrKind", laid_packhorse_api_ErrKind), ("packhorse/api.ErrNone", laid_packhorse_api_ErrNone), ("packhorse/api.ErrFull", laid_packhorse_api_ErrFull), ("packhorse/api.ErrSum", laid_packhorse_api_ErrSum)], narrowed := true }
def PatchWholeUptoSaid : Prop := patchWholeUptoRow.holds Tryd.pinned (OpenSpec.upto patchWholeSpec)

end Rows
end Go.Proofs.YtcenohaadggdiacDoor
