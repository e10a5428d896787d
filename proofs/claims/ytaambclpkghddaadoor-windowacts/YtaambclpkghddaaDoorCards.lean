/-
  DERIVED. GIVEN WITH THE SEED: THE CARDS: each row of YtaambclpkghddaaDoorRows.lean that lists a variable, with what it lists TIED to the program's text (the seventh form; the later family's looks); each row that meets fmt, with fmt's text TOLD by the authors' own Lean function (tested against real Go, not proved from fmt's source: count such statements apart). THE CARD IS WHAT COUNTS. Prove the row's statement (the work); the ties are given (YtaambclpkghddaaDoorTie.lean); close each card by the builder's one call (the guide's Derived/Test/ToyasCard.lean, 'card_holds'). Laid BY PROGRAM, IN A SANDBOX (cutbox-door.mjs). By AI agents, Wed Nov 11 2026. No macro, syntax, notation, axiom, sorry.
-/
import Derived.Test.YtaambclpkghddaaDoorRows
import GoSem.ClaimSeven
namespace Go.Proofs.YtaambclpkghddaaDoor
namespace Rows

/-- THE TIED CARD OF 'packhorselaw2.WindowOnce'. -/
def windowOnceCard : Claim7 := { stood := { row := windowOnceRow, standIns := [], harness := (true, "e2951bf242ad1f115cabfa14023e24edc9b1f7bb8872544673bb51038cd7b9e3"), looks := true }, kinds := [], alts := [], laidByText := true, laidKinds := [.sentinel, .sentinel], laidTests := true, laidLooks := .later }
def WindowOnceCardSaid : Prop := Claim7.holds Tryd.pinned (.plain (OpenSpec.ofChange windowOnceSpec)) windowOnceCard

/-- THE TIED CARD OF 'packhorselaw2.WindowActs'. -/
def windowActsCard : Claim7 := { stood := { row := windowActsRow, standIns := [], harness := (true, "e2951bf242ad1f115cabfa14023e24edc9b1f7bb8872544673bb51038cd7b9e3"), looks := true }, kinds := [], alts := [], laidByText := true, laidKinds := [.handle, .sentinel, .sentinel, .sentinel, .sentinel, .sentinel, .sentinel, .sentinel, .sentinel, .sentinel, .sentinel, .sentinel, .sentinel], laidTests := true, laidLooks := .later }
def WindowActsCardSaid : Prop := Claim7.holds Tryd.pinned (.plain (OpenSpec.ofChange windowActsSpec)) windowActsCard

/-- THE TIED CARD OF 'packhorselaw2.WindowRounds'. -/
def windowRoundsCard : Claim7 := { stood := { row := windowRoundsRow, standIns := [], harness := (true, "e2951bf242ad1f115cabfa14023e24edc9b1f7bb8872544673bb51038cd7b9e3"), looks := true }, kinds := [], alts := [], laidByText := true, laidKinds := [.sentinel, .sentinel], laidTests := true, laidLooks := .later }
def WindowRoundsCardSaid : Prop := Claim7.holds Tryd.pinned (.plain (OpenSpec.ofChange windowRoundsSpec)) windowRoundsCard

/-- THE SECOND FORM's CARD OF 'packhorselaw2.WindowOnce'. -/
def windowOnceUptoCard : Claim7 := { stood := { row := windowOnceUptoRow, standIns := [], harness := (true, "e2951bf242ad1f115cabfa14023e24edc9b1f7bb8872544673bb51038cd7b9e3"), looks := true }, kinds := [], alts := [], laidByText := true, laidKinds := [.sentinel, .sentinel], laidTests := true, laidLooks := .later }
def WindowOnceUptoCardSaid : Prop := Claim7.holds Tryd.pinned (.plain (OpenSpec.upto windowOnceSpec)) windowOnceUptoCard

/-- THE SECOND FORM's CARD OF 'packhorselaw2.WindowActs'. -/
def windowActsUptoCard : Claim7 := { stood := { row := windowActsUptoRow, standIns := [], harness := (true, "e2951bf242ad1f115cabfa14023e24edc9b1f7bb8872544673bb51038cd7b9e3"), looks := true }, kinds := [], alts := [], laidByText := true, laidKinds := [.handle, .sentinel, .sentinel, .sentinel, .sentinel, .sentinel, .sentinel, .sentinel, .sentinel, .sentinel, .sentinel, .sentinel, .sentinel], laidTests := true, laidLooks := .later }
def WindowActsUptoCardSaid : Prop := Claim7.holds Tryd.pinned (.plain (OpenSpec.upto windowActsSpec)) windowActsUptoCard

/-- THE SECOND FORM's CARD OF 'packhorselaw2.WindowRounds'. -/
def windowRoundsUptoCard : Claim7 := { stood := { row := windowRoundsUptoRow, standIns := [], harness := (true, "e2951bf242ad1f115cabfa14023e24edc9b1f7bb8872544673bb51038cd7b9e3"), looks := true }, kinds := [], alts := [], laidByText := true, laidKinds := [.sentinel, .sentinel], laidTests := true, laidLooks := .later }
def WindowRoundsUptoCardSaid : Prop := Claim7.holds Tryd.pinned (.plain (OpenSpec.upto windowRoundsSpec)) windowRoundsUptoCard
end Rows
end Go.Proofs.YtaambclpkghddaaDoor
