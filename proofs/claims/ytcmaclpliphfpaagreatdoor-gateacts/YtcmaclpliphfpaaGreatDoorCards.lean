/-
  DERIVED. GIVEN WITH THE SEED: THE CARDS: each row of YtcmaclpliphfpaaGreatDoorRows.lean that lists a variable, with what it lists TIED to the program's text (the seventh form; the later family's looks); each row that meets fmt, with fmt's text TOLD by the authors' own Lean function (tested against real Go, not proved from fmt's source: count such statements apart). THE CARD IS WHAT COUNTS. Prove the row's statement (the work); the ties are given (YtcmaclpliphfpaaGreatDoorTie.lean); close each card by the builder's one call (the guide's Derived/Test/ToyasCard.lean, 'card_holds'). Laid BY PROGRAM, IN A SANDBOX (cutbox-door.mjs). By AI agents, Wed Nov 11 2026. No macro, syntax, notation, axiom, sorry.
-/
import Derived.Test.YtcmaclpliphfpaaGreatDoorRows
import GoSem.ClaimSeven
namespace Go.Proofs.YtcmaclpliphfpaaGreatDoor
namespace Rows

/-- THE TIED CARD OF 'packhorselaw3.GateStale'. -/
def gateStaleCard : Claim7 := { stood := { row := gateStaleRow, standIns := [], harness := (true, "a21a11cba6d71327e8cfe62fbffc14021a358a2ee42dbc19a8b07cfb95561b1b"), looks := true }, kinds := [], alts := [], laidByText := true, laidKinds := [.data, .data, .data, .handle, .sentinel, .sentinel, .sentinel, .sentinel, .sentinel, .sentinel, .sentinel, .sentinel, .sentinel, .sentinel, .sentinel, .sentinel, .sentinel, .sentinel], laidTests := true, laidLooks := .later }
def GateStaleCardSaid : Prop := Claim7.holds Tryz.pinned (.plain (OpenSpec.ofChange gateStaleSpec)) gateStaleCard

/-- THE TIED CARD OF 'packhorselaw3.GateActs'. -/
def gateActsCard : Claim7 := { stood := { row := gateActsRow, standIns := [], harness := (true, "a21a11cba6d71327e8cfe62fbffc14021a358a2ee42dbc19a8b07cfb95561b1b"), looks := true }, kinds := [], alts := [], laidByText := true, laidKinds := [.data, .data, .data, .handle, .sentinel, .sentinel, .sentinel, .sentinel, .sentinel, .sentinel, .sentinel, .sentinel, .sentinel, .sentinel, .sentinel, .sentinel, .sentinel, .sentinel], laidTests := true, laidLooks := .later }
def GateActsCardSaid : Prop := Claim7.holds Tryz.pinned (.plain (OpenSpec.ofChange gateActsSpec)) gateActsCard

/-- THE SECOND FORM's CARD OF 'packhorselaw3.GateStale'. -/
def gateStaleUptoCard : Claim7 := { stood := { row := gateStaleUptoRow, standIns := [], harness := (true, "a21a11cba6d71327e8cfe62fbffc14021a358a2ee42dbc19a8b07cfb95561b1b"), looks := true }, kinds := [], alts := [], laidByText := true, laidKinds := [.data, .data, .data, .handle, .sentinel, .sentinel, .sentinel, .sentinel, .sentinel, .sentinel, .sentinel, .sentinel, .sentinel, .sentinel, .sentinel, .sentinel, .sentinel, .sentinel], laidTests := true, laidLooks := .later }
def GateStaleUptoCardSaid : Prop := Claim7.holds Tryz.pinned (.plain (OpenSpec.upto gateStaleSpec)) gateStaleUptoCard

/-- THE SECOND FORM's CARD OF 'packhorselaw3.GateActs'. -/
def gateActsUptoCard : Claim7 := { stood := { row := gateActsUptoRow, standIns := [], harness := (true, "a21a11cba6d71327e8cfe62fbffc14021a358a2ee42dbc19a8b07cfb95561b1b"), looks := true }, kinds := [], alts := [], laidByText := true, laidKinds := [.data, .data, .data, .handle, .sentinel, .sentinel, .sentinel, .sentinel, .sentinel, .sentinel, .sentinel, .sentinel, .sentinel, .sentinel, .sentinel, .sentinel, .sentinel, .sentinel], laidTests := true, laidLooks := .later }
def GateActsUptoCardSaid : Prop := Claim7.holds Tryz.pinned (.plain (OpenSpec.upto gateActsSpec)) gateActsUptoCard
end Rows
end Go.Proofs.YtcmaclpliphfpaaGreatDoor
