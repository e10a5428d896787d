/-
  DERIVED. GIVEN WITH THE SEED: THE CARDS: each row of YtogpjblikphpcaaGreatDoorRows.lean that lists a variable, with what it lists TIED to the program's text (the seventh form; the later family's looks); each row that meets fmt, with fmt's text TOLD by the authors' own Lean function (tested against real Go, not proved from fmt's source: count such statements apart). THE CARD IS WHAT COUNTS. Prove the row's statement (the work); the ties are given (YtogpjblikphpcaaGreatDoorTie.lean); close each card by the builder's one call (the guide's Derived/Test/ToyasCard.lean, 'card_holds'). Laid BY PROGRAM, IN A SANDBOX (cutbox-door.mjs). By AI agents, Wed Nov 11 2026. No macro, syntax, notation, axiom, sorry.
-/
import Derived.Test.YtogpjblikphpcaaGreatDoorRows
import GoSem.ClaimSeven
namespace Go.Proofs.YtogpjblikphpcaaGreatDoor
namespace Rows

/-- THE TIED CARD OF 'packhorselaw3.GateStale'. -/
def gateStaleCard : Claim7 := { stood := { row := gateStaleRow, standIns := [], harness := (true, "32ed59550c84feaf977dc64a377a899890c0dfae3ffd48f23382d2dc67830c1d"), looks := true }, kinds := [], alts := [], laidByText := true, laidKinds := [.data, .data, .data, .handle, .sentinel, .sentinel, .sentinel, .sentinel, .sentinel, .sentinel, .sentinel, .sentinel, .sentinel, .sentinel, .sentinel, .sentinel, .sentinel, .sentinel], laidTests := true, laidLooks := .later }
def GateStaleCardSaid : Prop := Claim7.holds Tryz.pinned (.plain (OpenSpec.ofChange gateStaleSpec)) gateStaleCard

/-- THE TIED CARD OF 'packhorselaw3.GateActs'. -/
def gateActsCard : Claim7 := { stood := { row := gateActsRow, standIns := [], harness := (true, "32ed59550c84feaf977dc64a377a899890c0dfae3ffd48f23382d2dc67830c1d"), looks := true }, kinds := [], alts := [], laidByText := true, laidKinds := [.data, .data, .data, .handle, .sentinel, .sentinel, .sentinel, .sentinel, .sentinel, .sentinel, .sentinel, .sentinel, .sentinel, .sentinel, .sentinel, .sentinel, .sentinel, .sentinel], laidTests := true, laidLooks := .later }
def GateActsCardSaid : Prop := Claim7.holds Tryz.pinned (.plain (OpenSpec.ofChange gateActsSpec)) gateActsCard

/-- THE TIED CARD OF 'packhorselaw3.BasisTells'. -/
def basisTellsCard : Claim7 := { stood := { row := basisTellsRow, standIns := [], harness := (true, "32ed59550c84feaf977dc64a377a899890c0dfae3ffd48f23382d2dc67830c1d"), looks := true }, kinds := [], alts := [], laidByText := true, laidKinds := [.data, .data, .data, .data, .handle, .sentinel, .sentinel, .sentinel, .sentinel, .sentinel, .sentinel, .sentinel, .sentinel, .sentinel, .sentinel, .sentinel, .sentinel, .sentinel, .sentinel, .pinned], laidTests := true, laidLooks := .later }
def BasisTellsCardSaid : Prop := Claim7.holds Tryz.pinned (.plain (OpenSpec.ofChange basisTellsSpec)) basisTellsCard

/-- THE SECOND FORM's CARD OF 'packhorselaw3.GateStale'. -/
def gateStaleUptoCard : Claim7 := { stood := { row := gateStaleUptoRow, standIns := [], harness := (true, "32ed59550c84feaf977dc64a377a899890c0dfae3ffd48f23382d2dc67830c1d"), looks := true }, kinds := [], alts := [], laidByText := true, laidKinds := [.data, .data, .data, .handle, .sentinel, .sentinel, .sentinel, .sentinel, .sentinel, .sentinel, .sentinel, .sentinel, .sentinel, .sentinel, .sentinel, .sentinel, .sentinel, .sentinel], laidTests := true, laidLooks := .later }
def GateStaleUptoCardSaid : Prop := Claim7.holds Tryz.pinned (.plain (OpenSpec.upto gateStaleSpec)) gateStaleUptoCard

/-- THE SECOND FORM's CARD OF 'packhorselaw3.GateActs'. -/
def gateActsUptoCard : Claim7 := { stood := { row := gateActsUptoRow, standIns := [], harness := (true, "32ed59550c84feaf977dc64a377a899890c0dfae3ffd48f23382d2dc67830c1d"), looks := true }, kinds := [], alts := [], laidByText := true, laidKinds := [.data, .data, .data, .handle, .sentinel, .sentinel, .sentinel, .sentinel, .sentinel, .sentinel, .sentinel, .sentinel, .sentinel, .sentinel, .sentinel, .sentinel, .sentinel, .sentinel], laidTests := true, laidLooks := .later }
def GateActsUptoCardSaid : Prop := Claim7.holds Tryz.pinned (.plain (OpenSpec.upto gateActsSpec)) gateActsUptoCard

/-- THE SECOND FORM's CARD OF 'packhorselaw3.BasisTells'. -/
def basisTellsUptoCard : Claim7 := { stood := { row := basisTellsUptoRow, standIns := [], harness := (true, "32ed59550c84feaf977dc64a377a899890c0dfae3ffd48f23382d2dc67830c1d"), looks := true }, kinds := [], alts := [], laidByText := true, laidKinds := [.data, .data, .data, .data, .handle, .sentinel, .sentinel, .sentinel, .sentinel, .sentinel, .sentinel, .sentinel, .sentinel, .sentinel, .sentinel, .sentinel, .sentinel, .sentinel, .sentinel, .pinned], laidTests := true, laidLooks := .later }
def BasisTellsUptoCardSaid : Prop := Claim7.holds Tryz.pinned (.plain (OpenSpec.upto basisTellsSpec)) basisTellsUptoCard
end Rows
end Go.Proofs.YtogpjblikphpcaaGreatDoor
