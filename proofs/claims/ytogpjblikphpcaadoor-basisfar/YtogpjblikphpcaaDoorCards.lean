/-
  DERIVED. GIVEN WITH THE SEED: THE CARDS: each row of YtogpjblikphpcaaDoorRows.lean that lists a variable, with what it lists TIED to the program's text (the seventh form; the later family's looks); each row that meets fmt, with fmt's text TOLD by the authors' own Lean function (tested against real Go, not proved from fmt's source: count such statements apart). THE CARD IS WHAT COUNTS. Prove the row's statement (the work); the ties are given (YtogpjblikphpcaaDoorTie.lean); close each card by the builder's one call (the guide's Derived/Test/ToyasCard.lean, 'card_holds'). Laid BY PROGRAM, IN A SANDBOX (cutbox-door.mjs). By AI agents, Wed Nov 11 2026. No macro, syntax, notation, axiom, sorry.
-/
import Derived.Test.YtogpjblikphpcaaDoorRows
import GoSem.ClaimSeven
namespace Go.Proofs.YtogpjblikphpcaaDoor
namespace Rows

/-- THE TIED CARD OF 'packhorselaw3.BasisFar'. -/
def basisFarCard : Claim7 := { stood := { row := basisFarRow, standIns := [], harness := (true, "336419afcf08e5e1442e6d07f558d17a50be42ae8af5469e155d86532abd9467"), looks := true }, kinds := [], alts := [], laidByText := true, laidKinds := [.data, .data, .data, .data, .sentinel, .sentinel, .sentinel, .sentinel, .sentinel, .pinned], laidTests := true, laidLooks := .later }
def BasisFarCardSaid : Prop := Claim7.holds Tryd.pinned (.plain (OpenSpec.ofChange basisFarSpec)) basisFarCard

/-- THE SECOND FORM's CARD OF 'packhorselaw3.BasisFar'. -/
def basisFarUptoCard : Claim7 := { stood := { row := basisFarUptoRow, standIns := [], harness := (true, "336419afcf08e5e1442e6d07f558d17a50be42ae8af5469e155d86532abd9467"), looks := true }, kinds := [], alts := [], laidByText := true, laidKinds := [.data, .data, .data, .data, .sentinel, .sentinel, .sentinel, .sentinel, .sentinel, .pinned], laidTests := true, laidLooks := .later }
def BasisFarUptoCardSaid : Prop := Claim7.holds Tryd.pinned (.plain (OpenSpec.upto basisFarSpec)) basisFarUptoCard
end Rows
end Go.Proofs.YtogpjblikphpcaaDoor
