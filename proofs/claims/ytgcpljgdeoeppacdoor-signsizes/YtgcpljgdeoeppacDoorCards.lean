/-
  DERIVED. GIVEN WITH THE SEED: THE CARDS: each row of YtgcpljgdeoeppacDoorRows.lean that lists a variable, with what it lists TIED to the program's text (the seventh form; the later family's looks); each row that meets fmt, with fmt's text TOLD by the authors' own Lean function (tested against real Go, not proved from fmt's source: count such statements apart). THE CARD IS WHAT COUNTS. Prove the row's statement (the work); the ties are given (YtgcpljgdeoeppacDoorTie.lean); close each card by the builder's one call (the guide's Derived/Test/ToyasCard.lean, 'card_holds'). Laid BY PROGRAM, IN A SANDBOX (cutbox-door.mjs). By AI agents, Wed Nov 11 2026. No macro, syntax, notation, axiom, sorry.
-/
import Derived.Test.YtgcpljgdeoeppacDoorRows
import GoSem.ClaimSeven
namespace Go.Proofs.YtgcpljgdeoeppacDoor
namespace Rows

/-- THE TIED CARD OF 'packhorselaw1.SignSizes'. -/
def signSizesCard : Claim7 := { stood := { row := signSizesRow, standIns := [], harness := (true, "d0c118bf4668a6d4b72008bbe22d2176859ed4684e54ff7adf6e3167619c585b"), looks := false }, kinds := [], alts := [], laidByText := true, laidKinds := [.sentinel], laidTests := true, laidLooks := .later }
def SignSizesCardSaid : Prop := Claim7.holds Tryd.pinned (.plain (OpenSpec.ofChange signSizesSpec)) signSizesCard

/-- THE SECOND FORM's CARD OF 'packhorselaw1.SignSizes'. -/
def signSizesUptoCard : Claim7 := { stood := { row := signSizesUptoRow, standIns := [], harness := (true, "d0c118bf4668a6d4b72008bbe22d2176859ed4684e54ff7adf6e3167619c585b"), looks := false }, kinds := [], alts := [], laidByText := true, laidKinds := [.sentinel], laidTests := true, laidLooks := .later }
def SignSizesUptoCardSaid : Prop := Claim7.holds Tryd.pinned (.plain (OpenSpec.upto signSizesSpec)) signSizesUptoCard
end Rows
end Go.Proofs.YtgcpljgdeoeppacDoor
