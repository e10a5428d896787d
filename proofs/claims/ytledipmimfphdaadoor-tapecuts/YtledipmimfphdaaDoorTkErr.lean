/-
  The three errors that package tape meets, as it reads them.
-/
import Derived.Test.YtledipmimfphdaaDoorErrA
namespace Go.Proofs.YtledipmimfphdaaDoor
open Go.RowKit

/-- ErrBound, ErrFull, ErrOff. -/
structure TkErrs (w : World) (a : Nat → Addr) : Prop where
  c1 : w.cell? ⟨0, 0, none⟩ = some (.iface 134 (.pointer (some (a 1))))
  c7 : w.cell? ⟨3, 0, none⟩ = some (.iface 134 (.pointer (some (a 7))))
  c11 : w.cell? ⟨1, 0, none⟩ = some (.iface 134 (.pointer (some (a 11))))
theorem TkErrs.below {w w' : World} {a : Nat → Addr} (h : TkErrs w a) (hb : Below w.heap.size w w') : TkErrs w' a :=
  ⟨(hb.cell (World.block_lt_of_cell? _ _ h.c1)).trans h.c1, (hb.cell (World.block_lt_of_cell? _ _ h.c7)).trans h.c7, (hb.cell (World.block_lt_of_cell? _ _ h.c11)).trans h.c11⟩
end Go.Proofs.YtledipmimfphdaaDoor
