/-
  The three errors that package basis meets, as it reads them.
-/
import Derived.Test.YtogpjblikphpcaaDoorErrV
namespace Go.Proofs.YtogpjblikphpcaaDoor
open Go.RowKit

/-- ErrText, ErrBound, ErrName. -/
structure BkErrs (w : World) (a : Nat → Addr) : Prop where
  c0 : w.cell? ⟨1, 0, none⟩ = some (.iface 129 (.pointer (some (a 0))))
  c1 : w.cell? ⟨0, 0, none⟩ = some (.iface 129 (.pointer (some (a 1))))
  c4 : w.cell? ⟨2, 0, none⟩ = some (.iface 129 (.pointer (some (a 4))))
theorem BkErrs.below {w w' : World} {a : Nat → Addr} (h : BkErrs w a) (hb : Below w.heap.size w w') : BkErrs w' a :=
  ⟨(hb.cell (World.block_lt_of_cell? _ _ h.c0)).trans h.c0, (hb.cell (World.block_lt_of_cell? _ _ h.c1)).trans h.c1, (hb.cell (World.block_lt_of_cell? _ _ h.c4)).trans h.c4⟩
end Go.Proofs.YtogpjblikphpcaaDoor
