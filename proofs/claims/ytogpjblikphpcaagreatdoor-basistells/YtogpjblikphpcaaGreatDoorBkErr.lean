/-
  The three errors that package basis meets, as it reads them.
-/
import Derived.Test.YtogpjblikphpcaaGreatDoorErrV
namespace Go.Proofs.YtogpjblikphpcaaGreatDoor
open Go.RowKit

/-- ErrText, ErrBound, ErrName. -/
structure BkErrs (w : World) (a : Nat → Addr) : Prop where
  c0 : w.cell? ⟨5, 0, none⟩ = some (.iface 231 (.pointer (some (a 0))))
  c1 : w.cell? ⟨4, 0, none⟩ = some (.iface 231 (.pointer (some (a 1))))
  c4 : w.cell? ⟨3, 0, none⟩ = some (.iface 231 (.pointer (some (a 4))))
theorem BkErrs.below {w w' : World} {a : Nat → Addr} (h : BkErrs w a) (hb : Below w.heap.size w w') : BkErrs w' a :=
  ⟨(hb.cell (World.block_lt_of_cell? _ _ h.c0)).trans h.c0, (hb.cell (World.block_lt_of_cell? _ _ h.c1)).trans h.c1, (hb.cell (World.block_lt_of_cell? _ _ h.c4)).trans h.c4⟩
end Go.Proofs.YtogpjblikphpcaaGreatDoor
