/-
  The five errors that package files meets, that of a text among them.
-/
import Derived.Test.YtbflmkjlpopeaadGreatDoorJoin15
namespace Go.Proofs.YtbflmkjlpopeaadGreatDoor
open Go.RowKit

structure FVT where
  f : FV
  tT : TypeId
  xT : Value
structure FErT (e : FVT) (w : World) : Prop where
  er : FEr e.f w
  text : w.cell? ⟨0, 0, none⟩ = some (.iface e.tT e.xT)
theorem FErT.below {e : FVT} {w w' : World} (h : FErT e w) (hb : Below w.heap.size w w') : FErT e w' :=
  ⟨h.er.below hb, (hb.cell (World.block_lt_of_cell? _ _ h.text)).trans h.text⟩
end Go.Proofs.YtbflmkjlpopeaadGreatDoor
