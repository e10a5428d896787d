/-
  The two errors that package num's reader meets, in a world.
-/
import Derived.Test.YtlmampcdflbifaeDoorJoin07
namespace Go.Proofs.YtlmampcdflbifaeDoor
open Go.RowKit

structure Er1 (e : EV) (w : World) : Prop where
  text : w.cell? ⟨2, 0, none⟩ = some (.iface e.tT e.xT)
  bound : w.cell? ⟨1, 0, none⟩ = some (.iface e.tB e.xB)
theorem Er1.below {e : EV} {w w' : World} (h : Er1 e w) (hb : Below w.heap.size w w') : Er1 e w' :=
  ⟨(hb.cell (World.block_lt_of_cell? _ _ h.text)).trans h.text, (hb.cell (World.block_lt_of_cell? _ _ h.bound)).trans h.bound⟩
/-- What only changes block p keeps the errors' variables. -/
theorem Er1.grown {e : EV} {p : Nat} {w0 w w' : World} (h0 : Er1 e w0) (hp : w0.heap.size ≤ p) (h : Er1 e w) (hg : w.grownBy w' (some p)) : Er1 e w' := by
  have aux : ∀ (g : Nat) (v : Value), w0.cell? ⟨g, 0, none⟩ = some v → some (⟨g, 0, none⟩ : Addr).block ≠ some p := by
    intro g v hv q
    have hlt : g < w0.heap.size := World.block_lt_of_cell? _ _ hv
    have q' : g = p := Option.some.inj q
    omega
  exact ⟨hg.cell h.text (aux _ _ h0.text), hg.cell h.bound (aux _ _ h0.bound)⟩
end Go.Proofs.YtlmampcdflbifaeDoor
