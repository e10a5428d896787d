/-
  A slice that reads as blocks.
-/
import Derived.Test.YtgogjncamjbajacDoorSignOf
namespace Go.Proofs.YtgogjncamjbajacDoor
open Go.RowKit
open Go.Sign (Blk)

/-- A slice that reads as these blocks. -/
def RowIn (w : World) (v : Value) (l : List Blk) : Prop :=
  ∃ a c, v = .slice a l.length c ∧ (0 < l.length → ∃ b o, a = some ⟨b, o, none⟩ ∧ ∀ j (h : j < l.length), w.cell? ⟨b, o + j * 3, none⟩ = some (.int .i64 l[j].n) ∧ w.cell? ⟨b, o + j * 3 + 1, none⟩ = some (.int .i64 l[j].weak) ∧ w.cell? ⟨b, o + j * 3 + 2, none⟩ = some (.int .u32 l[j].strong))
theorem RowIn.below {w w' : World} {v : Value} {l : List Blk} (h : RowIn w v l) (hb : Below w.heap.size w w') : RowIn w' v l := by
  obtain ⟨a, c, rfl, h⟩ := h
  refine ⟨a, c, rfl, fun hp => ?_⟩
  obtain ⟨b, o, rfl, h'⟩ := h hp
  refine ⟨b, o, rfl, fun j hj => ?_⟩
  obtain ⟨h0, h1, h2⟩ := h' j hj
  exact ⟨(hb.cell (World.block_lt_of_cell? _ _ h0)).trans h0, (hb.cell (World.block_lt_of_cell? _ _ h1)).trans h1, (hb.cell (World.block_lt_of_cell? _ _ h2)).trans h2⟩
/-- A row that is owned reads as its blocks. -/
theorem RowIn.of_own {w : World} {base : Nat} {v : Value} {n : Nat} {l : List Blk} (h : w.ownsRow base 43 3 v n (bcs l)) : RowIn w v l := by
  have hl : l.length = n := by have := h.1; rw [bcs_length] at this; omega
  subst hl
  rcases h.2 with ⟨rfl, h0⟩ | ⟨g, c, cur, rfl, _⟩
  · exact ⟨none, 0, by rw [h0], fun hp => by omega⟩
  · refine ⟨_, c, rfl, fun _ => ⟨g, 0, rfl, fun j hj => ?_⟩⟩
    obtain ⟨h0, h1, h2⟩ := bcs_get l j hj
    have k0 := h.cells (g := g) rfl _ _ h0
    have k1 := h.cells (g := g) rfl _ _ h1
    have k2 := h.cells (g := g) rfl _ _ h2
    rw [Go.WideShapes.add_plain] at k0 k1 k2
    exact ⟨by simpa using k0, by simpa [Nat.add_assoc] using k1, by simpa [Nat.add_assoc] using k2⟩
end Go.Proofs.YtgogjncamjbajacDoor
