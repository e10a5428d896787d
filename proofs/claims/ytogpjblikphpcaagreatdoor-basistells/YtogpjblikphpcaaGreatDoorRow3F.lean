/-
  A slice of three cells an element that reads as a list, as an object that lies apart. No function of the program.
-/
import Derived.Test.YtogpjblikphpcaaGreatDoorSep
import Derived.Test.YtogpjblikphpcaaGreatDoorRows23
namespace Go.Proofs.YtogpjblikphpcaaGreatDoor
open Go.RowKit

section
variable {α : Type} {f g h : α → Value}
def Row3F (f g h : α → Value) (v : Value) (l : List α) : Fam := fun M w => Row3 f g h w v l ∧ (∀ a n c, v = .slice (some a) n c → 0 < n → M a.block) ∧ ∀ k, M k → k < w.heap.size
theorem Row3F.fine (f g h : α → Value) (v : Value) (l : List α) : Fine (Row3F f g h v l) := by
  refine ⟨fun h => h.2.2, fun h hs hk => ?_⟩
  obtain ⟨⟨a, c, rfl, h1⟩, h2, h3⟩ := h
  refine ⟨⟨a, c, rfl, fun hp => ?_⟩, h2, fun k e => Nat.lt_of_lt_of_le (h3 k e) hs⟩
  obtain ⟨b, o, rfl, h'⟩ := h1 hp
  have hM := h2 _ _ _ rfl hp
  exact ⟨b, o, rfl, fun j hj => by
    obtain ⟨k1, k2, k3⟩ := h' j hj
    exact ⟨(World.cell?_of_block (a := ⟨b, o + j * 3, none⟩) (hk b hM)).trans k1, (World.cell?_of_block (a := ⟨b, o + j * 3 + 1, none⟩) (hk b hM)).trans k2, (World.cell?_of_block (a := ⟨b, o + j * 3 + 2, none⟩) (hk b hM)).trans k3⟩⟩
theorem Sep.row3 {M0 : Foot} {w0 w : World} {v : Value} {l : List α} {L : List Fam} (k : Sep M0 w0 (Row3F f g h v l :: L) w) : Row3 f g h w v l := by
  obtain ⟨M, hM, _⟩ := k.head
  exact hM.1
/-- A new one. -/
theorem Sep.newRow3 {M0 : Foot} {w0 w w' : World} {v : Value} {l : List α} {L : List Fam} (k : Sep M0 w0 L w) (hb : Below w.heap.size w w') (hr : Row3 f g h w' v l) (hn : ∀ a n c, v = .slice (some a) n c → w.heap.size ≤ a.block) : Sep M0 w0 (Row3F f g h v l :: L) w' := by
  refine Sep.more (L1 := [_]) k hb (M' := fun k => w.heap.size ≤ k ∧ k < w'.heap.size) (Star.one (Row3F.fine _ _ _ _ _) ⟨hr, fun a n c e hp => ⟨hn a n c e, ?_⟩, fun k hk => hk.2⟩) (fun k hk => hk.1)
  subst e
  obtain ⟨a', c', e, h1⟩ := hr
  cases e
  obtain ⟨b, o, e, h'⟩ := h1 hp
  cases e
  exact World.block_lt_of_cell? _ _ (h' 0 hp).1
end
end Go.Proofs.YtogpjblikphpcaaGreatDoor
