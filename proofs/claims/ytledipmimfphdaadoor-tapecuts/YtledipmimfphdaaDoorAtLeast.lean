/-
  Objects whose blocks are no less than a number: what is laid below it stays, whatever they are turned into. No function of the program.
-/
import Derived.Test.YtledipmimfphdaaDoorSep
namespace Go.Proofs.YtledipmimfphdaaDoor
open Go.RowKit

/-- In blocks from B on. -/
def AtL (B : Nat) (A : Fam) : Fam := fun M w => A M w ∧ ∀ k, M k → B ≤ k
theorem AtL.fine {B : Nat} {A : Fam} (hA : Fine A) : Fine (AtL B A) := ⟨fun h => hA.lt h.1, fun h hs hk => ⟨hA.keep h.1 hs hk, h.2⟩⟩
theorem Star.atL {B : Nat} : ∀ {L : List Fam} {M : Foot} {w : World}, Star L M w → (∀ k, M k → B ≤ k) → Star (L.map (AtL B)) M w
  | [], _, _, h, _ => .nil h.nil_inv
  | A :: L, M, w, h, hB => by
    obtain ⟨M1, M2, hA, h1, h2, hd, hm⟩ := h.cons_inv
    exact .cons (AtL.fine hA) ⟨h1, fun k e => hB k ((hm k).2 (.inl e))⟩ (Star.atL h2 fun k e => hB k ((hm k).2 (.inr e))) hd hm
theorem Star.ofAtL {B : Nat} {A : Fam} {M : Foot} {w : World} (hA : Fine A) (h : Star [AtL B A] M w) : Star [A] M w ∧ ∀ k, M k → B ≤ k := by
  obtain ⟨M1, M2, _, h1, h2, hd, hm⟩ := h.cons_inv
  have e : M = M1 := funext fun k => propext ⟨fun x => ((hm k).1 x).resolve_right (h2.nil_inv k), fun x => (hm k).2 (.inl x)⟩
  rw [e]
  exact ⟨Star.one hA h1.1, h1.2⟩
theorem Sep.atL {B : Nat} {M : Foot} {W w' : World} {L : List Fam} (hB : B ≤ W.heap.size) (hM : ∀ k, M k → B ≤ k) (h : Sep M W L w') : Sep M W (L.map (AtL B)) w' := by
  obtain ⟨M', h1, h2⟩ := h
  exact ⟨M', h1.atL (h2.below hB hM).2, h2⟩
theorem Sep.belowL {B : Nat} {M : Foot} {W w' : World} {L : List Fam} (hB : B ≤ W.heap.size) (hM : ∀ k, M k → B ≤ k) (h : Sep M W L w') : Below B W w' := by
  obtain ⟨M', _, h2⟩ := h
  exact (h2.below hB hM).1
/-- The first of them, wherever it lies. -/
theorem Sep.unL {B : Nat} {M : Foot} {W w' : World} {A : Fam} {L : List Fam} (hA : Fine A) (h : Sep M W (AtL B A :: L) w') : Sep M W (A :: L) w' :=
  Sep.turn (L1 := [_]) h fun N hN => ⟨N, Star.one hA hN.1, Step.refl _ _⟩
end Go.Proofs.YtledipmimfphdaaDoor
