/-
  An error by its number alone, as the laws of packhorselaw3 ask it.
-/
import Derived.Test.YtogpjblikphpcaaGreatDoorCoded3
namespace Go.Proofs.YtogpjblikphpcaaGreatDoor
open Go.RowKit

/-- An error by its number alone, behind whatever happens. -/
def Codes (w' : World) (x : Value) (c : Nat) : Prop :=
  ∀ W, Below w'.heap.size w' W → Calls Tryz.prog 11 #[x, .int .i64 c] W fun r W' => r = .returned (.bool true) ∧ Below W.heap.size W W'
theorem codes_nil (w : World) : Codes w .nilIface 0 := fun W _ => (coded_nil 0 W).mono fun _ _ ⟨h1, h2⟩ => ⟨by rw [h1]; rfl, by rw [h2]; exact Below.refl _ _⟩
theorem codes_bare (w : World) (a : Nat → Addr) (hS : Sents w a) (j : Nat) (hj : j < 12) : Codes w (.iface 231 (.pointer (some (a j)))) (j + 1) := fun W hW => by
  rw [show ((j + 1 : Nat) : Int) = (j : Int) + 1 by omega]
  exact (coded_sent j hj a _ W (hS.below hW)).mono fun _ _ ⟨h1, h2⟩ => ⟨by rw [h1]; simp, h2⟩
theorem Codes.below {w w' : World} {x : Value} {c : Nat} (h : Codes w x c) (hb : Below w.heap.size w w') : Codes w' x c := fun W hW => h W (bthen hb hW)
end Go.Proofs.YtogpjblikphpcaaGreatDoor
