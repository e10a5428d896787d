/-
  An error that is a fault, behind whatever happens.
-/
import Derived.Test.YtcmaclpliphfpaaGreatDoorCodeMore
import Derived.Test.YtcmaclpliphfpaaGreatDoorFaulted3
namespace Go.Proofs.YtcmaclpliphfpaaGreatDoor
open Go.RowKit

/-- An error that is the fault (c, at), behind whatever happens. -/
def Tells (w' : World) (x : Value) (c : Nat) (at_ : Int) : Prop :=
  ∀ W, Below w'.heap.size w' W → Calls Tryz.prog 20 #[x, .agg #[.int .i64 c, .int .i64 at_]] W fun r W' => r = .returned (.bool true) ∧ Below W.heap.size W W'
theorem Tells.below {w w' : World} {x : Value} {c : Nat} {at_ : Int} (h : Tells w x c at_) (hb : Below w.heap.size w w') : Tells w' x c at_ := fun W hW => h W (bthen hb hW)
theorem tells_nil (w : World) (at_ : Int) : Tells w .nilIface 0 at_ := fun W _ =>
  faulted_zero .nilIface (-1) at_ W (fun W' _ => (code_nil W').mono fun _ _ ⟨h1, h2⟩ => ⟨h1, by rw [h2]; exact Below.refl _ _⟩)
theorem tells_bare (w : World) (a : Nat → Addr) (hS : Sents w a) (j : Nat) (hj : j < 12) : Tells w (.iface 177 (.pointer (some (a j)))) (j + 1) (-1) := fun W hW => by
  refine faulted_at _ _ (-1) W (by omega) (fun W' hW' => ?_)
  rw [show ((j + 1 : Nat) : Int) = (j : Int) + 1 by omega]
  exact code_sent j hj a W' ((hS.below hW).below hW')
theorem tells_at (w : World) (a : Nat → Addr) (hS : Sents w a) (j : Nat) (hj : j < 12) (p : Nat) (at_ : Int) (c0 : w.cell? ⟨p, 0, none⟩ = some (.int .i64 at_)) (c1 : w.cell? ⟨p, 1, none⟩ = some (.iface 177 (.pointer (some (a j))))) :
    Tells w (.iface 65 (.pointer (some ⟨p, 0, none⟩))) (j + 1) at_ := fun W hW => by
  refine faulted_at _ _ at_ W (by omega) (fun W' hW' => ?_)
  rw [show ((j + 1 : Nat) : Int) = (j : Int) + 1 by omega]
  have d0 := (hW.cell (World.block_lt_of_cell? _ _ c0)).trans c0
  have d1 := (hW.cell (World.block_lt_of_cell? _ _ c1)).trans c1
  exact code_fault j hj at_ p a W' ((hS.below hW).below hW') ((hW'.cell (World.block_lt_of_cell? _ _ d0)).trans d0) ((hW'.cell (World.block_lt_of_cell? _ _ d1)).trans d1)
end Go.Proofs.YtcmaclpliphfpaaGreatDoor
