/-
  An error that is a fault, nil where there is none.
-/
import Derived.Test.YtcmaclpliphfpaaGreatDoorTellsDef3
namespace Go.Proofs.YtcmaclpliphfpaaGreatDoor
open Go.RowKit

/-- An error that is the fault (c, at), nil where there is none. -/
structure ErrOf (w' : World) (x : Value) (c : Nat) (at_ : Int) : Prop where
  tells : Tells w' x c at_
  none : c = 0 → x = .nilIface
  some : c ≠ 0 → ∃ t y, x = .iface t y
theorem errOf_nil (w : World) (at_ : Int) : ErrOf w .nilIface 0 at_ := ⟨tells_nil w at_, fun _ => rfl, fun h => absurd rfl h⟩
theorem errOf_bare (w : World) (a : Nat → Addr) (hS : Sents w a) (j : Nat) (hj : j < 12) : ErrOf w (.iface 177 (.pointer (some (a j)))) (j + 1) (-1) := ⟨tells_bare w a hS j hj, fun h => by omega, fun _ => ⟨_, _, rfl⟩⟩
theorem errOf_at (w : World) (a : Nat → Addr) (hS : Sents w a) (j : Nat) (hj : j < 12) (p : Nat) (at_ : Int) (c0 : w.cell? ⟨p, 0, Option.none⟩ = Option.some (.int .i64 at_)) (c1 : w.cell? ⟨p, 1, Option.none⟩ = Option.some (.iface 177 (.pointer (Option.some (a j))))) :
    ErrOf w (.iface 65 (.pointer (Option.some ⟨p, 0, Option.none⟩))) (j + 1) at_ := ⟨tells_at w a hS j hj p at_ c0 c1, fun h => by omega, fun _ => ⟨_, _, rfl⟩⟩
theorem ErrOf.below {w w' : World} {x : Value} {c : Nat} {at_ : Int} (h : ErrOf w x c at_) (hb : Below w.heap.size w w') : ErrOf w' x c at_ := ⟨h.tells.below hb, h.none, h.some⟩
end Go.Proofs.YtcmaclpliphfpaaGreatDoor
