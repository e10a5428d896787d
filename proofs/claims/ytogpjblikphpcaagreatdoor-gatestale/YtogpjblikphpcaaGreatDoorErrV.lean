/-
  An error by its number.
-/
import Derived.Test.YtogpjblikphpcaaGreatDoorBase
namespace Go.Proofs.YtogpjblikphpcaaGreatDoor
open Go.RowKit

/-- An error by its number. -/
def errA (a : Nat → Addr) : Nat → Value
  | 0 => .nilIface
  | n + 1 => .iface 231 (.pointer (some (a n)))
end Go.Proofs.YtogpjblikphpcaaGreatDoor
