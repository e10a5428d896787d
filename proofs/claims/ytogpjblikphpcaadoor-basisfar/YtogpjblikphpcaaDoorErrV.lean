/-
  An error by its number.
-/
import Derived.Test.YtogpjblikphpcaaDoorBase
namespace Go.Proofs.YtogpjblikphpcaaDoor
open Go.RowKit

/-- An error by its number. -/
def errA (a : Nat → Addr) : Nat → Value
  | 0 => .nilIface
  | n + 1 => .iface 129 (.pointer (some (a n)))
end Go.Proofs.YtogpjblikphpcaaDoor
