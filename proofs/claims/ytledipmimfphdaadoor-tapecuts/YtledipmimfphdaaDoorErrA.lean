/-
  An error by its number.
-/
import Derived.Test.YtledipmimfphdaaDoorCode
namespace Go.Proofs.YtledipmimfphdaaDoor
open Go.RowKit

/-- An error by its number. -/
def errA (a : Nat → Addr) : Nat → Value
  | 0 => .nilIface
  | n + 1 => .iface 134 (.pointer (some (a n)))
end Go.Proofs.YtledipmimfphdaaDoor
