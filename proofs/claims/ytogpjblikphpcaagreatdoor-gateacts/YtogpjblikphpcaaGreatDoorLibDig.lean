/-
  What a package that reads and writes numbers reads of the library's variables (GtEnv).
-/
import Derived.Test.YtogpjblikphpcaaGreatDoorErrA
import Derived.Test.YtogpjblikphpcaaGreatDoorLibNum
namespace Go.Proofs.YtogpjblikphpcaaGreatDoor
open Go.RowKit

/-- What is read: the twelve errors; the library's table of powers; its error of no number. -/
structure GtEnv (a : Nat → Addr) (e : TypeId × Value) (w : World) : Prop where
  sents : Sents w a
  tab : Lib.TabIs Tryz.prog w "internal/strconv.uint64pow10" .u64 Lib.pow10Tab
  syn : w.var? Tryz.prog "strconv.ErrSyntax" = some #[.iface e.1 e.2]
theorem GtEnv.below {a : Nat → Addr} {e : TypeId × Value} {w w' : World} (h : GtEnv a e w) (hb : Below w.heap.size w w') : GtEnv a e w' :=
  ⟨h.sents.below hb, var_below h.tab hb, var_below h.syn hb⟩
end Go.Proofs.YtogpjblikphpcaaGreatDoor
