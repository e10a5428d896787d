/-
  An error's number by the laws of packhorselaw3.
-/
import Derived.Test.YtogpjblikphpcaaGreatDoorCodes3
import Derived.Test.YtogpjblikphpcaaGreatDoorErrA
namespace Go.Proofs.YtogpjblikphpcaaGreatDoor
open Go.RowKit

theorem codesA (a : Nat → Addr) (W : World) (c : Nat) (h : Sents W a) (hc : c ≤ 12) : Codes W (errA a c) c := by
  cases c with
  | zero => exact codes_nil W
  | succ j => exact codes_bare W a h j (by omega)

end Go.Proofs.YtogpjblikphpcaaGreatDoor
