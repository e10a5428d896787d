/-
  Contract of the document's Byte over this dump.
-/
import Derived.Test.YtcmaclpliphfpaaGreatDoorBase
import Derived.Laws.BytesArg
namespace Go.Proofs.YtcmaclpliphfpaaGreatDoor
open Go.RowKit

set_option maxHeartbeats 400000 in
set_option maxRecDepth 100000 in
theorem byte_ok (n : Int) (w : World) (h0 : 0 ≤ n) (h1 : n < 256) : Calls Tryz.prog 68 #[.int .i64 n] w fun r w' => r = .returned (.string (str [UInt8.ofNat n.toNat])) ∧ Below w.heap.size w w' := by
  have hcv := run_convert_bytes_arg (P := Tryz.prog) (w.alloc (.cells #[.int .u8 n] 5)) 69 5 Tryz.underlying69 Tryz.underlying5 w.heap.size 0 1 1 [n] rfl (fun i hi => by
    have : i = 0 := by omega
    subst this; simp) 9 Tryz.underlying9
  have e : strOfNums [n] = str [UInt8.ofNat n.toNat] := rfl
  rw [e] at hcv
  go_enter Tryz.func68, Tryz.ntmps68
  go_wp2
  go_ret
  exact ⟨rfl, (Below.refl _ _).alloc (Nat.le_refl _) _⟩

end Go.Proofs.YtcmaclpliphfpaaGreatDoor
