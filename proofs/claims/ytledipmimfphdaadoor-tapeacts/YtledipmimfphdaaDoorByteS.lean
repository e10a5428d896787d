/-
  Contract of the document's Byte over this dump.
-/
import Derived.Test.YtledipmimfphdaaDoorBase
import Derived.Laws.BytesArg
namespace Go.Proofs.YtledipmimfphdaaDoor
open Go.RowKit

set_option maxHeartbeats 400000 in
set_option maxRecDepth 100000 in
theorem byte_ok (n : Int) (w : World) (h0 : 0 ≤ n) (h1 : n < 256) : Calls Tryd.prog 56 #[.int .i64 n] w fun r w' => r = .returned (.string (str [UInt8.ofNat n.toNat])) ∧ Below w.heap.size w w' := by
  have hcv := run_convert_bytes_arg (P := Tryd.prog) (w.alloc (.cells #[.int .u8 n] 5)) 50 5 Tryd.underlying50 Tryd.underlying5 w.heap.size 0 1 1 [n] rfl (fun i hi => by
    have : i = 0 := by omega
    subst this; simp) 9 Tryd.underlying9
  have e : strOfNums [n] = str [UInt8.ofNat n.toNat] := rfl
  rw [e] at hcv
  go_enter Tryd.func56, Tryd.ntmps56
  go_wp2
  go_ret
  exact ⟨rfl, (Below.refl _ _).alloc (Nat.le_refl _) _⟩

end Go.Proofs.YtledipmimfphdaaDoor
