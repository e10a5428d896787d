/-
  Contract of the document's answer: Fine.
-/
import Derived.Test.YtogpjblikphpcaaGreatDoorBase
namespace Go.Proofs.YtogpjblikphpcaaGreatDoor
open Go.RowKit

/-- A fault of the document's answer: an error's number and where. -/
def fval (f : Nat × Int) : Value := .agg #[.int .i64 f.1, .int .i64 f.2]

set_option maxHeartbeats 1000000 in
set_option maxRecDepth 100000 in
theorem fine_ok (w : World) : Calls Tryz.prog 49 #[] w fun r w' => r = .returned (.agg #[.int .i64 0, .int .i64 (-1)]) ∧ Below w.heap.size w w' := by
  go_enter Tryz.func49, Tryz.ntmps49
  go_wp2
  (try simp only [Exit.inBlock, Exit.then])
  refine bodyPost_ret (v := .agg #[.int .i64 0, .int .i64 (-1)]) ?_ rfl ⟨rfl, (Below.refl _ _).alloc (Nat.le_refl _) _⟩
  simp only [results, show Tryz.f49.results = #[.cell 0 48] from rfl]
  go_simp

end Go.Proofs.YtogpjblikphpcaaGreatDoor
