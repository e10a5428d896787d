/-
  Contract of the document's SameBlocks over this dump, where they are the same.
-/
import Derived.Test.YtgcpljgdeoeppabDoorRowIn
namespace Go.Proofs.YtgcpljgdeoeppabDoor
open Go.RowKit
open Go.Sign (Blk)

set_option maxHeartbeats 2000000 in
set_option maxRecDepth 100000 in
theorem same_ok (v u : Value) (l : List Blk) (w : World) (hv : RowIn w v l) (hu : RowIn w u l) (hl : l.length ≤ 1000000) :
    Calls Tryd.prog 18 #[v, u] w fun r w' => r = .returned (.bool true) ∧ Below w.heap.size w w' := by
  obtain ⟨a, c, rfl, hv⟩ := hv
  obtain ⟨a', c', rfl, hu⟩ := hu
  have HV := hide hv
  have HU := hide hu
  have hl' : (l.length : Int) ≤ 1000000 := by omega
  clear hv hu
  go_enter Tryd.func18, Tryd.ntmps18
  go_wp2_with fail
  go_loopw [5] (fun t wr => ∃ j : Nat, t = .int .i64 j ∧ j ≤ l.length ∧ Hid (Below w.heap.size w wr)) (fun t _ => l.length - (intOf t).toNat)
  case atStart => exact ⟨0, rfl, by omega, Below.refl _ _⟩
  case round =>
    obtain ⟨j, rfl, hj, Hb⟩ := hrel
    by_cases hlt : j < l.length
    · have hlt' : (j : Int) < l.length := by omega
      obtain ⟨g, o, rfl, hc⟩ := HV.out (by omega)
      obtain ⟨g', o', rfl, hc'⟩ := HU.out (by omega)
      obtain ⟨c0, c1, c2⟩ := hc j hlt
      obtain ⟨e0, e1, e2⟩ := hc' j hlt
      have d0 := (Hb.out.cell (World.block_lt_of_cell? _ _ c0)).trans c0
      have d1 := (Hb.out.cell (World.block_lt_of_cell? _ _ c1)).trans c1
      have d2 := (Hb.out.cell (World.block_lt_of_cell? _ _ c2)).trans c2
      have f0 := (Hb.out.cell (World.block_lt_of_cell? _ _ e0)).trans e0
      have f1 := (Hb.out.cell (World.block_lt_of_cell? _ _ e1)).trans e1
      have f2 := (Hb.out.cell (World.block_lt_of_cell? _ _ e2)).trans e2
      clear hc hc' c0 c1 c2 e0 e1 e2
      generalize l[j] = x at *
      go_wp2_with fail
      go_quiet (fail)
      go_wp2
      go_roundw
      case rel => exact ⟨j + 1, by go_num, by omega, Hb.out.trans ⟨rfl, rfl, rfl, Nat.le_refl _, fun _ _ => rfl⟩⟩
      case measure => simp [intOf]; omega
    · have hle : (l.length : Int) ≤ (j : Int) := by omega
      go_wp2_with fail
      go_ret
      exact ⟨rfl, Hb.out⟩
end Go.Proofs.YtgcpljgdeoeppabDoor
