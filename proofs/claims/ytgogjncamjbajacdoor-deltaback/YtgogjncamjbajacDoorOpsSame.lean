/-
  Contract of the document's SameOps over this dump, at ops that are the same; of ownOps.
-/
import Derived.Test.YtgogjncamjbajacDoorOps
import Derived.Deep.QuietTactic
import Derived.BigQuiet
namespace Go.Proofs.YtgogjncamjbajacDoor
open Go.RowKit
open Go.Delta (Opx)

set_option maxHeartbeats 2000000 in
set_option maxRecDepth 100000 in
theorem sameOps_ok (v u : Value) (l : List Opx) (w : World) (hv : ORow w v l) (hu : ORow w u l) (hl : l.length ≤ 1000000) :
    Calls Tryd.prog 15 #[v, u] w fun r w' => r = .returned (.bool true) ∧ Below w.heap.size w w' := by
  obtain ⟨a, c, rfl, hv⟩ := hv
  obtain ⟨a', c', rfl, hu⟩ := hu
  have HV := hide hv
  have HU := hide hu
  have hl' : (l.length : Int) ≤ 1000000 := by omega
  clear hv hu
  go_enter Tryd.func15, Tryd.ntmps15
  go_wp2_with fail
  go_loopw [5] (fun t wr => ∃ j : Nat, t = .int .i64 j ∧ j ≤ l.length ∧ Hid (Below w.heap.size w wr)) (fun t _ => l.length - (intOf t).toNat)
  case atStart => exact ⟨0, rfl, by omega, Below.refl _ _⟩
  case round =>
    obtain ⟨j, rfl, hj, Hb⟩ := hrel
    by_cases hlt : j < l.length
    · have hlt' : (j : Int) < l.length := by omega
      obtain ⟨b, o, rfl, hc⟩ := HV.out (by omega)
      obtain ⟨b', o', rfl, hc'⟩ := HU.out (by omega)
      obtain ⟨c0, c1, c2, c3⟩ := hc j hlt
      obtain ⟨e0, e1, e2, e3⟩ := hc' j hlt
      have d0 := (Hb.out.cell (World.block_lt_of_cell? _ _ c0)).trans c0
      have d1 := (Hb.out.cell (World.block_lt_of_cell? _ _ c1)).trans c1
      have d2 := (Hb.out.cell (World.block_lt_of_cell? _ _ c2)).trans c2
      have d3 := (Hb.out.cell (World.block_lt_of_cell? _ _ c3)).trans c3
      have g0 := (Hb.out.cell (World.block_lt_of_cell? _ _ e0)).trans e0
      have g1 := (Hb.out.cell (World.block_lt_of_cell? _ _ e1)).trans e1
      have g2 := (Hb.out.cell (World.block_lt_of_cell? _ _ e2)).trans e2
      have g3 := (Hb.out.cell (World.block_lt_of_cell? _ _ e3)).trans e3
      clear hc hc' c0 c1 c2 c3 e0 e1 e2 e3
      generalize l[j] = op at *
      go_wp2_with fail
      go_quiet (fail)
      go_wp2
      go_roundw
      case rel => exact ⟨j + 1, by go_num, by omega, Hb.out.trans ⟨rfl, rfl, rfl, Nat.le_refl _, fun _ _ => rfl⟩⟩
      case measure => simp [intOf]; omega
    · have hle : (l.length : Int) ≤ (j : Int) := by omega
      go_wp2_with fail
      go_ret
      exact ⟨rfl, Hb.out⟩
end Go.Proofs.YtgogjncamjbajacDoor
