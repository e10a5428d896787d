/-
  Contract of the document's SameFiles over this dump.
  Contract of the law's sameLines over this dump.
-/
import Derived.Test.YtbflmkjlpopeaadDoorJoin03
import Derived.BigQuiet
import Derived.Deep.QuietTactic
import Derived.Laws.Cover1
namespace Go.Proofs.YtbflmkjlpopeaadDoor
open Go.RowKit
open Go.Files (Fl)

set_option maxHeartbeats 2000000 in
set_option maxRecDepth 100000 in
theorem sameFiles_ok (u v : Value) (l : List Fl) (w : World) (hu : FRow w u l) (hv : FRow w v l) (hl : l.length ≤ 1000000) :
    Calls Tryd.prog 22 #[u, v] w fun r w' => r = .returned (.bool true) ∧ Below w.heap.size w w' := by
  obtain ⟨a1, c1, rfl, hu⟩ := hu
  obtain ⟨a2, c2, rfl, hv⟩ := hv
  have HU := hide hu
  have HV := hide hv
  have hl' : (l.length : Int) ≤ 1000000 := by omega
  clear hu hv
  go_enter Tryd.func22, Tryd.ntmps22
  go_wp2_with fail
  go_loopw [5] (fun t wr => ∃ j : Nat, t = .int .i64 j ∧ j ≤ l.length ∧ Hid (Below w.heap.size w wr)) (fun t _ => l.length - (intOf t).toNat)
  case atStart => exact ⟨0, rfl, by omega, Below.refl _ _⟩
  case round =>
    obtain ⟨j, rfl, hj, Hb⟩ := hrel
    by_cases hlt : j < l.length
    · have hlt' : (j : Int) < l.length := by omega
      obtain ⟨b, o, rfl, hc⟩ := HU.out (by omega)
      obtain ⟨b', o', rfl, hc'⟩ := HV.out (by omega)
      obtain ⟨c0, c1⟩ := hc j hlt
      obtain ⟨c0', c1'⟩ := hc' j hlt
      have d0 := (Hb.out.cell (World.block_lt_of_cell? _ _ c0)).trans c0
      have d1 := (Hb.out.cell (World.block_lt_of_cell? _ _ c1)).trans c1
      have e0 := (Hb.out.cell (World.block_lt_of_cell? _ _ c0')).trans c0'
      have e1 := (Hb.out.cell (World.block_lt_of_cell? _ _ c1')).trans c1'
      clear hc hc' c0 c1 c0' c1'
      generalize l[j] = x at *
      go_wp2_with fail
      go_quiet (fail)
      go_wp2_with fail
      go_roundw
      case rel => exact ⟨j + 1, by go_num, by omega, Hb.out.trans ⟨rfl, rfl, rfl, Nat.le_refl _, fun _ _ => rfl⟩⟩
      case measure => simp [intOf]; omega
    · have hle : (l.length : Int) ≤ (j : Int) := by omega
      go_wp2_with fail
      go_ret
      exact ⟨rfl, Hb.out⟩
end Go.Proofs.YtbflmkjlpopeaadDoor

namespace Go.Proofs.YtbflmkjlpopeaadDoor
open Go.RowKit
open Go.Files (Ln)

set_option maxHeartbeats 2000000 in
set_option maxRecDepth 100000 in
theorem sameLines_ok (u v : Value) (l : List Ln) (w : World) (hu : LRow w u l) (hv : MRow w v l) (hl : l.length ≤ 1000000) (hs : ∀ x ∈ l, 0 ≤ x.sum ∧ x.sum < 4294967296) :
    Calls Tryd.prog 28 #[u, v] w fun r w' => r = .returned (.bool true) ∧ Below w.heap.size w w' := by
  obtain ⟨a1, c1, rfl, hu⟩ := hu
  obtain ⟨a2, c2, rfl, hv⟩ := hv
  have HU := hide hu
  have HV := hide hv
  have HS := hide hs
  have hl' : (l.length : Int) ≤ 1000000 := by omega
  clear hu hv hs
  go_enter Tryd.func28, Tryd.ntmps28
  go_wp2_with fail
  go_loopw [5] (fun t wr => ∃ j : Nat, t = .int .i64 j ∧ j ≤ l.length ∧ Hid (Below w.heap.size w wr)) (fun t _ => l.length - (intOf t).toNat)
  case atStart => exact ⟨0, rfl, by omega, Below.refl _ _⟩
  case round =>
    obtain ⟨j, rfl, hj, Hb⟩ := hrel
    by_cases hlt : j < l.length
    · have hlt' : (j : Int) < l.length := by omega
      obtain ⟨b, o, rfl, hc⟩ := HU.out (by omega)
      obtain ⟨b', o', rfl, hc'⟩ := HV.out (by omega)
      obtain ⟨c0, c1, c2⟩ := hc j hlt
      obtain ⟨c0', c1', c2'⟩ := hc' j hlt
      have d0 := (Hb.out.cell (World.block_lt_of_cell? _ _ c0)).trans c0
      have d1 := (Hb.out.cell (World.block_lt_of_cell? _ _ c1)).trans c1
      have d2 := (Hb.out.cell (World.block_lt_of_cell? _ _ c2)).trans c2
      have e0 := (Hb.out.cell (World.block_lt_of_cell? _ _ c0')).trans c0'
      have e1 := (Hb.out.cell (World.block_lt_of_cell? _ _ c1')).trans c1'
      have e2 := (Hb.out.cell (World.block_lt_of_cell? _ _ c2')).trans c2'
      obtain ⟨s0, s1⟩ := HS.out _ (List.getElem_mem hlt)
      clear hc hc' c0 c1 c0' c1' c2 c2'
      generalize l[j] = x at *
      have hwr : IntKind.i64.wrap x.sum = x.sum := iwrap_id _ (by omega) (by omega)
      go_wp2_with fail
      go_quiet (fail)
      go_wp2_with fail
      go_roundw
      case rel => exact ⟨j + 1, by go_num, by omega, Hb.out.trans ⟨rfl, rfl, rfl, Nat.le_refl _, fun _ _ => rfl⟩⟩
      case measure => simp [intOf]; omega
    · have hle : (l.length : Int) ≤ (j : Int) := by omega
      go_wp2_with fail
      go_ret
      exact ⟨rfl, Hb.out⟩

end Go.Proofs.YtbflmkjlpopeaadDoor
