/-
  Contracts of files.linesAt, checkLines over this dump.
-/
import Derived.Test.YtbflmkjlpopeaadGreatDoorFCheck
import Derived.Shelf.Abstract
namespace Go.Proofs.YtbflmkjlpopeaadGreatDoor
open Go.RowKit
open Go.Files (Fl Ln faultF keyF keyL)

set_option maxHeartbeats 1000000 in
set_option maxRecDepth 100000 in
theorem linesAt1_ok (q j : Nat) (v : Value) (l : List Ln) (w : World) (hv : LRow w v l) (hj : j < l.length) (hl : l.length ≤ 1000000) (hq : w.cell? ⟨q, 0, none⟩ = some v) :
    Calls Tryz.prog 54 #[.int .i64 j, .pointer (some ⟨q, 0, none⟩)] w fun r w' => r = .returned (.tuple #[.string l[j].name, .int .i64 l[j].n]) ∧ Below w.heap.size w w' := by
  obtain ⟨a, c, rfl, hv⟩ := hv
  obtain ⟨b, o, rfl, hc⟩ := hv (by omega)
  have hj' : (j : Int) < l.length := by omega
  obtain ⟨c0, c1, _⟩ := hc j hj
  clear hc hv
  generalize l[j] = x at *
  go_enter Tryz.func54, Tryz.ntmps54
  go_wp2_with fail
  go_quiet (fail)
  go_wp2
  go_ret2
  exact ⟨rfl, (Below.refl _ _).trans ⟨rfl, rfl, rfl, Nat.le_refl _, fun _ _ => rfl⟩⟩

set_option maxHeartbeats 1000000 in
theorem linesAt_ok (a : Option Addr) (n c : Nat) (w : World) :
    Calls Tryz.prog 30 #[.slice a n c] w fun r w' => (∃ q, r = .returned (.func (.func 54) #[] #[.pointer (some ⟨q, 0, none⟩)]) ∧ w'.cell? ⟨q, 0, none⟩ = some (.slice a n c)) ∧ Below w.heap.size w w' := by
  go_enter Tryz.func30, Tryz.ntmps30
  go_wp2
  go_ret
  exact ⟨⟨w.heap.size, rfl, by simp⟩, (Below.refl _ _).alloc (Nat.le_refl _) _⟩

set_option maxHeartbeats 1000000 in
set_option maxRecDepth 100000 in
theorem lcheck_ok (v : Value) (l : List Ln) (e : FV) (w : World) (hv : LRow w v l) (hl : l.length ≤ 1000000) (hs : ∀ x ∈ l, x.name.size ≤ 1000000) (he : FEr e w) :
    Calls Tryz.prog 23 #[v] w fun r w' => (∃ x, r = .returned x ∧ FX e w' x (faultF (l.map keyL))) ∧ Below w.heap.size w w' := by
  have HE := hide he
  have HV := hide hv
  have HW := hide (fun q W (h : LRow W v l) (hq : W.cell? ⟨q, 0, none⟩ = some v) (h2 : FEr e W) => firstWrong_ok 54 q (enters_of Tryz.func54 (by kernel_rfl) rfl) (l.map keyL) e W (fun j hj W' hb => by
    have hj' : j < l.length := by simpa using hj
    have := linesAt1_ok q j v l W' (h.below hb) hj' hl ((hb.cell (World.block_lt_of_cell? _ _ hq)).trans hq)
    simpa [keyL] using this) (by simpa using hl) (fun x hx => by obtain ⟨y, hy, rfl⟩ := List.mem_map.1 hx; exact hs y hy) h2)
  rw [List.length_map] at HW
  have HP := hide (fun W => placed_ok e (l.map keyL) W)
  obtain ⟨a, c, rfl, _⟩ := hv
  have HA := hide (fun c W => linesAt_ok a l.length c W)
  clear hs he
  generalize faultF (l.map keyL) = f at *
  obtain ⟨fc, fa⟩ := f
  simp only at HW HP
  go_enter Tryz.func23, Tryz.ntmps23
  go_wp2_with fail
  refine (HA.out _ _).mono ?_
  rintro r w1 ⟨⟨q, rfl, hq⟩, hb1⟩
  have Hq := hide hq
  have Hb1 := hide hb1
  clear hq hb1 HA
  go_wp2_with fail
  refine (HW.out q _ (HV.out.below Hb1.out) Hq.out (HE.out.below Hb1.out)).mono ?_
  rintro r w2 ⟨rfl, hb2⟩
  have Hb2 := hide (bthen Hb1.out hb2)
  clear hb2 HW Hq
  generalize errF e fc = ev at *
  go_wp2_with fail
  refine (HP.out _).mono ?_
  rintro r w3 ⟨⟨x, rfl, hx⟩, hb3⟩
  have Hx := hide hx
  have Hb3 := hide (bthen Hb2.out hb3)
  clear hx hb3 HP
  go_wp2
  go_ret
  exact ⟨⟨_, rfl, Hx.out⟩, Hb3.out⟩
end Go.Proofs.YtbflmkjlpopeaadGreatDoor
