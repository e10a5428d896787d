/-
  Contract of files.Plan over this dump.
-/
import Derived.Test.YtbflmkjlpopeaadGreatDoorFPlanned
import Derived.Test.YtbflmkjlpopeaadGreatDoorLChecks
namespace Go.Proofs.YtbflmkjlpopeaadGreatDoor
open Go.RowKit
open Go.Files (Ln St planM faultF keyL)

set_option maxHeartbeats 1000000 in
set_option maxRecDepth 100000 in
theorem plan_ok (u v : Value) (F T : List Ln) (e : FV) (w : World) (hu : LRow w u F) (hv : LRow w v T) (hF : F.length ≤ 1000000) (hT : T.length ≤ 1000000) (hfs : ∀ x ∈ F, x.name.size ≤ 1000000) (hts : ∀ x ∈ T, x.name.size ≤ 1000000) (he : FEr e w) :
    Calls Tryz.prog 15 #[u, v] w fun r w' => (∃ p x, r = .returned (.tuple #[p, x]) ∧ SRow w' p (planOut F T).1 ∧ FX e w' x (planOut F T).2) ∧ Below w.heap.size w w' := by
  have HCF := hide (fun (W : World) (h : Below w.heap.size w W) => lcheck_ok u F e W (hu.below h) hF hfs (he.below h))
  have HCT := hide (fun (W : World) (h : Below w.heap.size w W) => lcheck_ok v T e W (hv.below h) hT hts (he.below h))
  have HP := hide (fun (W : World) (h : Below w.heap.size w W) (h1 : F.length ≤ 100) (h2 : T.length ≤ 100) => planned_ok u v F T W (hu.below h) (hv.below h) h1 h2)
  have HlF : Hid ((faultF (F.map keyL)).1 = 0 → F.length ≤ 100) := fun h => by have := (Go.Files.faultF_zero.1 h).len; rw [List.length_map] at this; omega
  have HlT : Hid ((faultF (T.map keyL)).1 = 0 → T.length ≤ 100) := fun h => by have := (Go.Files.faultF_zero.1 h).len; rw [List.length_map] at this; omega
  have HPO : Hid (planOut F T = if (faultF (F.map keyL)).1 = 0 then (if (faultF (T.map keyL)).1 = 0 then (planM F T, 0, -1) else ([], faultF (T.map keyL))) else ([], faultF (F.map keyL))) := rfl
  obtain ⟨a0, c0, rfl, _⟩ := hu
  obtain ⟨a1, c1, rfl, _⟩ := hv
  generalize F.length + c0 = cap0 at *
  generalize T.length + c1 = cap1 at *
  generalize planOut F T = PO at *
  generalize planM F T = PM at *
  generalize faultF (F.map keyL) = ff at *
  generalize faultF (T.map keyL) = ft at *
  clear hfs hts he
  have hba : Below w.heap.size w (w.alloc (.cells #[.slice a0 F.length cap0, .slice a1 T.length cap1] 32)) := (Below.refl _ _).alloc (Nat.le_refl _) _
  have Hba := hide hba
  have k0 : (w.alloc (.cells #[.slice a0 F.length cap0, .slice a1 T.length cap1] 32)).cell? ⟨w.heap.size, 0, none⟩ = some (.slice a0 F.length cap0) := by simp
  have k1 : (w.alloc (.cells #[.slice a0 F.length cap0, .slice a1 T.length cap1] 32)).cell? ⟨w.heap.size, 1, none⟩ = some (.slice a1 T.length cap1) := by simp
  have K0 := hide k0
  have K1 := hide k1
  have Hs : Hid (w.heap.size < (w.alloc (.cells #[.slice a0 F.length cap0, .slice a1 T.length cap1] 32)).heap.size) := by simp [Hid]
  clear hba k0 k1
  go_enter Tryz.func15, Tryz.ntmps15
  go_wp2_with fail
  go_loopw [13] (fun t13 wr => ∃ j : Nat, t13 = .int .i64 j ∧ j ≤ 2 ∧ Hid (1 ≤ j → ff.1 = 0) ∧ Hid (2 ≤ j → ft.1 = 0) ∧ Hid (Below w.heap.size w wr) ∧ Hid (wr.cell? ⟨w.heap.size, 0, none⟩ = some (.slice a0 F.length cap0)) ∧ Hid (wr.cell? ⟨w.heap.size, 1, none⟩ = some (.slice a1 T.length cap1)) ∧ w.heap.size < wr.heap.size) (fun t13 _ => 2 - (intOf t13).toNat)
  case atStart => exact ⟨0, rfl, by omega, fun h => by omega, fun h => by omega, Hba.out, K0.out, K1.out, Hs.out⟩
  case round =>
    clear Hba K0 K1 Hs
    obtain ⟨j, rfl, hj, H1, H2, Hb, K0, K1, hs⟩ := hrel
    have hcs : j = 0 ∨ j = 1 ∨ j = 2 := by omega
    rcases hcs with rfl | rfl | rfl
    · have k0 := K0.out
      go_wp2_with fail
      refine (HCF.out _ Hb.out).mono ?_
      rintro r w1 ⟨⟨x, rfl, hx⟩, hb1⟩
      have Hx := hide hx
      have Hb1 := hide (bthen Hb.out hb1)
      have K01 : Hid (w1.cell? ⟨w.heap.size, 0, none⟩ = some (.slice a0 F.length cap0)) := (hb1.cell (p := ⟨w.heap.size, 0, none⟩) hs).trans K0.out
      have K11 : Hid (w1.cell? ⟨w.heap.size, 1, none⟩ = some (.slice a1 T.length cap1)) := (hb1.cell (p := ⟨w.heap.size, 1, none⟩) hs).trans K1.out
      have hs1 : w.heap.size < w1.heap.size := Nat.lt_of_lt_of_le hs hb1.size
      clear hb1 k0 K0 K1 Hb HCF
      by_cases hf : ff.1 = 0
      · obtain rfl := hx.nilOr.none hf
        have Hf := hide hf
        clear hx hf
        go_wp2_with fail
        go_roundw
        case rel => exact ⟨1, by go_num, by omega, fun _ => Hf.out, fun h => by omega, Hb1.out, K01.out, K11.out, hs1⟩
        case measure => simp [intOf]
      · obtain ⟨t, y, rfl⟩ := hx.nilOr.some hf
        have HP2 := hide (HPO.out.trans (if_neg hf))
        clear hx hf HPO
        go_wp2_with fail
        go_ret2
        exact ⟨⟨_, _, rfl, by rw [HP2.out]; exact Row2.nil _, by rw [HP2.out]; exact Hx.out⟩, Hb1.out⟩
    · have k1 := K1.out
      have hff := H1.out (by omega)
      have HP1 := hide (HPO.out.trans (if_pos hff))
      have Hff := hide hff
      clear HPO hff
      go_wp2_with fail
      refine (HCT.out _ Hb.out).mono ?_
      rintro r w1 ⟨⟨x, rfl, hx⟩, hb1⟩
      have Hx := hide hx
      have Hb1 := hide (bthen Hb.out hb1)
      have K01 : Hid (w1.cell? ⟨w.heap.size, 0, none⟩ = some (.slice a0 F.length cap0)) := (hb1.cell (p := ⟨w.heap.size, 0, none⟩) hs).trans K0.out
      have K11 : Hid (w1.cell? ⟨w.heap.size, 1, none⟩ = some (.slice a1 T.length cap1)) := (hb1.cell (p := ⟨w.heap.size, 1, none⟩) hs).trans K1.out
      have hs1 : w.heap.size < w1.heap.size := Nat.lt_of_lt_of_le hs hb1.size
      clear hb1 k1 K0 K1 Hb HCT
      by_cases hf : ft.1 = 0
      · obtain rfl := hx.nilOr.none hf
        have Hf := hide hf
        clear hx hf
        go_wp2_with fail
        go_roundw
        case rel => exact ⟨2, by go_num, by omega, fun _ => Hff.out, fun _ => Hf.out, Hb1.out, K01.out, K11.out, hs1⟩
        case measure => simp [intOf]
      · obtain ⟨t, y, rfl⟩ := hx.nilOr.some hf
        have HP2 := hide (HP1.out.trans (if_neg hf))
        clear hx hf HP1
        go_wp2_with fail
        go_ret2
        exact ⟨⟨_, _, rfl, by rw [HP2.out]; exact Row2.nil _, by rw [HP2.out]; exact Hx.out⟩, Hb1.out⟩
    · have hff := H1.out (by omega)
      have hft := H2.out (by omega)
      have HP2 := hide ((HPO.out.trans (if_pos hff)).trans (if_pos hft))
      have Hc := hide (HP.out _ Hb.out (HlF.out hff) (HlT.out hft))
      clear HPO hff hft HCF HCT HP
      go_wp2_with fail
      refine Hc.out.mono ?_
      rintro r w1 ⟨⟨p, rfl, hp⟩, hb1⟩
      have Hp := hide hp
      have Hb1 := hide (bthen Hb.out hb1)
      obtain ⟨ap, cp, rfl, _⟩ := hp
      clear hb1 Hc
      go_wp2_with fail
      go_ret2
      exact ⟨⟨_, _, rfl, by rw [HP2.out]; exact Hp.out, by rw [HP2.out]; exact FX.nil e _ _⟩, Hb1.out⟩
end Go.Proofs.YtbflmkjlpopeaadGreatDoor
