/-
  The walk of the law FrameTells over the contracts.
-/
import Derived.Test.YtlmampcdflbifadDoorJoin08
import Derived.Deep.DeepCutAuto
namespace Go.Proofs.YtlmampcdflbifadDoor
open Go.RowKit
open Go.Frame (Fr frErr encF encOut rdOut)

set_option maxHeartbeats 1000000 in
set_option maxRecDepth 100000 in
theorem frt_main (f : Fr) (s : ByteArray) (a : Nat → Addr) (w : World) (hS : Sents w a) (hP : FrameTell a) (hd : f.data.size ≤ 200 ∨ f.data.size = 20001) (hs : s.size ≤ 300) :
    Calls Tryd.prog 7 #[frV f, .string s] w fun r w' => r = .returned (.bool true) ∧ Below w.heap.size w w' := by
  have hba : Below w.heap.size w (w.alloc (.cells (frC f) 69)) := (Below.refl _ _).alloc (Nat.le_refl _) _
  have hfa : FrAt w.heap.size (w.alloc (.cells (frC f) 69)) f := FrAt.fresh w f _
  have HM := hide (framed_ok _ _ (hS.below hba) (fun _ _ h hb => h.below hb) hP.all)
  have HT := hide (fun W (h : Below w.heap.size w W) => hS.below h)
  have HE := hide (fun W => frameError_ok f W)
  have HN := hide (fun W (k : Sents W a) => hP.encode f W (by omega) k)
  have HC := hide (fun W (k : Sents W a) => hP.check f W (by omega) k)
  have HX := hide (fun W (k : frErr f = 0) => frameText_ok f W k)
  have HD := hide (fun W (k : Sents W a) => hP.decode s W (by omega) k)
  have HR := hide (fun W => readFrame_ok s W (by omega))
  have Heo : Hid (frErr f = 0 → str (encOut f) = str (encF f)) := fun h => by unfold encOut; rw [if_pos h]
  have Hez : Hid (frErr f ≠ 0 → str (encOut f) = ⟨#[]⟩) := fun h => by unfold encOut; rw [if_neg h]; rfl
  have Hfa := hide hfa
  have Hba := hide hba
  have hs' : (s.size : Int) ≤ 300 := by omega
  have hd1 : (decide ((200 : Int) < f.data.size) && ((f.data.size : Int) != 20001)) = false := by
    rcases hd with h | h
    · rw [decide_eq_false (by omega)]; rfl
    · simp [h]
  simp only [frC] at Hfa Hba HM
  simp only [frV] at HE HN HC HX HD HR ⊢
  obtain ⟨kd, ep, sq, da⟩ := f
  simp only at HE HN HC HX HD HR Hfa Hba HM hd1 hd ⊢
  generalize hfe : frErr ⟨kd, ep, sq, da⟩ = e at *
  generalize str (encOut ⟨kd, ep, sq, da⟩) = T at *
  generalize str (encF ⟨kd, ep, sq, da⟩) = E at *
  generalize rdOut s.data.toList = O at *
  obtain ⟨⟨k2, e2, s2, d2⟩, c2⟩ := O
  simp only at HD HR
  clear hS hP hba hfa hfe
  obtain ⟨c0, c1, c2', c3, _, _, _, _, _⟩ := Hfa.out
  simp only at c0 c1 c2' c3
  go_enter Tryd.func7, Tryd.ntmps7
  go_wp2_with fail
  refine HM.out.mono ?_
  rintro r w1 ⟨rfl, hb1⟩
  have hf1 := Hfa.out.below hb1 Hfa.out.lt
  have Hb1 := hide (bthen Hba.out hb1)
  have Hf1 := hide hf1
  clear hb1 HM c0 c1 c2' c3
  obtain ⟨c0, c1, c2', c3, _, _, _, _, _⟩ := hf1
  simp only at c0 c1 c2' c3
  go_upto_region 2 with fail
  go_cut [31] (fun v31 wc => v31 = .bool false ∧ wc = w1)
  case first =>
    rcases hd with h | h
    · have h' : (da.size : Int) ≤ 200 := by omega
      clear hd1
      go_wp2_with fail
      go_meet
      case rel => exact ⟨by first | rfl | (simp; done) | (simp; omega), rfl⟩
    · have h' : (200 : Int) < da.size := by omega
      have h'' : ((da.size : Int) != 20001) = false := by simp; omega
      clear hd1
      go_wp2_with fail
      go_meet
      case rel => exact ⟨by first | rfl | (simp; done) | (simp; omega), rfl⟩
  case rest =>
    obtain ⟨rfl, rfl⟩ := hcut
    clear hd1 hd
    have hba2 : Below wc.heap.size wc (wc.alloc (.cells #[.int .u8 kd.toNat, .int .i64 ep, .int .i64 sq, .string da] 70)) := (Below.refl _ _).alloc (Nat.le_refl _) _
    have Hx2 : Hid (FrAt wc.heap.size (wc.alloc (.cells #[.int .u8 kd.toNat, .int .i64 ep, .int .i64 sq, .string da] 70)) ⟨kd, ep, sq, da⟩) := FrAt.fresh wc ⟨kd, ep, sq, da⟩ _
    have Hf2 := hide (Hf1.out.below hba2 Hf1.out.lt)
    have Hb2 := hide (bthen Hb1.out hba2)
    clear hba2
    have k2 := Hf2.out.c0
    go_wp2_with fail
    refine (HE.out _).mono ?_
    rintro r w3 ⟨rfl, hb3⟩
    have Hf3 := hide (Hf2.out.below hb3 Hf2.out.lt)
    have hx3 := Hx2.out.below hb3 Hx2.out.lt
    have Hx3 := hide hx3
    have Hb3 := hide (bthen Hb2.out hb3)
    obtain ⟨p0, p1, p2, p3, _, _, _, _, _⟩ := hx3
    simp only at p0 p1 p2 p3
    clear hb3 HE Hf2 Hx2 Hb2 k2 c0 c1 c2' c3
    go_wp2_with fail
    refine (HN.out _ (HT.out _ Hb3.out)).mono ?_
    rintro r w4 ⟨⟨x4, rfl, hn4, hc4⟩, hb4⟩
    have Hf4 := hide (Hf3.out.below hb4 Hf3.out.lt)
    have hx5 := Hx3.out.below hb4 Hx3.out.lt
    have Hx4 := hide hx5
    have Hb4 := hide (bthen Hb3.out hb4)
    have Hc4 := hide hc4
    clear p0 p1 p2 p3 hn4 hc4 hb4
    obtain ⟨p0, p1, p2, p3, _, _, _, _, _⟩ := hx5
    simp only at p0 p1 p2 p3
    go_wp2_with fail
    refine (HC.out _ (HT.out _ Hb4.out)).mono ?_
    rintro r w5 ⟨⟨x5, rfl, hc5⟩, hb5⟩
    have Hf5 := hide (Hf4.out.below hb5 Hf4.out.lt)
    have Hb5 := hide (bthen Hb4.out hb5)
    have Hc5 := hide hc5
    have Hc45 := hide (Hc4.out.below hb5)
    clear hc5 hb5 p0 p1 p2 p3
    go_wp2_with fail
    refine (Hc5.out _ (Below.refl _ _)).mono ?_
    rintro r w6 ⟨rfl, hb6⟩
    have Hf6 := hide (Hf5.out.below hb6 Hf5.out.lt)
    have Hb6 := hide (bthen Hb5.out hb6)
    have Hc46 := hide (Hc45.out.below hb6)
    clear hb6
    go_wp2_with fail
    refine (Hc46.out _ (Below.refl _ _)).mono ?_
    rintro r w7 ⟨rfl, hb7⟩
    have hf7 := Hf6.out.below hb7 Hf6.out.lt
    have Hf7 := hide hf7
    have Hb7 := hide (bthen Hb6.out hb7)
    clear hb7 Hc4 Hc5 Hc45 Hc46 Hf3 Hf4 Hf5 Hf6 Hx3 Hx4 Hb3 Hb4 Hb5 Hb6 HC HN
    obtain ⟨c0, c1, c2', c3, _, _, _, _, _⟩ := hf7
    simp only at c0 c1 c2' c3
    by_cases he : e = 0
    · subst he
      have hTE := Heo.out rfl
      subst hTE
      have HX2 := hide (fun W => HX.out W rfl)
      clear HX
      go_wp2_with fail
      refine (HX2.out _).mono ?_
      rintro r w8 ⟨rfl, hb8⟩
      have Hb8 := hide (bthen Hb7.out hb8)
      clear hb8 c0 c1 c2' c3
      go_wp2_with fail
      refine (HD.out _ (HT.out _ Hb8.out)).mono ?_
      rintro r w9 ⟨⟨x9, rfl, hn9, hc9⟩, hb9⟩
      have hba9 : Below w9.heap.size w9 (w9.alloc (.cells #[.int .u8 k2.toNat, .int .i64 e2, .int .i64 s2, .string d2] 70)) := (Below.refl _ _).alloc (Nat.le_refl _) _
      have Hy9 : Hid (FrAt w9.heap.size (w9.alloc (.cells #[.int .u8 k2.toNat, .int .i64 e2, .int .i64 s2, .string d2] 70)) ⟨k2, e2, s2, d2⟩) := FrAt.fresh w9 ⟨k2, e2, s2, d2⟩ _
      have Hb9 := hide (bthen Hb8.out (bthen hb9 hba9))
      have Hc9 := hide (hc9.below hba9)
      clear hb9 hba9 hn9 hc9
      go_wp2_with fail
      refine (HR.out _).mono ?_
      rintro r wa ⟨rfl, hba⟩
      have hbb : Below wa.heap.size wa (wa.alloc (.cells #[.int .u8 k2.toNat, .int .i64 e2, .int .i64 s2, .string d2] 69)) := (Below.refl _ _).alloc (Nat.le_refl _) _
      have Hza : Hid (FrAt wa.heap.size (wa.alloc (.cells #[.int .u8 k2.toNat, .int .i64 e2, .int .i64 s2, .string d2] 69)) ⟨k2, e2, s2, d2⟩) := FrAt.fresh wa ⟨k2, e2, s2, d2⟩ _
      have Hya := hide (Hy9.out.below (bthen hba hbb) Hy9.out.lt)
      have Hba := hide (bthen Hb9.out (bthen hba hbb))
      have Hca := hide (Hc9.out.below (bthen hba hbb))
      clear hba hbb
      go_wp2_with fail
      refine (Hca.out _ (Below.refl _ _)).mono ?_
      rintro r wb ⟨rfl, hbc⟩
      have hyb := Hya.out.below hbc Hya.out.lt
      have hzb := Hza.out.below hbc Hza.out.lt
      have Hbb := hide (bthen Hba.out hbc)
      obtain ⟨y0, y1, y2, y3, _, _, _, _, _⟩ := hyb
      obtain ⟨z0, z1, z2, z3, _, _, _, _, _⟩ := hzb
      simp only at y0 y1 y2 y3 z0 z1 z2 z3
      clear hbc Hca Hya Hza Hba Hy9 Hb9 Hc9
      go_wp2
      go_ret
      exact ⟨rfl, Hbb.out⟩
    · have hT := Hez.out he
      subst hT
      have he' : (0 : Int) < e := by omega
      have he2 : ((e : Int) == 0) = false := by rw [beq_eq_false_iff_ne]; omega
      go_wp2_with fail
      refine (HD.out _ (HT.out _ Hb7.out)).mono ?_
      rintro r w9 ⟨⟨x9, rfl, hn9, hc9⟩, hb9⟩
      have hba9 : Below w9.heap.size w9 (w9.alloc (.cells #[.int .u8 k2.toNat, .int .i64 e2, .int .i64 s2, .string d2] 70)) := (Below.refl _ _).alloc (Nat.le_refl _) _
      have Hy9 : Hid (FrAt w9.heap.size (w9.alloc (.cells #[.int .u8 k2.toNat, .int .i64 e2, .int .i64 s2, .string d2] 70)) ⟨k2, e2, s2, d2⟩) := FrAt.fresh w9 ⟨k2, e2, s2, d2⟩ _
      have Hb9 := hide (bthen Hb7.out (bthen hb9 hba9))
      have Hc9 := hide (hc9.below hba9)
      clear hb9 hba9 hn9 hc9
      go_wp2_with fail
      refine (HR.out _).mono ?_
      rintro r wa ⟨rfl, hba⟩
      have hbb : Below wa.heap.size wa (wa.alloc (.cells #[.int .u8 k2.toNat, .int .i64 e2, .int .i64 s2, .string d2] 69)) := (Below.refl _ _).alloc (Nat.le_refl _) _
      have Hza : Hid (FrAt wa.heap.size (wa.alloc (.cells #[.int .u8 k2.toNat, .int .i64 e2, .int .i64 s2, .string d2] 69)) ⟨k2, e2, s2, d2⟩) := FrAt.fresh wa ⟨k2, e2, s2, d2⟩ _
      have Hya := hide (Hy9.out.below (bthen hba hbb) Hy9.out.lt)
      have Hba := hide (bthen Hb9.out (bthen hba hbb))
      have Hca := hide (Hc9.out.below (bthen hba hbb))
      clear hba hbb
      go_wp2_with fail
      refine (Hca.out _ (Below.refl _ _)).mono ?_
      rintro r wb ⟨rfl, hbc⟩
      have hyb := Hya.out.below hbc Hya.out.lt
      have hzb := Hza.out.below hbc Hza.out.lt
      have Hbb := hide (bthen Hba.out hbc)
      obtain ⟨y0, y1, y2, y3, _, _, _, _, _⟩ := hyb
      obtain ⟨z0, z1, z2, z3, _, _, _, _, _⟩ := hzb
      simp only at y0 y1 y2 y3 z0 z1 z2 z3
      clear hbc Hca Hya Hza Hba Hy9 Hb9 Hc9
      go_wp2
      go_ret
      exact ⟨rfl, Hbb.out⟩

set_option maxHeartbeats 1000000 in
set_option maxRecDepth 100000 in
theorem frt_early (f : Fr) (s : ByteArray) (a : Nat → Addr) (w : World) (hS : Sents w a) (hP : FrameTell a) (h : (200 < f.data.size ∧ f.data.size ≠ 20001) ∨ 300 < s.size) :
    Calls Tryd.prog 7 #[frV f, .string s] w fun r w' => r = .returned (.bool true) ∧ Below w.heap.size w w' := by
  have hba : Below w.heap.size w (w.alloc (.cells (frC f) 69)) := (Below.refl _ _).alloc (Nat.le_refl _) _
  have hfa : FrAt w.heap.size (w.alloc (.cells (frC f) 69)) f := FrAt.fresh w f _
  have HM := hide (framed_ok _ _ (hS.below hba) (fun _ _ h hb => h.below hb) hP.all)
  have Hfa := hide hfa
  have Hba := hide hba
  simp only [frC] at Hfa Hba HM
  simp only [frV]
  obtain ⟨kd, ep, sq, da⟩ := f
  simp only at Hfa Hba HM h ⊢
  clear hS hP hba hfa
  go_enter Tryd.func7, Tryd.ntmps7
  go_wp2_with fail
  refine HM.out.mono ?_
  rintro r w1 ⟨rfl, hb1⟩
  have hf1 := Hfa.out.below hb1 Hfa.out.lt
  have Hb1 := hide (bthen Hba.out hb1)
  clear hb1 HM
  obtain ⟨c0, c1, c2', c3, _, _, _, _, _⟩ := hf1
  simp only at c0 c1 c2' c3
  go_upto_region 2 with fail
  go_cut [31] (fun v31 wc => v31 = .bool true ∧ wc = w1)
  case first =>
    by_cases h2 : 200 < da.size ∧ da.size ≠ 20001
    · have h3 : (200 : Int) < da.size := by omega
      have h4 : ((da.size : Int) != 20001) = true := by simp; omega
      clear h
      go_wp2_with fail
      go_meet
      case rel => exact ⟨rfl, rfl⟩
    · have h5 : (300 : Int) < s.size := by rcases h with h | h; exact absurd h h2; omega
      by_cases h3 : 200 < da.size
      · have h3' : (200 : Int) < da.size := by omega
        have h4 : ((da.size : Int) != 20001) = false := by simp; omega
        clear h h2
        go_wp2_with fail
        go_meet
        case rel => exact ⟨by first | rfl | (simp; done) | (simp; omega), rfl⟩
      · have h3' : (da.size : Int) ≤ 200 := by omega
        clear h h2
        go_wp2_with fail
        go_meet
        case rel => exact ⟨by first | rfl | (simp; done) | (simp; omega), rfl⟩
  case rest =>
    obtain ⟨rfl, rfl⟩ := hcut
    go_wp2
    go_ret
    exact ⟨rfl, Hb1.out⟩
theorem frt_walk (f : Fr) (s : ByteArray) (a : Nat → Addr) (w : World) (hS : Sents w a) (hP : FrameTell a) :
    Calls Tryd.prog 7 #[frV f, .string s] w fun r w' => r = .returned (.bool true) ∧ Below w.heap.size w w' := by
  by_cases h : (200 < f.data.size ∧ f.data.size ≠ 20001) ∨ 300 < s.size
  · exact frt_early f s a w hS hP h
  · exact frt_main f s a w hS hP (by omega) (by omega)
end Go.Proofs.YtlmampcdflbifadDoor
