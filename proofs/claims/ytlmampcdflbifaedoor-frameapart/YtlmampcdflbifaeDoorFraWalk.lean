/-
  The walk of the law FrameApart over the contracts.
-/
import Derived.Test.YtlmampcdflbifaeDoorJoin02
import Derived.Test.YtlmampcdflbifaeDoorJoin03
import Derived.Test.YtlmampcdflbifaeDoorJoin04
import Derived.Deep.DeepCutAuto
namespace Go.Proofs.YtlmampcdflbifaeDoor
open Go.RowKit
open Go.Frame (Fr frErr encF encOut rdOut rdF)

theorem str_inj {a b : List UInt8} (h : str a = str b) : a = b := by
  have := congrArg (fun x : ByteArray => x.data.toList) h
  simpa only [strL] using this
theorem enc_same {f g : Fr} (hf : frErr f = 0) (hg : frErr g = 0) : ((str (encOut f)).toList == (str (encOut g)).toList) = decide (f = g) := by
  rw [eqb_list, strL, strL, encOut, encOut, if_pos hf, if_pos hg]
  simp only [Go.Frame.encF_inj hf hg]

theorem num_pos {s : List UInt8} {c : Nat} (h : Go.Sign.num s = .error c) : c ≠ 0 := by
  unfold Go.Sign.num at h
  split at h
  · cases h
  · rename_i e hd
    cases h
    have := dec_err _ _ hd
    omega
theorem txt_pos {s : List UInt8} {c : Nat} (h : Go.Delta.txt s = .error c) : c ≠ 0 := by
  unfold Go.Delta.txt at h
  split at h
  · rename_i e hd
    cases h
    exact num_pos hd
  · split at h
    · cases h; decide
    · split at h
      · cases h; decide
      · cases h
theorem rdB_pos {s : List UInt8} {c : Nat} (h : Go.Frame.rdB s = .error c) : c ≠ 0 := by
  unfold Go.Frame.rdB at h
  split at h
  · cases h; decide
  · split at h
    · rename_i e hd
      cases h
      exact num_pos hd
    · split at h
      · rename_i e hd
        cases h
        exact num_pos hd
      · split at h
        · rename_i e hd
          cases h
          exact txt_pos hd
        · split at h
          · split at h
            · cases h
            · rename_i hne
              cases h
              exact hne
          · cases h; decide
theorem rdF_pos {s : List UInt8} {c : Nat} (h : rdF s = .error c) : c ≠ 0 := by
  unfold rdF at h
  split at h
  · cases h; decide
  · split at h
    · exact rdB_pos h
    · cases h; decide
set_option maxHeartbeats 1000000 in
set_option maxRecDepth 100000 in
theorem fra_main (f g : Fr) (s : ByteArray) (Env : World → Prop) (w : World) (hS : Env w) (hEB : ∀ w w', Env w → Below w.heap.size w w' → Env w') (hA : FrameAll Env) (hf : f.data.size ≤ 100) (hg : g.data.size ≤ 100) (hs : s.size ≤ 300) :
    Calls Tryd.prog 4 #[frV f, frV g, .string s] w fun r w' => r = .returned (.bool true) ∧ Below w.heap.size w w' := by
  have hba : Below w.heap.size w ((w.alloc (.cells (frC f) 23)).alloc (.cells (frC g) 23)) := bthen ((Below.refl _ _).alloc (Nat.le_refl _) _) ((Below.refl _ _).alloc (Nat.le_refl _) _)
  have hfa : FrAt w.heap.size ((w.alloc (.cells (frC f) 23)).alloc (.cells (frC g) 23)) f := (FrAt.fresh w f _).below ((Below.refl _ _).alloc (Nat.le_refl _) _) (by simp)
  have hga : FrAt (w.heap.size + 1) ((w.alloc (.cells (frC f) 23)).alloc (.cells (frC g) 23)) g := by simpa using FrAt.fresh (w.alloc (.cells (frC f) 23)) g 23
  have HM := hide (framed_ok Env _ (hEB _ _ hS hba) hEB hA)
  have HT := hide (fun W (h : Below w.heap.size w W) => hEB _ _ hS h)
  have HN := hide (fun W (k : Env W) => hA.encode f W (by omega) k)
  have HN2 := hide (fun W (k : Env W) => hA.encode g W (by omega) k)
  have HD := hide (fun W (k : Env W) => hA.decode s W (by omega) k)
  have HQ := hide (fun W => fr_eql f g W)
  have Hse : Hid (frErr f = 0 → frErr g = 0 → ((str (encOut f)).toList == (str (encOut g)).toList) = decide (f = g)) := fun h1 h2 => enc_same h1 h2
  have Hfa := hide hfa
  have Hga := hide hga
  have Hba := hide hba
  have hs' : (s.size : Int) ≤ 300 := by omega
  have hf' : (f.data.size : Int) ≤ 100 := by omega
  have hg' : (g.data.size : Int) ≤ 100 := by omega
  have Hrd : Hid (((rdOut s.data.toList).2 ≠ 0 ∧ (rdOut s.data.toList).1 = zeroF) ∨ (∃ h, rdOut s.data.toList = (h, 0) ∧ frErr h = 0 ∧ h.data.size ≤ 1000000 ∧ str (encOut h) = s)) := by
    cases h : rdF s.data.toList with
    | error c => exact .inl ⟨by rw [rdOut_err h]; exact rdF_pos h, by rw [rdOut_err h]⟩
    | ok h' =>
      have hc := Go.Frame.rdF_canon h
      refine .inr ⟨h', rdOut_ok h, hc.2, by have := (Go.Frame.frErr_zero hc.2).2.2.2; omega, ?_⟩
      rw [encOut, if_pos hc.2, ← hc.1]
      rfl
  have HA := hide hA
  simp only [frC] at Hfa Hga Hba HM
  simp only [frV] at HN HN2 HD HQ ⊢
  obtain ⟨kd, ep, sq, da⟩ := f
  obtain ⟨kd', ep', sq', da'⟩ := g
  simp only at HN HN2 HQ Hfa Hga Hba HM hf' hg' ⊢
  generalize frErr ⟨kd, ep, sq, da⟩ = e at *
  generalize frErr ⟨kd', ep', sq', da'⟩ = e' at *
  generalize str (encOut ⟨kd, ep, sq, da⟩) = T at *
  generalize str (encOut ⟨kd', ep', sq', da'⟩) = T' at *
  generalize decide ((⟨kd, ep, sq, da⟩ : Fr) = ⟨kd', ep', sq', da'⟩) = same at *
  clear hS hba hfa hga hEB hA hf hg hs
  obtain ⟨c0, c1, c2', c3, _, _, _, _, _⟩ := Hfa.out
  obtain ⟨d0, d1, d2', d3, _, _, _, _, _⟩ := Hga.out
  simp only at c0 c1 c2' c3 d0 d1 d2' d3
  go_enter Tryd.func4, Tryd.ntmps4
  go_wp2_with fail
  refine HM.out.mono ?_
  rintro r w1 ⟨rfl, hb1⟩
  have hf1 := Hfa.out.below hb1 Hfa.out.lt
  have hg1 := Hga.out.below hb1 Hga.out.lt
  have Hb1 := hide (bthen Hba.out hb1)
  have Hf1 := hide hf1
  have Hg1 := hide hg1
  clear hb1 HM c0 c1 c2' c3 d0 d1 d2' d3
  obtain ⟨c0, c1, c2', c3, _, _, _, _, _⟩ := hf1
  obtain ⟨d0, d1, d2', d3, _, _, _, _, _⟩ := hg1
  simp only at c0 c1 c2' c3 d0 d1 d2' d3
  go_upto_region 4 with fail
  have hba2 : Below w1.heap.size w1 (w1.alloc (.cells #[.int .u8 kd.toNat, .int .i64 ep, .int .i64 sq, .string da] 25)) := (Below.refl _ _).alloc (Nat.le_refl _) _
  have hg2 := Hg1.out.below hba2 Hg1.out.lt
  have Hx2 : Hid (FrAt w1.heap.size (w1.alloc (.cells #[.int .u8 kd.toNat, .int .i64 ep, .int .i64 sq, .string da] 25)) ⟨kd, ep, sq, da⟩) := FrAt.fresh w1 ⟨kd, ep, sq, da⟩ _
  clear d0 d1 d2' d3
  obtain ⟨d0, d1, d2', d3, _, _, _, _, _⟩ := hg2
  simp only at d0 d1 d2' d3
  have hba3 : Below w1.heap.size w1 ((w1.alloc (.cells #[.int .u8 kd.toNat, .int .i64 ep, .int .i64 sq, .string da] 25)).alloc (.cells #[.int .u8 kd'.toNat, .int .i64 ep', .int .i64 sq', .string da'] 25)) := bthen hba2 ((Below.refl _ _).alloc (Nat.le_refl _) _)
  have hx3 := Hx2.out.below ((Below.refl _ _).alloc (Nat.le_refl _) (.cells #[.int .u8 kd'.toNat, .int .i64 ep', .int .i64 sq', .string da'] 25)) Hx2.out.lt
  have Hy3 : Hid (FrAt (w1.heap.size + 1) ((w1.alloc (.cells #[.int .u8 kd.toNat, .int .i64 ep, .int .i64 sq, .string da] 25)).alloc (.cells #[.int .u8 kd'.toNat, .int .i64 ep', .int .i64 sq', .string da'] 25)) ⟨kd', ep', sq', da'⟩) := by
    unfold Hid
    simpa using FrAt.fresh (w1.alloc (.cells #[.int .u8 kd.toNat, .int .i64 ep, .int .i64 sq, .string da] 25)) ⟨kd', ep', sq', da'⟩ 25
  have Hx3 := hide hx3
  have Hb3 := hide (bthen Hb1.out hba3)
  obtain ⟨p0, p1, p2, p3, _, _, _, _, _⟩ := hx3
  simp only at p0 p1 p2 p3
  clear hba2 hba3 Hx2
  go_wp2_with fail
  refine (HN.out _ (HT.out _ Hb3.out)).mono ?_
  rintro r w4 ⟨⟨x4, rfl, hn4⟩, hb4⟩
  have Hx4 := hide (Hx3.out.below hb4 Hx3.out.lt)
  have hy4 := Hy3.out.below hb4 Hy3.out.lt
  have Hy4 := hide hy4
  have Hb4 := hide (bthen Hb3.out hb4)
  have Hn4 := hide hn4
  clear p0 p1 p2 p3 hn4 hb4 Hx3 Hy3 Hb3 c0 c1 c2' c3 d0 d1 d2' d3 HN
  obtain ⟨p0, p1, p2, p3, _, _, _, _, _⟩ := hy4
  simp only at p0 p1 p2 p3
  go_wp2_with fail
  refine (HN2.out _ (HT.out _ Hb4.out)).mono ?_
  rintro r w5 ⟨⟨x5, rfl, hn5⟩, hb5⟩
  have hx5 := Hx4.out.below hb5 Hx4.out.lt
  have hy5 := Hy4.out.below hb5 Hy4.out.lt
  have Hb5 := hide (bthen Hb4.out hb5)
  have Hn5 := hide hn5
  clear p0 p1 p2 p3 hn5 hb5 Hx4 Hy4 HN2
  obtain ⟨p0, p1, p2, p3, _, _, _, _, _⟩ := hx5
  obtain ⟨q0, q1, q2, q3, _, _, _, _, _⟩ := hy5
  simp only at p0 p1 p2 p3 q0 q1 q2 q3
  go_upto_region 8 with fail
  go_cut [80] (fun v80 wc => v80 = .bool false ∧ wc = w5)
  case first =>
    by_cases he : e = 0
    · obtain rfl := Hn4.out.none he
      by_cases he' : e' = 0
      · obtain rfl := Hn5.out.none he'
        have hse := Hse.out he he'
        have hq := HQ.out
        go_wp2_with fail
        go_meet
        case rel => exact ⟨by simp, rfl⟩
      · obtain ⟨t5, y5, rfl⟩ := Hn5.out.some he'
        go_wp2_with fail
        go_meet
        case rel => exact ⟨rfl, rfl⟩
    · obtain ⟨t4, y4, rfl⟩ := Hn4.out.some he
      go_wp2_with fail
      go_meet
      case rel => exact ⟨rfl, rfl⟩
  case rest =>
    obtain ⟨rfl, rfl⟩ := hcut
    clear p0 p1 p2 p3 q0 q1 q2 q3 Hn4 Hn5 Hse HQ
    go_wp2_with fail
    refine (HD.out _ (HT.out _ Hb5.out)).mono ?_
    rintro r w6 ⟨⟨x6, rfl, hn6⟩, hb6⟩
    have Hn6 := hide hn6
    have Hb6 := hide (bthen Hb5.out hb6)
    clear hn6 hb6
    rcases Hrd.out with ⟨hr1, hr2⟩ | ⟨h, hr1, hr2, hr3, hr4⟩
    · obtain ⟨t6, y6, rfl⟩ := Hn6.out.some hr1
      have hq := fun W => fr_eql zeroF zeroF W
      rw [hr2]
      simp only [frV, zeroF, decide_true] at hq ⊢
      rw [show ((0 : UInt8).toNat : Int) = 0 from rfl] at hq ⊢
      have Hb7 := hide (bthen Hb6.out ((Below.refl _ _).alloc (Nat.le_refl _) (.cells #[.int .u8 0, .int .i64 0, .int .i64 0, .string ⟨#[]⟩] 25)))
      clear Hrd HD Hn6 hr1 hr2
      go_wp2
      go_ret
      exact ⟨rfl, Hb7.out⟩
    · rw [hr1] at Hn6 ⊢
      obtain rfl := Hn6.out.none rfl
      have HN := hide (fun W (k : Env W) => HA.out.encode h W hr3 k)
      rw [hr2, hr4] at HN
      obtain ⟨kh, eh, sh, dh⟩ := h
      simp only [frV] at HN ⊢
      have hba7 : Below w6.heap.size w6 (w6.alloc (.cells #[.int .u8 kh.toNat, .int .i64 eh, .int .i64 sh, .string dh] 25)) := (Below.refl _ _).alloc (Nat.le_refl _) _
      have Hb7 := hide (bthen Hb6.out hba7)
      clear Hrd HD Hn6 hr1 hr2 hr3 hr4 hba7 HA
      go_wp2_with fail
      refine (HN.out _ (HT.out _ Hb7.out)).mono ?_
      rintro r w8 ⟨⟨x8, rfl, hn8⟩, hb8⟩
      obtain rfl := hn8.none rfl
      have Hb8 := hide (bthen Hb7.out hb8)
      clear hn8 hb8 HN
      go_wp2
      go_ret
      exact ⟨by simp, Hb8.out⟩
set_option maxHeartbeats 1000000 in
set_option maxRecDepth 100000 in
theorem fra_early (f g : Fr) (s : ByteArray) (Env : World → Prop) (w : World) (hS : Env w) (hEB : ∀ w w', Env w → Below w.heap.size w w' → Env w') (hA : FrameAll Env) (h : 100 < f.data.size ∨ 100 < g.data.size ∨ 300 < s.size) :
    Calls Tryd.prog 4 #[frV f, frV g, .string s] w fun r w' => r = .returned (.bool true) ∧ Below w.heap.size w w' := by
  have hba : Below w.heap.size w ((w.alloc (.cells (frC f) 23)).alloc (.cells (frC g) 23)) := bthen ((Below.refl _ _).alloc (Nat.le_refl _) _) ((Below.refl _ _).alloc (Nat.le_refl _) _)
  have hfa : FrAt w.heap.size ((w.alloc (.cells (frC f) 23)).alloc (.cells (frC g) 23)) f := (FrAt.fresh w f _).below ((Below.refl _ _).alloc (Nat.le_refl _) _) (by simp)
  have hga : FrAt (w.heap.size + 1) ((w.alloc (.cells (frC f) 23)).alloc (.cells (frC g) 23)) g := by simpa using FrAt.fresh (w.alloc (.cells (frC f) 23)) g 23
  have HM := hide (framed_ok Env _ (hEB _ _ hS hba) hEB hA)
  have Hfa := hide hfa
  have Hga := hide hga
  have Hba := hide hba
  simp only [frC] at Hfa Hga Hba HM
  simp only [frV]
  obtain ⟨kd, ep, sq, da⟩ := f
  obtain ⟨kd', ep', sq', da'⟩ := g
  simp only at Hfa Hga Hba HM h ⊢
  clear hS hba hfa hga hEB hA
  go_enter Tryd.func4, Tryd.ntmps4
  go_wp2_with fail
  refine HM.out.mono ?_
  rintro r w1 ⟨rfl, hb1⟩
  have hf1 := Hfa.out.below hb1 Hfa.out.lt
  have hg1 := Hga.out.below hb1 Hga.out.lt
  have Hb1 := hide (bthen Hba.out hb1)
  clear hb1 HM
  obtain ⟨c0, c1, c2', c3, _, _, _, _, _⟩ := hf1
  obtain ⟨d0, d1, d2', d3, _, _, _, _, _⟩ := hg1
  simp only at c0 c1 c2' c3 d0 d1 d2' d3
  go_upto_region 2 with fail
  go_cut [36] (fun v36 wc => v36 = .bool true ∧ wc = w1)
  case first =>
    by_cases h1 : 100 < da.size
    · have h1' : (100 : Int) < da.size := by omega
      clear h
      go_wp2_with fail
      go_meet
      case rel => exact ⟨rfl, rfl⟩
    · have h1' : (da.size : Int) ≤ 100 := by omega
      by_cases h2 : 100 < da'.size
      · have h2' : (100 : Int) < da'.size := by omega
        clear h h1
        go_wp2_with fail
        go_meet
        case rel => exact ⟨by first | rfl | (simp; done) | (simp; omega), rfl⟩
      · have h2' : (da'.size : Int) ≤ 100 := by omega
        have h3 : (300 : Int) < s.size := by omega
        clear h h1 h2
        go_wp2_with fail
        go_meet
        case rel => exact ⟨by first | rfl | (simp; done) | (simp; omega), rfl⟩
  case rest =>
    obtain ⟨rfl, rfl⟩ := hcut
    go_wp2
    go_ret
    exact ⟨rfl, Hb1.out⟩
/-- FrameApart, whole. -/
theorem fra_walk (f g : Fr) (s : ByteArray) (Env : World → Prop) (w : World) (hS : Env w) (hEB : ∀ w w', Env w → Below w.heap.size w w' → Env w') (hA : FrameAll Env) :
    Calls Tryd.prog 4 #[frV f, frV g, .string s] w fun r w' => r = .returned (.bool true) ∧ Below w.heap.size w w' := by
  by_cases h : 100 < f.data.size ∨ 100 < g.data.size ∨ 300 < s.size
  · exact fra_early f g s Env w hS hEB hA h
  · exact fra_main f g s Env w hS hEB hA (by omega) (by omega) (by omega)
end Go.Proofs.YtlmampcdflbifaeDoor
