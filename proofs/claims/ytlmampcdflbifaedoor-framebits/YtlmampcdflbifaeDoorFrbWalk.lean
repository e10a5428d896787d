/-
  The walk of the law FrameBits over the contracts.
-/
import Derived.Test.YtlmampcdflbifaeDoorJoin04
import Derived.Test.YtlmampcdflbifaeDoorJoin06
import Derived.Deep.DeepCutAuto
namespace Go.Proofs.YtlmampcdflbifaeDoor
open Go.RowKit
open Go.Frame (Fr frErr encF encOut rdOut rdF bodyF low4)

theorem encF_length (f : Fr) : (encF f).length ≤ 23 + f.data.size := by
  have h1 := Go.Num.enc_length_le f.epoch.toNat
  have h2 := Go.Num.enc_length_le f.seq.toNat
  have h3 := Go.Num.enc_length_le f.data.size
  simp only [encF, bodyF, List.length_append, List.length_cons, Go.Frame.low4_length]
  rw [lenL]
  omega
theorem xor_zero {a b : Nat} (h : a ^^^ b = 0) : a = b := by
  have : a ^^^ (a ^^^ b) = b := by rw [← Nat.xor_assoc, Nat.xor_self, Nat.zero_xor]
  rw [h, Nat.xor_zero] at this
  exact this
theorem rd_turned {f : Fr} {i : Nat} {d : UInt8} (hi : i < (encF f).length) (hd : (encF f)[i] ≠ d) : rdOut ((encF f).set i d) = (zeroF, 10) :=
  rdOut_err (Go.Frame.rdF_turned hi hd fun l j hj hne => (turned l j (l[j].toNat ^^^ d.toNat) d hj rfl
    (fun e => hne (UInt8.toNat_inj.1 (xor_zero e))) (Nat.xor_lt_two_pow (n := 8) (byte_lt _) (byte_lt _))).1)
set_option maxRecDepth 100000 in
theorem fr_neq_same (f : Fr) (w : World) : (binOp .neq 25 (frV f) (frV f)).run Tryd.prog w = .ok (.bool false) w := by
  have hf : Tryd.prog.fieldsOf 25 = (match Tryd.prog.underlying 25 with | some (.struct fs) => fs | _ => #[]) := rfl
  rw [Tryd.underlying25] at hf
  simp only at hf
  unfold frV
  generalize f.kind.toNat = k1
  generalize f.epoch = e1
  generalize f.seq = s1
  generalize f.data = d1
  rw [run_neq_struct, run_equalIn_struct _ _ _ _ _ (by rw [hf]; exact Tryd.underlying25) Tryd.frHeld, hf]
  simp only [Op.eqFields]
  go_simp
  try simp

set_option maxHeartbeats 2000000 in
set_option maxRecDepth 100000 in
theorem frb_main (f : Fr) (q : Int) (a : Nat → Addr) (w : World) (hS : Sents w a) (hP : FrameTell a) (hU : FrameSum a) (hd : f.data.size ≤ 200) (hq0 : 0 ≤ q) :
    Calls Tryd.prog 3 #[frV f, .int .i64 q] w fun r w' => r = .returned (.bool true) ∧ Below w.heap.size w w' := by
  have hba : Below w.heap.size w (w.alloc (.cells (frC f) 23)) := (Below.refl _ _).alloc (Nat.le_refl _) _
  have hfa : FrAt w.heap.size (w.alloc (.cells (frC f) 23)) f := FrAt.fresh w f _
  have HM := hide (framed_ok _ _ (hS.below hba) (fun _ _ h hb => h.below hb) hP.all)
  have HT := hide (fun W (h : Below w.heap.size w W) => hS.below h)
  have HN := hide (fun W (k : Sents W a) => hP.encode f W (by omega) k)
  have Hez : Hid (frErr f ≠ 0 → str (encOut f) = ⟨#[]⟩) := fun h => by unfold encOut; rw [if_neg h]; rfl
  have Hel : Hid (frErr f = 0 → (str (encOut f)).data.toList = encF f) := fun h => by rw [strL, encOut, if_pos h]
  have hen := encF_length f
  have Hrd : Hid (rdF (encF f) = .ok f ∨ frErr f ≠ 0) := by
    by_cases h : frErr f = 0
    · exact .inl (Go.Frame.rdF_enc h)
    · exact .inr h
  have HQ := hide (fun W => fr_neq_same f W)
  have Hrt : Hid (∀ i d (hi : i < (encF f).length), (encF f)[i] ≠ d → rdOut ((encF f).set i d) = (zeroF, 10)) := fun i d hi h => rd_turned hi h
  have HD := hide hP.decode
  have HU := hide hU
  have Hfa := hide hfa
  have Hba := hide hba
  have hd' : (f.data.size : Int) ≤ 200 := by omega
  have hel : (encF f).length ≤ 223 := by omega
  simp only [frC] at Hfa Hba HM
  generalize encF f = E at *
  generalize frErr f = e at *
  generalize str (encOut f) = T at *
  have Hrf : Hid (rdF E = .ok f → rdOut E = (f, 0)) := fun h => rdOut_ok h
  simp only [frV] at HN HQ ⊢
  obtain ⟨kd, ep, sq, da⟩ := f
  simp only at HN HQ Hfa Hba HM hd' ⊢
  clear hS hP hba hfa hU hen hd
  obtain ⟨c0, c1, c2', c3, _, _, _, _, _⟩ := Hfa.out
  simp only at c0 c1 c2' c3
  go_enter Tryd.func3, Tryd.ntmps3
  go_wp2_with fail
  refine HM.out.mono ?_
  rintro r w1 ⟨rfl, hb1⟩
  have hf1 := Hfa.out.below hb1 Hfa.out.lt
  have Hb1 := hide (bthen Hba.out hb1)
  clear hb1 HM c0 c1 c2' c3
  obtain ⟨c0, c1, c2', c3, _, _, _, _, _⟩ := hf1
  simp only at c0 c1 c2' c3
  have hba2 : Below w1.heap.size w1 (w1.alloc (.cells #[.int .u8 kd.toNat, .int .i64 ep, .int .i64 sq, .string da] 25)) := (Below.refl _ _).alloc (Nat.le_refl _) _
  have Hx2 : Hid (FrAt w1.heap.size (w1.alloc (.cells #[.int .u8 kd.toNat, .int .i64 ep, .int .i64 sq, .string da] 25)) ⟨kd, ep, sq, da⟩) := FrAt.fresh w1 ⟨kd, ep, sq, da⟩ _
  have Hb2 := hide (bthen Hb1.out hba2)
  have hge : w.heap.size ≤ w1.heap.size := Hb1.out.size
  clear hba2
  go_wp2_with fail
  refine (HN.out _ (HT.out _ Hb2.out)).mono ?_
  rintro r w3 ⟨⟨x3, rfl, hn3, _⟩, hb3⟩
  have Hx3 := hide (Hx2.out.below hb3 Hx2.out.lt)
  have Hb3 := hide (bthen Hb2.out hb3)
  have Hn3 := hide hn3
  clear hb3 hn3 Hx2 Hb2 c0 c1 c2' c3 HN
  by_cases he : e = 0
  · obtain rfl := Hn3.out.none he
    have hTL := Hel.out he
    have hrd := Hrf.out (Hrd.out.resolve_right (fun h => h he))
    have hts : T.size = E.length := by rw [← hTL, lenL]
    have HD1 := hide (fun W (k : Sents W a) => HD.out T W (by omega) k)
    rw [hTL, hrd] at HD1
    simp only [frV] at HD1
    go_wp2_with fail
    refine (HD1.out _ (HT.out _ Hb3.out)).mono ?_
    rintro r w4 ⟨⟨x4, rfl, hn4, _⟩, hb4⟩
    obtain rfl := hn4.none rfl
    have hba5 : Below w4.heap.size w4 (w4.alloc (.cells #[.int .u8 kd.toNat, .int .i64 ep, .int .i64 sq, .string da] 25)) := (Below.refl _ _).alloc (Nat.le_refl _) _
    have Hy5 : Hid (FrAt w4.heap.size (w4.alloc (.cells #[.int .u8 kd.toNat, .int .i64 ep, .int .i64 sq, .string da] 25)) ⟨kd, ep, sq, da⟩) := FrAt.fresh w4 ⟨kd, ep, sq, da⟩ _
    have hx5 := (Hx3.out.below hb4 Hx3.out.lt).below hba5 (Nat.lt_of_lt_of_le Hx3.out.lt hb4.size)
    have Hb5 := hide (bthen Hb3.out (bthen hb4 hba5))
    have hge4 : w.heap.size ≤ w4.heap.size := (bthen Hb3.out hb4).size
    clear hb4 hn4 hba5 HD1 Hx3 Hb3 Hn3 Hrd Hrf hrd Hez Hel
    obtain ⟨p0, p1, p2, p3, _, _, _, _, _⟩ := hx5
    simp only at p0 p1 p2 p3
    have hqn := HQ.out
    go_upto_region 9 with fail
    go_cut [54] (fun v54 wc => v54 = .bool false ∧ wc = w4.alloc (.cells #[.int .u8 kd.toNat, .int .i64 ep, .int .i64 sq, .string da] 25))
    case first =>
      go_wp2_with fail
      go_meet
      case rel => exact ⟨rfl, rfl⟩
    case rest =>
      obtain ⟨rfl, hwc⟩ := hcut
      have Hy6 : Hid (FrAt w4.heap.size wc ⟨kd, ep, sq, da⟩) := by rw [hwc]; exact Hy5
      have Hb6 : Hid (Below w.heap.size w wc) := by rw [hwc]; exact Hb5
      clear hwc Hy5 Hb5 p0 p1 p2 p3 hqn HQ
      have hT3 : (T.size : Int) ≤ 223 := by omega
      by_cases h8 : q < 8 * T.size
      · obtain ⟨i, j, hi, hj, hq⟩ : ∃ i j : Nat, i < T.size ∧ j < 8 ∧ q = 8 * i + j := ⟨q.toNat / 8, q.toNat % 8, by omega, by omega, by omega⟩
        have hi' : (i : Int) < T.size := by omega
        have hdiv : q / 8 = (i : Int) := by omega
        have hmod : q % 8 = (j : Int) := by omega
        have hq2 : q < 2400 := by omega
        have hpw : 2 ^ j < 2 ^ 8 := Nat.pow_lt_pow_right (by omega) hj
        have hp0 : 2 ^ j ≠ 0 := Nat.pos_iff_ne_zero.1 (Nat.two_pow_pos j)
        have hp : (2 : Int) ^ j % 256 = ((2 ^ j : Nat) : Int) := by
          rw [show (2 : Int) ^ j = ((2 ^ j : Nat) : Int) by push_cast; rfl]
          generalize 2 ^ j = y at *
          omega
        generalize 2 ^ j = y at *
        have hb := byte_lt T[i]
        have hxy : T[i].toNat ^^^ y < 2 ^ 8 := Nat.xor_lt_two_pow (by omega) (by omega)
        have hxe : bits .xor .u8 (T[i].toNat : Int) (y : Int) = ((T[i].toNat ^^^ y : Nat) : Int) := u8_xor_nat _ _ hb (by omega)
        obtain ⟨d, hd⟩ : ∃ d : UInt8, d.toNat = T[i].toNat ^^^ y := ⟨UInt8.ofNat (T[i].toNat ^^^ y), by rw [UInt8.toNat_ofNat']; exact Nat.mod_eq_of_lt hxy⟩
        rw [← hd] at hxe
        have hne : T[i] ≠ d := by
          intro e
          rw [e] at hd
          have h2 : d.toNat ^^^ (d.toNat ^^^ y) = y := by rw [← Nat.xor_assoc, Nat.xor_self, Nat.zero_xor]
          rw [← hd, Nat.xor_self] at h2
          exact hp0 h2.symm
        have hrt := Hrt.out i d (by omega) (by
          have h1 : T.data.toList[i]'(by rw [lenL]; exact hi) = T[i] := (atL T i hi).symm
          intro e
          apply hne
          rw [← h1, ← e]
          congr 1)
        rw [← hTL] at hrt
        have hll : (T.data.toList.set i d).length = T.size := by rw [List.length_set, lenL]
        have HU1 := hide (fun W (k : Sents W a) => HU.out (str (T.data.toList.set i d)) W (by rw [str_len, hll]; omega) k (by rw [strL, hrt]))
        have HBK := hide (fun W1 g cap h => bytes_back W1 g cap i T d hi h)
        generalize str (T.data.toList.set i d) = t at *
        simp only [frV, zeroF] at HU1
        rw [show ((0 : UInt8).toNat : Int) = 0 from rfl] at HU1
        obtain ⟨cap, W1, hcv, hbW, hcells⟩ := bytes_of wc T
        have hbS : Below wc.heap.size wc (W1.setCell ⟨wc.heap.size, i, none⟩ (.int .u8 (d.toNat : Nat))) := hbW.setCell (by simp) _
        have HbS := hide (bthen Hb6.out hbS)
        have Hy7 := hide (Hy6.out.below hbS Hy6.out.lt)
        have hcb := HBK.out W1 wc.heap.size cap (fun j hj => (hcells j hj).1)
        obtain ⟨hcell, hfz⟩ := hcells i hi
        clear hcells hbW hbS HBK hrt hne hd hxy hp0 hq Hrt HU HD Hb6 Hy6 hTL hll hts hel
        go_wp2_with fail
        clear hcb hcv hcell hfz
        generalize W1.setCell ⟨wc.heap.size, i, none⟩ (.int .u8 (d.toNat : Nat)) = W2 at *
        refine (HU1.out _ (HT.out _ HbS.out)).mono ?_
        rintro r w6 ⟨rfl, hb6⟩
        have hy6 := Hy7.out.below hb6 Hy7.out.lt
        have Hy8 := hide (hy6.set zeroF)
        have Hb8 := hide (((((bthen HbS.out hb6).setCell (p := ⟨w4.heap.size, 0, none⟩) hge4 (.int .u8 zeroF.kind.toNat)).setCell (p := ⟨w4.heap.size, 1, none⟩) hge4 (.int .i64 zeroF.epoch)).setCell (p := ⟨w4.heap.size, 2, none⟩) hge4 (.int .i64 zeroF.seq)).setCell (p := ⟨w4.heap.size, 3, none⟩) hge4 (.string zeroF.data))
        simp only [zeroF] at Hy8 Hb8
        rw [show ((0 : UInt8).toNat : Int) = 0 from rfl] at Hy8 Hb8
        obtain ⟨c0, c1, c2', c3, f0, f1, f2, f3, _⟩ := hy6
        simp only at c0 c1 c2' c3
        have HC := hide (codes_bare _ a (HT.out _ Hb8.out) 9 (by decide) _ (Below.refl _ _))
        clear hb6 Hy7 HbS HU1
        go_wp2_with fail
        clear c0 c1 c2' c3 f0 f1 f2 f3
        refine HC.out.mono ?_
        rintro r w7 ⟨rfl, hb7⟩
        have hy9 := Hy8.out.below hb7 Hy8.out.lt
        have Hb9 := hide (bthen Hb8.out hb7)
        clear hb7 HC Hb8 Hy8
        obtain ⟨c0, c1, c2', c3, _, _, _, _, _⟩ := hy9
        simp only at c0 c1 c2' c3
        have hqz := fun W => fr_eql zeroF zeroF W
        simp only [frV, zeroF, decide_true] at hqz
        rw [show ((0 : UInt8).toNat : Int) = 0 from rfl] at hqz c0
        go_wp2
        go_ret
        exact ⟨rfl, Hb9.out⟩
      · have h8' : 8 * (T.size : Int) ≤ q := by omega
        clear h8
        go_wp2
        go_ret
        exact ⟨rfl, Hb6.out⟩
  · obtain ⟨t3, y3, rfl⟩ := Hn3.out.some he
    obtain rfl := Hez.out he
    go_wp2
    go_ret
    exact ⟨rfl, Hb3.out⟩
set_option maxHeartbeats 1000000 in
set_option maxRecDepth 100000 in
theorem frb_early (f : Fr) (q : Int) (a : Nat → Addr) (w : World) (hS : Sents w a) (hP : FrameTell a) (h : 200 < f.data.size ∨ q < 0) :
    Calls Tryd.prog 3 #[frV f, .int .i64 q] w fun r w' => r = .returned (.bool true) ∧ Below w.heap.size w w' := by
  have hba : Below w.heap.size w (w.alloc (.cells (frC f) 23)) := (Below.refl _ _).alloc (Nat.le_refl _) _
  have hfa : FrAt w.heap.size (w.alloc (.cells (frC f) 23)) f := FrAt.fresh w f _
  have HM := hide (framed_ok _ _ (hS.below hba) (fun _ _ h hb => h.below hb) hP.all)
  have Hfa := hide hfa
  have Hba := hide hba
  simp only [frC] at Hfa Hba HM
  simp only [frV]
  obtain ⟨kd, ep, sq, da⟩ := f
  simp only at Hfa Hba HM h ⊢
  clear hS hP hba hfa
  go_enter Tryd.func3, Tryd.ntmps3
  go_wp2_with fail
  refine HM.out.mono ?_
  rintro r w1 ⟨rfl, hb1⟩
  have hf1 := Hfa.out.below hb1 Hfa.out.lt
  have Hb1 := hide (bthen Hba.out hb1)
  clear hb1 HM
  obtain ⟨c0, c1, c2', c3, _, _, _, _, _⟩ := hf1
  simp only at c0 c1 c2' c3
  by_cases h1 : 200 < da.size
  · have h1' : (200 : Int) < da.size := by omega
    clear h
    go_wp2
    go_ret
    exact ⟨rfl, Hb1.out⟩
  · have h1' : (da.size : Int) ≤ 200 := by omega
    have h2 : q < 0 := by omega
    clear h h1
    go_wp2
    go_ret
    exact ⟨rfl, Hb1.out⟩
/-- FrameBits, whole. -/
theorem frb_walk (f : Fr) (q : Int) (a : Nat → Addr) (w : World) (hS : Sents w a) (hP : FrameTell a) (hU : FrameSum a) :
    Calls Tryd.prog 3 #[frV f, .int .i64 q] w fun r w' => r = .returned (.bool true) ∧ Below w.heap.size w w' := by
  by_cases h : 200 < f.data.size ∨ q < 0
  · exact frb_early f q a w hS hP h
  · exact frb_main f q a w hS hP hU (by omega) (by omega)
end Go.Proofs.YtlmampcdflbifaeDoor
