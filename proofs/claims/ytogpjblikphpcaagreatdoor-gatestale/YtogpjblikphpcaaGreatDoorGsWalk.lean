/-
  The walk of the law GateStale over the contracts.
-/
import Derived.Test.YtogpjblikphpcaaGreatDoorGtLaw
import Derived.Test.YtogpjblikphpcaaGreatDoorRowVal
namespace Go.Proofs.YtogpjblikphpcaaGreatDoor
open Go.RowKit
open Go.Gate

set_option maxHeartbeats 1000000 in
set_option maxRecDepth 100000 in
theorem gstale_main (a : Nat → Addr) (en : TypeId × Value) (ta : Option Addr) (tc : Nat) (T : List ByteArray) (w : World) (hE : GtEnv a en w)
    (hT : Row1 strV w (.slice ta T.length tc) T) (hl : T.length ≤ 60) :
    Calls Tryz.prog 3 #[.slice ta T.length tc] w fun r w' => r = .returned (.bool true) ∧ Below w.heap.size w w' := by
  have HE := hide (fun W (k : Below w.heap.size w W) => hE.below k)
  have HE0 := hide hE
  have HT := hide (fun W (k : Below w.heap.size w W) => hT.below k)
  have HM := hide (gated_ok a en w hE)
  have HN := hide (fun W => newGate_ok W)
  have hl' : (T.length : Int) ≤ 60 := by omega
  clear hE hT
  go_enter Tryz.func3, Tryz.ntmps3
  go_wp2_with fail
  refine HM.out.mono ?_
  rintro r w1 ⟨rfl, hb1⟩
  have HS := hide ((Sep.start w).keep hb1)
  clear hb1 HM
  go_wp2_with fail
  refine (Sep.call (L0 := []) HS.out (HN.out _)).mono ?_
  rintro r w2 ⟨_, ⟨v0, rfl, rfl⟩, hs2⟩
  have HS2 := hide hs2
  clear hs2 HS HN
  go_wp2_with fail
  go_loopw [4, 5] (fun t4 t5 wr => ∃ (i : Nat) (v : Addr) (g : Toks) (L : List Fam), t4 = .pointer (some v) ∧ t5 = .int .i64 i ∧ i ≤ T.length ∧ Hid (Fit g) ∧ Hid (Sep Foot.none w (GtO (.pointer (some v)) g :: L) wr)) (fun _ t5 _ => T.length - (intOf t5).toNat)
  case atStart => exact ⟨0, v0, [], _, rfl, rfl, Nat.zero_le _, Fit.nil, HS2.out⟩
  case round =>
    clear HS2
    obtain ⟨i, v, g, L, rfl, rfl, hi, Hg, Hs⟩ := hrel
    by_cases hlt : i < T.length
    · have hlt' : (i : Int) < T.length := by omega
      have HTc : Hid (∃ tb o, ta = some ⟨tb, o, none⟩ ∧ ∀ W, Below w.heap.size w W → W.cell? ⟨tb, o + i, none⟩ = some (.string T[i])) := by
        obtain ⟨_, _, e, hrow⟩ := HT.out w (Below.refl _ _)
        cases e
        obtain ⟨tb, o, rfl, hc⟩ := hrow (by omega)
        exact ⟨tb, o, rfl, fun W k => (k.cell (World.block_lt_of_cell? _ _ (hc i hlt))).trans (hc i hlt)⟩
      obtain ⟨tb, o, rfl, htc⟩ := HTc.out
      have HTd := hide htc
      clear HTc htc
      generalize T[i] = d at *
      have Hlt := hide hlt
      clear hlt
      have c0 := HTd.out _ Hs.out.below
      by_cases hd : 30 < d.size
      · have hd' : (30 : Int) < d.size := by omega
        have Hb := hide Hs.out.below
        clear Hs Hg hd
        go_wp2_with fail
        go_ret
        exact ⟨rfl, Hb.out⟩
      · have hd' : (d.size : Int) ≤ 30 := by omega
        have hdm : d.size ≤ 1000000 := by omega
        have HL := hide (last_pure Hs.out d hdm)
        have HO := hide (openG_ok a (.pointer (some v)) g d wr Hg.out hdm (HE.out _ Hs.out.below).sents)
        have hbd := last_bound Hg.out d
        have hwr : IntKind.i64.wrap (lastT g d + 1) = lastT g d + 1 := iwrap_id _ (by omega) (by omega)
        cases ho : openE g d with
        | succ k =>
          have hsame := open_not (l := g) (t := d) (by omega)
          rw [ho, hsame] at HO
          simp only [errA] at HO
          have HL2 := hide (fun W (k : Sep Foot.none w (GtO (.pointer (some v)) g :: L) W) => last_pure k d hdm)
          clear hsame ho hd hdm hwr
          generalize openN g d = nn at *
          generalize lastT g d = la at *
          go_wp2_with fail
          refine HL.out.mono ?_
          rintro r w3 ⟨rfl, rfl⟩
          clear HL
          go_wp2_with fail
          refine (Sep.call (L0 := [_]) Hs.out HO.out).mono ?_
          rintro r w4 ⟨_, ⟨rfl, rfl⟩, hs4⟩
          have HS4 := hide hs4
          have c4 := HTd.out _ hs4.below
          clear hs4 HO c0 Hs
          go_wp2_with fail
          refine (HL2.out _ HS4.out).mono ?_
          rintro r w5 ⟨rfl, rfl⟩
          clear HL2
          go_wp2_with fail
          go_roundw
          case rel => exact ⟨i + 1, v, g, L, rfl, by simp, Hlt.out, Hg.out, HS4.out⟩
          case measure => have := Hlt.out; simp [intOf]; omega
        | zero =>
          obtain ⟨hn, hla, had, hst⟩ := open_last Hg.out ho
          have hfit := Hg.out.open d
          rw [ho, hn] at HO
          simp only [errA] at HO
          have HA1 := hide (fun W (k : GtEnv a en W) => admitG_ok a (.pointer (some v)) (openT g d) d (lastT g d + 1) W hdm k.sents)
          have HA2 := hide (fun W (k : GtEnv a en W) => admitG_ok a (.pointer (some v)) (openT g d) d (lastT g d) W hdm k.sents)
          have HTx := hide (fun (u : Value) (L' : List Fam) W (k : Sep Foot.none w (GtO u (openT g d) :: L') W) => textG_ok HE0.out k hfit)
          have hlen : (str (textB (openT g d))).size ≤ 100000 := by
            rw [str_len]
            have h1 := textB_len hfit.ok
            have h2 := hfit.len
            omega
          have HRd := hide (fun (L' : List Fam) W (k : Sep Foot.none w L' W) => show Calls Tryz.prog 12 #[.string (str (textB (openT g d)))] W fun r w' => ∃ q, r = .returned (.tuple #[.pointer (some q), .nilIface]) ∧ Sep Foot.none w (GtO (.pointer (some q)) (openT g d) :: L') w' by
            refine (readG_ok (str (textB (openT g d))) hlen HE0.out k).mono ?_
            rw [strL, read_text hfit]
            rintro r w' (⟨_, q, h1, h2⟩ | ⟨c, f, h0, _⟩)
            · exact ⟨q, h1, h2⟩
            · cases h0)
          have HC := hide (fun W (k : GtEnv a en W) => codesA a W 11 k.sents (by decide) W (Below.refl _ _))
          have HL3 := hide (fun (u : Value) (L' : List Fam) W (k : Sep Foot.none w (GtO u (openT g d) :: L') W) => last_pure k d hdm)
          rw [hla] at HL3
          rw [had] at HA1
          have Hfit := hide hfit
          have hSS : ((str (textB (openT g d))).toList == (str (textB (openT g d))).toList) = true := by simp
          have Hst := hide hst
          clear hfit hla had hn ho hd hdm hlen hst
          simp only [errA] at HA1 HC
          generalize str (textB (openT g d)) = S at *
          generalize openT g d = g2 at *
          generalize lastT g d = la at *
          go_wp2_with fail
          refine HL.out.mono ?_
          rintro r w3 ⟨rfl, rfl⟩
          clear HL
          go_wp2_with fail
          refine (Sep.call (L0 := [_]) Hs.out HO.out).mono ?_
          rintro r w4 ⟨_, ⟨rfl, rfl⟩, hs4⟩
          have HS4 := hide hs4
          have c4 := HTd.out _ hs4.below
          clear hs4 HO c0 Hs
          go_upto_region 17 with fail
          go_cut [87] (fun v87 wc => v87 = .bool false ∧ Hid (Sep Foot.none w (GtO (.pointer (some v)) g2 :: L) wc))
          case first =>
            go_wp2_with fail
            refine (Sep.call (L0 := [_]) HS4.out (HA1.out _ (HE.out _ HS4.out.below))).mono ?_
            rintro r w5 ⟨_, ⟨rfl, rfl⟩, hs5⟩
            have HS5 := hide hs5
            have c5 := HTd.out _ hs5.below
            clear hs5 HS4 c4 HA1
            by_cases h0 : 0 < la
            · have hst := Hst.out h0
              rw [hst] at HA2
              simp only [errA] at HA2
              clear hst
              go_wp2_with fail
              refine (Sep.call (L0 := [_]) HS5.out (HA2.out _ (HE.out _ HS5.out.below))).mono ?_
              rintro r w6 ⟨_, ⟨rfl, rfl⟩, hs6⟩
              have HS6 := hide hs6
              clear hs6 HS5 c5 HA2
              go_wp2_with fail
              refine (HC.out _ (HE.out _ HS6.out.below)).mono ?_
              rintro r w7 ⟨rfl, hb7⟩
              have HS7 := hide (HS6.out.keep hb7)
              clear hb7 HS6
              go_wp2_with fail
              go_meet
              case rel => exact ⟨rfl, HS7.out⟩
            · have h0' : la ≤ 0 := by omega
              clear HA2
              go_wp2_with fail
              go_meet
              case rel => exact ⟨rfl, HS5.out⟩
          case rest =>
            obtain ⟨rfl, HS5⟩ := hcut
            clear HS4 c4 HA1 HA2 HC Hst
            go_wp2_with fail
            refine (HTx.out _ _ _ HS5.out).mono ?_
            rintro r w6 ⟨rfl, hs6⟩
            have HS6 := hide hs6
            clear hs6 HS5
            go_wp2_with fail
            refine (HRd.out _ _ HS6.out).mono ?_
            rintro r w7 ⟨q, rfl, hs7⟩
            have HS7 := hide hs7
            clear hs7 HS6 HRd
            go_wp2_with fail
            refine (HTx.out _ _ _ HS7.out).mono ?_
            rintro r w8 ⟨rfl, hs8⟩
            have HS8 := hide hs8.sw
            clear hs8 HS7
            go_wp2_with fail
            refine (HTx.out _ _ _ HS8.out).mono ?_
            rintro r w9 ⟨rfl, hs9⟩
            have HS9 := hide hs9.sw
            have c9 := HTd.out _ hs9.below
            clear hs9 HS8 HTx
            go_wp2_with fail
            refine (HL3.out _ _ _ HS9.out).mono ?_
            rintro r w10 ⟨rfl, rfl⟩
            clear HL3
            go_wp2_with fail
            go_roundw
            case rel => exact ⟨i + 1, q, g2, _, rfl, by simp, Hlt.out, Hfit.out, HS9.out⟩
            case measure => have := Hlt.out; simp [intOf]; omega
    · have hlt' : (T.length : Int) ≤ i := by omega
      have Hb := hide Hs.out.below
      clear Hs Hg
      go_wp2_with fail
      go_ret
      exact ⟨rfl, Hb.out⟩

set_option maxHeartbeats 1000000 in
set_option maxRecDepth 100000 in
theorem gstale_early (a : Nat → Addr) (en : TypeId × Value) (ta : Option Addr) (tc : Nat) (T : List ByteArray) (w : World) (hE : GtEnv a en w) (hl : 60 < T.length) :
    Calls Tryz.prog 3 #[.slice ta T.length tc] w fun r w' => r = .returned (.bool true) ∧ Below w.heap.size w w' := by
  have HM := hide (gated_ok a en w hE)
  have hl' : (60 : Int) < T.length := by omega
  clear hE hl
  go_enter Tryz.func3, Tryz.ntmps3
  go_wp2_with fail
  refine HM.out.mono ?_
  rintro r w1 ⟨rfl, hb1⟩
  have Hb1 := hide hb1
  clear hb1 HM
  go_wp2_with fail
  go_ret
  exact ⟨rfl, Hb1.out⟩
/-- GateStale, whole. -/
theorem gstale_walk (a : Nat → Addr) (en : TypeId × Value) (v : Value) (T : List ByteArray) (w : World) (hE : GtEnv a en w) (hT : Row1 strV w v T) :
    Calls Tryz.prog 3 #[v] w fun r w' => r = .returned (.bool true) ∧ Below w.heap.size w w' := by
  have hT' := hT
  obtain ⟨ta, tc, rfl, -⟩ := hT'
  by_cases hl : 60 < T.length
  · exact gstale_early a en ta tc T w hE hl
  · exact gstale_main a en ta tc T w hE hT (by omega)
end Go.Proofs.YtogpjblikphpcaaGreatDoor
