/-
  Contract of the document's LinesFault over this dump, at any lines.
-/
import Derived.Test.YtbflmkjlpopeaadGreatDoorJoin05
import Derived.Test.YtbflmkjlpopeaadGreatDoorJoin03
import Derived.Test.YtbflmkjlpopeaadGreatDoorJoin04
import Derived.BigQuiet
import Derived.Deep.QuietTactic
import Derived.Laws.Cover1
namespace Go.Proofs.YtbflmkjlpopeaadGreatDoor
open Go.RowKit
open Go.Files (Fl Ln lt isNm bad scanF faultF keyL keyF prevOf)

theorem scanK_step (l : List Ln) (j : Nat) (h : j < l.length) :
    scanF ((l.map keyL).drop j) (prevOf (l.map keyL) j) j = if bad (prevOf (l.map keyL) j) l[j].name l[j].n = 0 then scanF ((l.map keyL).drop (j + 1)) (prevOf (l.map keyL) (j + 1)) (j + 1) else some (j, bad (prevOf (l.map keyL) j) l[j].name l[j].n) := by
  have := Go.Files.scanF_step (l.map keyL) j (by simpa using h)
  simpa [keyL] using this
theorem prevK_zero (l : List Ln) : prevOf (l.map keyL) 0 = none := rfl
theorem prevK_succ (l : List Ln) (i : Nat) (h : i < l.length) : prevOf (l.map keyL) (i + 1) = some l[i].name := by simp [prevOf, h, keyL]

set_option maxHeartbeats 4000000 in
set_option maxRecDepth 100000 in
theorem linesFault_ok (v : Value) (l : List Ln) (w : World) (hv : MRow w v l) (hl : l.length ≤ 1000000) (hs : ∀ x ∈ l, x.name.size ≤ 1000000) :
    Calls Tryz.prog 6 #[v] w fun r w' => r = .returned (.agg #[.int .i64 (faultF (l.map keyL)).1, .int .i64 (faultF (l.map keyL)).2]) ∧ Below w.heap.size w w' := by
  obtain ⟨a, c, rfl, hv⟩ := hv
  have HV := hide hv
  have HS := hide hs
  have hl' : (l.length : Int) ≤ 1000000 := by omega
  have HF := hide (fun W => fine_ok W)
  have HB := hide (fun W => bare_ok 8 W)
  have hfe : faultF (l.map keyL) = if 20 < l.length then (8, -1) else match scanF (l.map keyL) none 0 with | none => (0, -1) | some (i, c) => (c, (i : Int)) := by unfold faultF; rw [List.length_map]; cases scanF (l.map keyL) none 0 <;> rfl
  clear hv hs
  by_cases hfull : 20 < l.length
  · rw [hfe, if_pos hfull]
    have hfull' : (20 : Int) < l.length := by omega
    have Hq0 := hide (HvAt.fresh w 0 0 26)
    have Hb0 := hide ((Below.refl w.heap.size w).alloc (Nat.le_refl _) (.cells #[.int .i64 0, .int .i64 0] 26))
    clear hfe
    go_enter Tryz.func6, Tryz.ntmps6
    go_wp2_with fail
    refine (HB.out _).mono ?_
    rintro r w3 ⟨rfl, hb3⟩
    have hq3 := Hq0.out.below hb3 Hq0.out.lt
    have Hq3 := hide hq3
    have Hb3 := hide (bthen Hb0.out hb3)
    clear hb3 Hq0 Hb0
    obtain ⟨q0, q1, p0, p1, qlt⟩ := hq3
    go_wp2_with fail
    (try simp only [Exit.inBlock, Exit.then])
    refine bodyPost_ret (v := .agg #[.int .i64 8, .int .i64 (-1)]) ?_ rfl ⟨rfl, (Hb3.out.setCell (by simp) _).setCell (by simp) _⟩
    obtain ⟨x0, x1, _, _, _⟩ := Hq3.out.set 8 (-1)
    simp only [results, show Tryz.f6.results = #[.cell 2 26] from rfl]
    go_simp
  · rw [if_neg hfull] at hfe
    have hfull' : (l.length : Int) ≤ 20 := by omega
    generalize hR : scanF (l.map keyL) none 0 = R at hfe
    rw [hfe]
    have HR := hide hR
    clear hfe hR hfull
    go_enter Tryz.func6, Tryz.ntmps6
    go_wp2_with fail
    have Hq := hide (HvAt.fresh w 0 0 26)
    have Hb0 := hide ((Below.refl w.heap.size w).alloc (Nat.le_refl _) (.cells #[.int .i64 0, .int .i64 0] 26))
    go_loopw [3] (fun t wr => ∃ j : Nat, t = .int .i64 j ∧ j ≤ l.length ∧ Hid (scanF ((l.map keyL).drop j) (prevOf (l.map keyL) j) j = R) ∧ Hid (HvAt w.heap.size wr 0 0) ∧ Hid (Below w.heap.size w wr)) (fun t _ => l.length - (intOf t).toNat)
    case atStart => exact ⟨0, rfl, by omega, HR.out, Hq.out, Hb0.out⟩
    case round =>
      clear HR Hq Hb0
      obtain ⟨j, rfl, hj, Hsc, Hq, Hb⟩ := hrel
      by_cases hlt : j < l.length
      · have hlt' : (j : Int) < l.length := by omega
        obtain ⟨b, o, rfl, hc⟩ := HV.out (by omega)
        obtain ⟨c0, c1, _⟩ := hc j hlt
        have d0 := (Hb.out.cell (World.block_lt_of_cell? _ _ c0)).trans c0
        have d1 := (Hb.out.cell (World.block_lt_of_cell? _ _ c1)).trans c1
        have Hc := hide hc
        have hsz := HS.out _ (List.getElem_mem hlt)
        have Hs := hide (scanK_step l j hlt)
        rw [Hsc.out] at Hs
        have HI := hide (fun W => isName_ok l[j].name W hsz)
        have Hpz := hide (prevK_zero l)
        have Hps := hide (prevK_succ l)
        clear hc c0 c1 Hsc HV HF HS HB
        generalize hnb : isNm l[j].name = nb at HI
        have Hnb := hide hnb
        clear hnb
        go_upto_if 23 with fail
        refine (HI.out _).mono ?_
        rintro r w3 ⟨rfl, rfl⟩
        go_upto_if 23 with fail
        go_cut [4] (fun v4 wc => v4 = .int .i64 (bad (prevOf (l.map keyL) j) l[j].name l[j].n : Nat) ∧ Hid (Below w3.heap.size w3 wc))
        case first =>
          clear Hs Hq
          cases nb with
          | false =>
            have hn := Hnb.out
            have He : Hid (bad (prevOf (l.map keyL) j) l[j].name l[j].n = 5) := by unfold bad; simp [hn, Hid]
            clear hn
            go_wp2_with fail
            go_meet
            case rel => exact ⟨by rw [He.out]; rfl, Below.refl _ _⟩
          | true =>
            have hn := Hnb.out
            by_cases g1 : l[j].n < 0
            · have He : Hid (bad (prevOf (l.map keyL) j) l[j].name l[j].n = 2) := by unfold bad; simp [hn, Hid, g1]
              clear hn
              go_wp2_with fail
              go_meet
              case rel => exact ⟨by rw [He.out]; rfl, Below.refl _ _⟩
            · have g1' : 0 ≤ l[j].n := by omega
              by_cases g2 : 4000 < l[j].n
              · have He : Hid (bad (prevOf (l.map keyL) j) l[j].name l[j].n = 2) := by unfold bad; simp [hn, Hid, g2]
                clear hn
                go_wp2_with fail
                go_meet
                case rel => exact ⟨by rw [He.out]; rfl, Below.refl _ _⟩
              · have g2' : l[j].n ≤ 4000 := by omega
                by_cases hj0 : j = 0
                · subst hj0
                  have He : Hid (bad (prevOf (l.map keyL) 0) l[0].name l[0].n = 0) := by rw [Hpz.out]; unfold bad; simp [hn, Hid, g1, g2]
                  clear g1 g2 hn
                  go_wp2_with fail
                  go_quiet (fail)
                  go_wp2_with fail
                  go_meet
                  case rel => exact ⟨by rw [He.out]; rfl, ⟨rfl, rfl, rfl, Nat.le_refl _, fun _ _ => rfl⟩⟩
                · obtain ⟨i, hi⟩ : ∃ i, j = i + 1 := ⟨j - 1, by omega⟩
                  have hji : (j : Int) - 1 = (i : Int) := by omega
                  have hi2 : (i : Int) < l.length := by omega
                  have hwi : IntKind.i64.wrap (i : Int) = (i : Int) := iwrap_id _ (by omega) (by omega)
                  have hil : i < l.length := by omega
                  have hj1 : decide (0 < j) = true := by simp; omega
                  have e0 := (Hb.out.cell (World.block_lt_of_cell? _ _ (Hc.out i hil).1)).trans (Hc.out i hil).1
                  have hle := leq_lt l[j].name l[i].name
                  have Hbe : Hid (bad (prevOf (l.map keyL) j) l[j].name l[j].n = if lt l[i].name l[j].name then 0 else 9) := by
                    have hpv : prevOf (l.map keyL) j = some l[i].name := by rw [hi]; exact Hps.out i hil
                    rw [hpv]; unfold bad; simp [hn, Hid, g1, g2]
                  cases hp : lt l[i].name l[j].name with
                  | true =>
                    rw [hp] at hle Hbe
                    clear g1 g2 hn hp hi hj0
                    go_wp2_with fail
                    go_quiet (fail)
                    go_wp2_with fail
                    go_meet
                    case rel => exact ⟨by rw [Hbe.out]; rfl, ⟨rfl, rfl, rfl, Nat.le_refl _, fun _ _ => rfl⟩⟩
                  | false =>
                    rw [hp] at hle Hbe
                    clear g1 g2 hn hp hi hj0
                    go_wp2_with fail
                    go_quiet (fail)
                    go_wp2_with fail
                    go_meet
                    case rel => exact ⟨by rw [Hbe.out]; rfl, ⟨rfl, rfl, rfl, Nat.le_refl _, fun _ _ => rfl⟩⟩
        case rest =>
          obtain ⟨rfl, Hb3⟩ := hcut
          have hq := Hq.out.below Hb3.out Hq.out.lt
          have Hq3 := hide hq
          have Hb4 := hide (bthen Hb.out Hb3.out)
          obtain ⟨q0, q1, p0, p1, qlt⟩ := hq
          clear Hb3 Hb Hq Hc Hpz Hps Hnb d0 d1
          generalize bad (prevOf (l.map keyL) j) l[j].name l[j].n = f at *
          by_cases hf : f = 0
          · subst hf
            have hR := Hs.out
            rw [if_pos rfl] at hR
            have HR := hide hR
            clear hR Hs
            go_wp2_with fail
            go_roundw
            case rel => exact ⟨j + 1, by go_num, by omega, HR.out.symm, Hq3.out, Hb4.out⟩
            case measure => simp [intOf]; omega
          · have hR := Hs.out
            rw [if_neg hf] at hR
            subst hR
            have hf' : (0 : Int) < f := by omega
            clear Hs hf
            go_wp2_with fail
            (try simp only [Exit.inBlock, Exit.then])
            refine bodyPost_ret (v := .agg #[.int .i64 f, .int .i64 j]) ?_ rfl ⟨rfl, (Hb4.out.setCell (by simp) _).setCell (by simp) _⟩
            obtain ⟨x0, x1, _, _, _⟩ := Hq3.out.set f j
            simp only [results, show Tryz.f6.results = #[.cell 2 26] from rfl]
            go_simp
      · have hle : (l.length : Int) ≤ (j : Int) := by omega
        have hR : R = none := by rw [← Hsc.out, List.drop_eq_nil_of_le (by simp; omega), scanF]
        subst hR
        clear Hsc
        go_wp2_with fail
        refine (HF.out _).mono ?_
        rintro r w4 ⟨rfl, hb4⟩
        have hq4 := Hq.out.below hb4 Hq.out.lt
        have Hq4 := hide hq4
        have Hb4 := hide (bthen Hb.out hb4)
        clear hb4 Hb Hq
        obtain ⟨q0, q1, p0, p1, qlt⟩ := hq4
        go_wp2_with fail
        (try simp only [Exit.inBlock, Exit.then])
        refine bodyPost_ret (v := .agg #[.int .i64 0, .int .i64 (-1)]) ?_ rfl ⟨rfl, (Hb4.out.setCell (by simp) _).setCell (by simp) _⟩
        obtain ⟨x0, x1, _, _, _⟩ := Hq4.out.set 0 (-1)
        simp only [results, show Tryz.f6.results = #[.cell 2 26] from rfl]
        go_simp
end Go.Proofs.YtbflmkjlpopeaadGreatDoor
