/-
  Contracts of the document's find, PlanOf over this dump.
-/
import Derived.Test.YtbflmkjlpopeaadGreatDoorRefLines
import Derived.Deep.AppendLies
import Derived.Deep.RegionHeld3
import Derived.Test.YtbflmkjlpopeaadGreatDoorPlanRem
namespace Go.Proofs.YtbflmkjlpopeaadGreatDoor
open Go.RowKit
open Go.Files (Ln St lt findL planM rem kindOf kSend kKeep kDrop RiseL faultF keyL)

theorem Tryz.info50 : (Tryz.prog.info? 50).map (fun i => (i.zero, i.size, i.bytes)) = some (some (.agg #[.string ⟨#[]⟩, .string ⟨#[]⟩]), 2, 32) := by kernel_rfl
theorem findL_idx : ∀ {l : List Ln} {a : ByteArray} {x : Ln}, findL l a = some x → ∃ (k : Nat) (hk : k < l.length), l[k] = x ∧ l[k].name = a ∧ ∀ j (hj : j < l.length), j < k → l[j].name ≠ a
  | [], _, _, h => by cases h
  | g :: r, a, x, h => by
    rw [findL] at h
    split at h
    · rename_i e
      cases h
      exact ⟨0, by simp, rfl, e, fun j _ hj => by omega⟩
    · rename_i e
      obtain ⟨k, hk, h1, h2, h3⟩ := findL_idx h
      refine ⟨k + 1, by simpa using hk, by simpa using h1, by simpa using h2, fun j hj hjk => ?_⟩
      cases j with
      | zero => simpa using e
      | succ j => simpa using h3 j (by simpa using hj) (by omega)

set_option maxHeartbeats 1000000 in
set_option maxRecDepth 100000 in
theorem find_at (v : Value) (l : List Ln) (a : ByteArray) (k : Nat) (w : World) (hv : MRow w v l) (hl : l.length ≤ 1000000) (hk : k < l.length) (he : l[k].name = a) (hn : ∀ j (hj : j < l.length), j < k → l[j].name ≠ a) :
    Calls Tryz.prog 34 #[v, .string a] w fun r w' => r = .returned (.int .i64 k) ∧ w' = w := by
  obtain ⟨q, c, rfl, hv⟩ := hv
  have HV := hide hv
  have HN := hide hn
  have HE := hide he
  have hl' : (l.length : Int) ≤ 1000000 := by omega
  clear hv hn he
  go_enter Tryz.func34, Tryz.ntmps34
  go_wp2_with fail
  go_loop [5] (fun t => ∃ j : Nat, t = .int .i64 j ∧ j ≤ k) (fun t => l.length - (intOf t).toNat)
  case atStart => exact ⟨0, rfl, by omega⟩
  case round =>
    obtain ⟨j, rfl, hj⟩ := hrel
    have hlt : j < l.length := by omega
    have hlt' : (j : Int) < l.length := by omega
    obtain ⟨b, o, rfl, hc⟩ := HV.out (by omega)
    obtain ⟨c0, _⟩ := hc j hlt
    by_cases hjk : j = k
    · subst hjk
      have e := same_bytes HE.out
      clear hc HV HN HE
      go_wp2_with fail
      go_ret
      exact ⟨rfl, rfl⟩
    · have e := other_bytes (HN.out j hlt (by omega))
      clear hc HV HN HE
      go_wp2_with fail
      go_round
      case rel => exact ⟨j + 1, by go_num, by omega⟩
      case measure => simp [intOf]; omega

set_option maxHeartbeats 1000000 in
set_option maxRecDepth 100000 in
theorem find_none (v : Value) (l : List Ln) (a : ByteArray) (w : World) (hv : MRow w v l) (hl : l.length ≤ 1000000) (hn : findL l a = none) :
    Calls Tryz.prog 34 #[v, .string a] w fun r w' => r = .returned (.int .i64 (-1)) ∧ w' = w := by
  obtain ⟨q, c, rfl, hv⟩ := hv
  have HV := hide hv
  have HN := hide (Go.Files.findL_none.1 hn)
  have hl' : (l.length : Int) ≤ 1000000 := by omega
  clear hv hn
  go_enter Tryz.func34, Tryz.ntmps34
  go_wp2_with fail
  go_loop [5] (fun t => ∃ j : Nat, t = .int .i64 j ∧ j ≤ l.length) (fun t => l.length - (intOf t).toNat)
  case atStart => exact ⟨0, rfl, by omega⟩
  case round =>
    obtain ⟨j, rfl, hj⟩ := hrel
    by_cases hlt : j < l.length
    · have hlt' : (j : Int) < l.length := by omega
      obtain ⟨b, o, rfl, hc⟩ := HV.out (by omega)
      obtain ⟨c0, _⟩ := hc j hlt
      have e := other_bytes (HN.out _ (List.getElem_mem hlt))
      clear hc HV HN
      go_wp2_with fail
      go_round
      case rel => exact ⟨j + 1, by go_num, by omega⟩
      case measure => simp [intOf]; omega
    · have hle : (l.length : Int) ≤ (j : Int) := by omega
      go_wp2_with fail
      go_ret
      exact ⟨rfl, rfl⟩

set_option maxHeartbeats 4000000 in
set_option maxRecDepth 100000 in
theorem planOf_main (u v : Value) (F T : List Ln) (w : World) (hu : MRow w u F) (hv : MRow w v T) (hF : F.length ≤ 20) (hT : T.length ≤ 20) (hfs : ∀ x ∈ F, x.name.size ≤ 1000000) (hts : ∀ x ∈ T, x.name.size ≤ 1000000) (h1 : (faultF (F.map keyL)).1 = 0) (h2 : (faultF (T.map keyL)).1 = 0) :
    Calls Tryz.prog 16 #[u, v] w fun r w' => (∃ x, r = .returned (.tuple #[x, .agg #[.int .i64 0, .int .i64 (-1)]]) ∧ SRow w' x (planM F T)) ∧ Below w.heap.size w w' := by
  obtain ⟨i0, hi, hz0, hz1, hz2⟩ := info_parts Tryz.info50
  have hrF : RiseL F := by have := (Go.Files.faultF_zero.1 h1).rise; rw [List.map_map] at this; exact this
  have hrT : RiseL T := by have := (Go.Files.faultF_zero.1 h2).rise; rw [List.map_map] at this; exact this
  have hba := (Below.refl w.heap.size w).alloc (Nat.le_refl _) (.cells #[.int .i64 0, .int .i64 0] 26)
  have HF1 := hide (fun W (h : MRow W u F) => linesFault_ok u F W h (by omega) hfs)
  have HF2 := hide (fun W (h : MRow W v T) => linesFault_ok v T W h (by omega) hts)
  rw [h1] at HF1
  rw [h2] at HF2
  generalize (faultF (F.map keyL)).2 = fa at *
  generalize (faultF (T.map keyL)).2 = ta at *
  have HFn := hide (fun W => fine_ok W)
  have Hb0 := hide hba
  have Hq0 := hide (HvAt.fresh w 0 0 26)
  have HU := hide (fun W (h : Below w.heap.size w W) => hu.below h)
  have HV := hide (fun W (h : Below w.heap.size w W) => hv.below h)
  obtain ⟨q, c, rfl, hu⟩ := hu
  obtain ⟨q', c', rfl, hv⟩ := hv
  have HUc := hide hu
  have HVc := hide hv
  have hF' : (F.length : Int) ≤ 20 := by omega
  have hT' : (T.length : Int) ≤ 20 := by omega
  have HrF := hide hrF
  have HrT := hide hrT
  clear hba h1 h2 hfs hts hu hv hrF hrT
  go_enter Tryz.func16, Tryz.ntmps16
  go_wp2_with fail
  refine (HF1.out _ (HU.out _ Hb0.out)).mono ?_
  rintro r w2 ⟨rfl, hb2⟩
  have hb3 := hb2.alloc hb2.size (.cells #[.int .i64 ((0 : Nat) : Int), .int .i64 fa] 26)
  have Hq3 := hide (Hq0.out.below hb3 Hq0.out.lt)
  have hg3 := HvAt.fresh w2 ((0 : Nat) : Int) fa 26
  have Hg3 := hide hg3
  have Hb3 := hide (bthen Hb0.out hb3)
  have Hne : Hid (w.heap.size < w2.heap.size) := by have := hb2.size; simp at this; exact this
  clear hb2 hb3 Hq0 Hb0 HF1
  go_upto_region 2 with fail
  generalize w2.alloc (.cells #[.int .i64 ((0 : Nat) : Int), .int .i64 fa] 26) = w3 at *
  have hg3' : HvAt w2.heap.size w3 0 fa := hg3
  obtain ⟨y0, y1, z0, z1, ylt⟩ := hg3'
  clear hg3
  go_wp2_with fail
  refine (HF2.out _ (HV.out _ Hb3.out)).mono ?_
  rintro r w4 ⟨rfl, hb4⟩
  have hg4 := Hg3.out.below hb4 Hg3.out.lt
  have hq4 := Hq3.out.below hb4 Hq3.out.lt
  have hbS : Below w2.heap.size w4 ((w4.setCell ⟨w2.heap.size, 0, none⟩ (.int .i64 0)).setCell ⟨w2.heap.size, 1, none⟩ (.int .i64 ta)) := ((Below.refl w2.heap.size w4).setCell (by simp) _).setCell (by simp) _
  have Hq5 := hide (hq4.below hbS Hne.out)
  have hg5 : HvAt w2.heap.size ((w4.setCell ⟨w2.heap.size, 0, none⟩ (.int .i64 0)).setCell ⟨w2.heap.size, 1, none⟩ (.int .i64 ta)) 0 ta := hg4.set 0 ta
  have Hb5 := hide ((bthen Hb3.out hb4).trans (hbS.mono (Nat.le_of_lt Hne.out)))
  have Hs5 : Hid (w2.heap.size + 1 ≤ ((w4.setCell ⟨w2.heap.size, 0, none⟩ (.int .i64 0)).setCell ⟨w2.heap.size, 1, none⟩ (.int .i64 ta)).heap.size) := by have := hg5.lt; exact this
  have hg4' : HvAt w2.heap.size w4 0 fa := hg4
  obtain ⟨x0, x1, v0, v1, xlt⟩ := hg4'
  obtain ⟨g0, g1, f0, f1, glt⟩ := hg5
  clear hb4 hbS hq4 hg4 Hb3 Hq3 Hg3 HF2 y0 y1 z0 z1 ylt
  go_upto_region 6 with fail
  generalize ((w4.setCell ⟨w2.heap.size, 0, none⟩ (.int .i64 0)).setCell ⟨w2.heap.size, 1, none⟩ (.int .i64 ta)) = w5 at *
  clear x0 x1 v0 v1 xlt g0 g1 f0 f1 glt
  go_wp2_with fail
  have HR0 := hide (Go.Files.rem_start F T)
  go_loopw [7, 8, 9] (fun t7 t8 t9 wr => ∃ (i k : Nat) (out : List St), t9 = .int .i64 i ∧ t8 = .int .i64 k ∧ i ≤ F.length ∧ k ≤ T.length ∧ out.length ≤ i + k ∧ Hid (out ++ rem F T i k = planM F T) ∧ Hid (∀ x ∈ T.take k, ∀ hi : i < F.length, lt x.name F[i].name = true) ∧ Hid (wr.ownsRow (w2.heap.size + 1) 50 2 t7 out.length (scs out)) ∧ Hid (HvAt w.heap.size wr 0 0) ∧ Hid (Below w.heap.size w wr) ∧ Hid (w2.heap.size + 1 ≤ wr.heap.size)) (fun _ _ t9 _ => F.length + 1 - (intOf t9).toNat)
  case atStart => exact ⟨0, 0, [], rfl, rfl, by omega, by omega, by simp, by simpa [Hid] using HR0.out, (fun x hx => by simp at hx), World.ownsRow_nil _ _ _ _, Hq5.out, Hb5.out, Hs5.out⟩
  case round =>
    clear HR0 Hq5 Hb5 Hs5
    obtain ⟨i, k, out, rfl, rfl, hi', hk', hlen, HI, HP, Hown, Hq, Hb, Hsz⟩ := hrel
    have hile : (i : Int) ≤ F.length := by omega
    go_wp2_with fail
    go_loopw [7, 8] (fun t7 t8 wi => ∃ (k : Nat) (out : List St), t8 = .int .i64 k ∧ k ≤ T.length ∧ out.length ≤ i + k ∧ Hid (out ++ rem F T i k = planM F T) ∧ Hid (∀ x ∈ T.take k, ∀ hi : i < F.length, lt x.name F[i].name = true) ∧ Hid (wi.ownsRow (w2.heap.size + 1) 50 2 t7 out.length (scs out)) ∧ Hid (HvAt w.heap.size wi 0 0) ∧ Hid (Below w.heap.size w wi) ∧ Hid (w2.heap.size + 1 ≤ wi.heap.size)) (fun _ t8 _ => T.length - (intOf t8).toNat)
    case atStart => exact ⟨k, out, rfl, hk', hlen, HI.out, HP.out, Hown.out, Hq.out, Hb.out, Hsz.out⟩
    case round =>
      clear HI HP Hown Hq Hb Hsz hk' hlen
      obtain ⟨k, out, rfl, hk', hlen, HI, HP, Hown, Hq, Hb, Hsz⟩ := hrel
      obtain ⟨cnd, hc1, hc2⟩ : ∃ cnd : Bool, (cnd = true → ∃ hk : k < T.length, ∀ hi : i < F.length, lt T[k].name F[i].name = true) ∧ (cnd = false → ∀ hk : k < T.length, ∃ hi : i < F.length, lt T[k].name F[i].name = false) := by
        by_cases hk : k < T.length
        · by_cases hi : i < F.length
          · exact ⟨lt T[k].name F[i].name, fun h => ⟨hk, fun _ => h⟩, fun h _ => ⟨hi, h⟩⟩
          · exact ⟨true, fun _ => ⟨hk, fun h => absurd h hi⟩, fun h => by cases h⟩
        · exact ⟨false, (fun h => by cases h), fun _ h => absurd h hk⟩
      have HC1 := hide hc1
      have HC2 := hide hc2
      clear hc1 hc2
      go_upto_region 11 with fail
      go_cut [51] (fun v51 wc => v51 = .bool cnd ∧ Hid (Below wr.heap.size wr wc))
      case first =>
        clear HI HP Hown Hq Hsz
        by_cases hk : k < T.length
        · have hk1 : (k : Int) < T.length := by omega
          obtain ⟨b', o', rfl, hcT⟩ := HVc.out (by omega)
          have e0 := (Hb.out.cell (World.block_lt_of_cell? _ _ (hcT k hk).1)).trans (hcT k hk).1
          by_cases hiF : i < F.length
          · have hiF' : ((i : Int) == (F.length : Int)) = false := by simp; omega
            have hiF2 : (i : Int) < F.length := by omega
            obtain ⟨b, o, rfl, hcF⟩ := HUc.out (by omega)
            have d0 := (Hb.out.cell (World.block_lt_of_cell? _ _ (hcF i hiF).1)).trans (hcF i hiF).1
            cases hl : lt T[k].name F[i].name with
            | true =>
              have hcn : cnd = true := by
                cases cnd with
                | true => rfl
                | false => obtain ⟨_, h⟩ := HC2.out rfl hk; rw [hl] at h; cases h
              subst hcn
              have hl' : Op.bytesLess T[k].name.toList F[i].name.toList = true := hl
              clear HC1 HC2 hcT hcF hl
              go_wp2_with fail
              go_quiet (fail)
              go_wp2_with fail
              go_meet
              case rel => exact ⟨rfl, ⟨rfl, rfl, rfl, Nat.le_refl _, fun _ _ => rfl⟩⟩
            | false =>
              have hcn : cnd = false := by
                cases cnd with
                | false => rfl
                | true => obtain ⟨_, h⟩ := HC1.out rfl; have h2 := h hiF; rw [hl] at h2; cases h2
              subst hcn
              have hl' : Op.bytesLess T[k].name.toList F[i].name.toList = false := hl
              clear HC1 HC2 hcT hcF hl
              go_wp2_with fail
              go_quiet (fail)
              go_wp2_with fail
              go_meet
              case rel => exact ⟨rfl, ⟨rfl, rfl, rfl, Nat.le_refl _, fun _ _ => rfl⟩⟩
          · have hiF' : ((i : Int) == (F.length : Int)) = true := by simp; omega
            have hcn : cnd = true := by
              cases cnd with
              | true => rfl
              | false => obtain ⟨h, _⟩ := HC2.out rfl hk; exact absurd h hiF
            subst hcn
            clear HC1 HC2 hcT hiF
            go_wp2_with fail
            go_quiet (fail)
            go_wp2_with fail
            go_meet
            case rel => exact ⟨rfl, ⟨rfl, rfl, rfl, Nat.le_refl _, fun _ _ => rfl⟩⟩
        · have hk1 : (T.length : Int) ≤ k := by omega
          have hcn : cnd = false := by
            cases cnd with
            | false => rfl
            | true => obtain ⟨h, _⟩ := HC1.out rfl; exact absurd h hk
          subst hcn
          have hkd : decide (k < T.length) = false := by simp; omega
          clear HC1 HC2 hk
          go_wp2_with fail
          go_quiet (fail)
          go_wp2_with fail
          go_meet
          case rel => exact ⟨rfl, ⟨rfl, rfl, rfl, Nat.le_refl _, fun _ _ => rfl⟩⟩
      case rest =>
        obtain ⟨rfl, Hbc⟩ := hcut
        have Hown2 := hide (own_below Hown.out Hbc.out)
        have Hq2 := hide (Hq.out.below Hbc.out Hq.out.lt)
        have Hb2 := hide (bthen Hb.out Hbc.out)
        have Hsz2 : Hid (w2.heap.size + 1 ≤ wc.heap.size) := Nat.le_trans Hsz.out Hbc.out.size
        clear Hown Hq Hb Hsz Hbc
        have Hown := Hown2
        have Hq := Hq2
        have Hb := Hb2
        have Hsz := Hsz2
        clear Hown2 Hq2 Hb2 Hsz2
        cases cnd with
        | true =>
          obtain ⟨hk, hlt⟩ := HC1.out rfl
          have hk1 : (k : Int) < T.length := by omega
          obtain ⟨b', o', rfl, hcT⟩ := HVc.out (by omega)
          have e0 := (Hb.out.cell (World.block_lt_of_cell? _ _ (hcT k hk).1)).trans (hcT k hk).1
          have Htk : Hid (∀ x ∈ T.take (k + 1), ∀ hi : i < F.length, lt x.name F[i].name = true) := fun x hx hi => by
            rw [List.take_succ_eq_append_getElem hk] at hx
            rcases List.mem_append.1 hx with hx | hx
            · exact HP.out x hx hi
            · rw [List.mem_singleton.1 hx]; exact hlt hi
          have hb5x := Below.refl wc.heap.size wc
          cases hf : findL F T[k].name with
          | none =>
            have HFi := hide (find_none (.slice q F.length c) F T[k].name wc (HU.out _ Hb.out) (by omega) hf)
            have HI1 := hide (Go.Files.rem_drop hk hlt hf)
            have Hlt := hide hlt
            clear HC1 HC2 hcT hf HP hb5x hlt
            generalize hTn : T[k].name = tn at *
            have HTn := hide hTn
            clear hTn
            go_wp2_with fail
            refine HFi.out.mono ?_
            rintro r w6 ⟨rfl, rfl⟩
            go_wp2_with (first | (at_builtin; refine wpList_append_own _ rfl (.tmp 60) (.tmp 67) 45 rfl (w2.heap.size + 1) 50 i0 (.agg #[.string ⟨#[]⟩, .string ⟨#[]⟩]) 2 32 Tryz.underlying45 hi hz0 hz1 hz2 rfl (by decide) u7 out.length (scs out) rfl ?own1 ⟨w6.heap.size, 0, none⟩ 1 1 [.string ⟨#[100, 114, 111, 112]⟩, .string tn] rfl rfl ?ca1 ?cb1 ?ba1 ?bb1 ?bc1 ?next1))
            case own1 => exact Hown.out.alloc _
            try case ca1 => intro j u hj; match j, hj with | 0, hj | 1, hj => simp at hj; subst hj; simp [Addr.add]
            case cb1 => first | (intro u hu; simp at hu; rcases hu with rfl | rfl <;> rfl) | exact ⟨rfl, rfl⟩
            case ba1 => unfold maxLen; omega
            case bb1 => omega
            case bc1 => have := Hsz.out; simp; omega
            case next1 =>
              intro v7 w7 hown5 hgrow5 _
              have hb5 : Below (w2.heap.size + 1) w6 w7 := ((Below.refl (w2.heap.size + 1) w6).alloc (by have := Hsz.out; omega) _).grown hgrow5 (by have := Hsz.out; simp; omega) (fun k hk => (Hown.out.lt k hk).1)
              have Hq5 := hide (Hq.out.below hb5 (by have := Hne.out; omega))
              have Hb5 := hide (Hb.out.trans (hb5.mono (by have := Hne.out; omega)))
              have Hs5 : Hid (w2.heap.size + 1 ≤ w7.heap.size) := Nat.le_trans Hsz.out hb5.size
              have Hown5 : Hid (w7.ownsRow (w2.heap.size + 1) 50 2 v7 (out ++ [(⟨kDrop, tn⟩ : St)]).length (scs (out ++ [(⟨kDrop, tn⟩ : St)]))) := by
                rw [scs, cs2_snoc, List.length_append, List.length_singleton]
                exact hown5
              clear hb5 hown5 hgrow5 Hown Hq Hb
              go_wp2_with fail
              go_roundw
              case rel => exact ⟨k + 1, out ++ [(⟨kDrop, tn⟩ : St)], by go_num, by omega, by simp; omega, by rw [List.append_assoc]; simpa [Hid, HI1.out] using HI.out, Htk.out, Hown5.out, Hq5.out, Hb5.out, Hs5.out⟩
              case measure => simp [intOf]; omega
          | some x =>
            obtain ⟨j, hj, hx1, hx2, hx3⟩ := findL_idx hf
            have HFi := hide (find_at (.slice q F.length c) F T[k].name j wc (HU.out _ Hb.out) (by omega) hj hx2 hx3)
            have HI1 := hide (Go.Files.rem_skip HrF.out hk hlt (by rw [hf]; simp))
            clear HC1 HC2 hcT hf HP hb5x hlt hx1 hx2 hx3
            generalize hTn : T[k].name = tn at *
            clear hTn
            go_wp2_with fail
            refine HFi.out.mono ?_
            rintro r w6 ⟨rfl, rfl⟩
            go_wp2_with fail
            go_roundw
            case rel => exact ⟨k + 1, out, by go_num, by omega, by omega, by rw [← HI1.out]; exact HI.out, Htk.out, Hown.out, Hq.out, Hb.out, Hsz.out⟩
            case measure => simp [intOf]; omega
        | false =>
          by_cases hiF : i < F.length
          · have hiF' : ((i : Int) == (F.length : Int)) = false := by simp; omega
            have hiF2 : (i : Int) < F.length := by omega
            have hiF3 : decide (i = F.length) = false := by simp; omega
            obtain ⟨b, o, rfl, hcF⟩ := HUc.out (by omega)
            obtain ⟨c0, c1, c2⟩ := hcF i hiF
            have d0 := (Hb.out.cell (World.block_lt_of_cell? _ _ c0)).trans c0
            have Hd := hide (And.intro (World.block_lt_of_cell? _ _ c0) (And.intro c0 (And.intro c1 c2)))
            have HI1 := hide (Go.Files.rem_next HrF.out HrT.out hiF (fun x hx => HP.out x hx hiF) (fun hk => by obtain ⟨_, h⟩ := HC2.out rfl hk; exact h))
            have HP1 : Hid (∀ x ∈ T.take k, ∀ hi : i + 1 < F.length, lt x.name F[i + 1].name = true) := fun x hx hi => by
              have h := HrF.out
              unfold RiseL Go.Files.Rise at h
              rw [List.pairwise_map] at h
              exact Go.Files.lt_trans (HP.out x hx hiF) (List.pairwise_iff_getElem.1 h i (i + 1) (by omega) hi (by omega))
            have HKd : Hid (kindOf T F[i] = match findL T F[i].name with | some x => (if x.n = F[i].n ∧ x.sum = F[i].sum then kKeep else kSend) | none => kSend) := rfl
            clear hcF c0 c1 c2 HP HC1 HC2
            generalize hfi : F[i] = fi at *
            clear hfi
            generalize kindOf T fi = kd at *
            cases hft : findL T fi.name with
            | none =>
              have HFi := hide (find_none (.slice q' T.length c') T fi.name wc (HV.out _ Hb.out) (by omega) hft)
              have hkd : kd = kSend := by rw [HKd.out, hft]
              subst hkd
              clear HKd hft Hd
              go_wp2_with fail
              refine HFi.out.mono ?_
              rintro r w6 ⟨rfl, rfl⟩
              go_wp2_with (first | (at_builtin; refine wpList_append_own _ rfl (.tmp 108) (.tmp 116) 45 rfl (w2.heap.size + 1) 50 i0 (.agg #[.string ⟨#[]⟩, .string ⟨#[]⟩]) 2 32 Tryz.underlying45 hi hz0 hz1 hz2 rfl (by decide) u7 out.length (scs out) rfl ?own2 ⟨w6.heap.size, 0, none⟩ 1 1 [.string ⟨#[115, 101, 110, 100]⟩, .string fi.name] rfl rfl ?ca2 ?cb2 ?ba2 ?bb2 ?bc2 ?next2))
              case own2 => exact Hown.out.alloc _
              try case ca2 => intro j u hj; match j, hj with | 0, hj | 1, hj => simp at hj; subst hj; simp [Addr.add]
              case cb2 => first | (intro u hu; simp at hu; rcases hu with rfl | rfl <;> rfl) | exact ⟨rfl, rfl⟩
              case ba2 => unfold maxLen; omega
              case bb2 => omega
              case bc2 => have := Hsz.out; simp; omega
              case next2 =>
                intro v7 w7 hown5 hgrow5 _
                have hb5 : Below (w2.heap.size + 1) w6 w7 := ((Below.refl (w2.heap.size + 1) w6).alloc (by have := Hsz.out; omega) _).grown hgrow5 (by have := Hsz.out; simp; omega) (fun k hk => (Hown.out.lt k hk).1)
                have Hq5 := hide (Hq.out.below hb5 (by have := Hne.out; omega))
                have Hb5 := hide (Hb.out.trans (hb5.mono (by have := Hne.out; omega)))
                have Hs5 : Hid (w2.heap.size + 1 ≤ w7.heap.size) := Nat.le_trans Hsz.out hb5.size
                have Hown5 : Hid (w7.ownsRow (w2.heap.size + 1) 50 2 v7 (out ++ [(⟨kSend, fi.name⟩ : St)]).length (scs (out ++ [(⟨kSend, fi.name⟩ : St)]))) := by
                  rw [scs, cs2_snoc, List.length_append, List.length_singleton]
                  exact hown5
                clear hb5 hown5 hgrow5 Hown Hq Hb
                go_wp2_with fail
                go_roundw
                case rel => exact ⟨i + 1, k, out ++ [(⟨kSend, fi.name⟩ : St)], by go_num, rfl, by omega, by omega, by simp; omega, by rw [List.append_assoc]; simpa [Hid, HI1.out] using HI.out, HP1.out, Hown5.out, Hq5.out, Hb5.out, Hs5.out⟩
                case measure => simp [intOf]; omega
            | some x =>
              obtain ⟨j, hj, hx1, hx2, hx3⟩ := findL_idx hft
              have HFi := hide (find_at (.slice q' T.length c') T fi.name j wc (HV.out _ Hb.out) (by omega) hj hx2 hx3)
              have hj1 : (j : Int) < T.length := by omega
              have hkd : kd = if x.n = fi.n ∧ x.sum = fi.sum then kKeep else kSend := by rw [HKd.out, hft]
              obtain ⟨b', o', rfl, hcT⟩ := HVc.out (by omega)
              obtain ⟨m0, m1, m2⟩ := hcT j hj
              rw [hx1] at m0 m1 m2
              obtain ⟨lF, k0, k1, k2⟩ := Hd.out
              have d1 := (Hb.out.cell (p := ⟨b, o + i * 3 + 1, none⟩) lF).trans k1
              have d2 := (Hb.out.cell (p := ⟨b, o + i * 3 + 2, none⟩) lF).trans k2
              have e1 := (Hb.out.cell (World.block_lt_of_cell? _ _ m1)).trans m1
              have e2 := (Hb.out.cell (World.block_lt_of_cell? _ _ m2)).trans m2
              clear HKd hft Hd hcT m0 m1 m2 k0 k1 k2 hx1 hx2 hx3
              go_wp2_with fail
              refine HFi.out.mono ?_
              rintro r w6 ⟨rfl, rfl⟩
              go_upto_if 83 with fail
              go_cut [11] (fun v11 wd => v11 = .string kd ∧ Hid (Below w6.heap.size w6 wd))
              case first =>
                by_cases g1 : x.n = fi.n
                · by_cases g2 : x.sum = fi.sum
                  · rw [if_pos ⟨g1, g2⟩] at hkd
                    have g1' : (x.n == fi.n) = true := by simpa using g1
                    have g2' : (x.sum == fi.sum) = true := by simpa using g2
                    subst hkd
                    clear g1 g2
                    go_wp2_with fail
                    go_quiet (fail)
                    go_wp2_with fail
                    go_meet
                    case rel => exact ⟨rfl, ⟨rfl, rfl, rfl, Nat.le_refl _, fun _ _ => rfl⟩⟩
                  · rw [if_neg (fun h => g2 h.2)] at hkd
                    have g1' : (x.n == fi.n) = true := by simpa using g1
                    have g2' : (x.sum == fi.sum) = false := by simpa using g2
                    subst hkd
                    clear g1 g2
                    go_wp2_with fail
                    go_quiet (fail)
                    go_wp2_with fail
                    go_meet
                    case rel => exact ⟨rfl, ⟨rfl, rfl, rfl, Nat.le_refl _, fun _ _ => rfl⟩⟩
                · rw [if_neg (fun h => g1 h.1)] at hkd
                  have g1' : (x.n == fi.n) = false := by simpa using g1
                  subst hkd
                  clear g1
                  go_wp2_with fail
                  go_quiet (fail)
                  go_wp2_with fail
                  go_meet
                  case rel => exact ⟨rfl, ⟨rfl, rfl, rfl, Nat.le_refl _, fun _ _ => rfl⟩⟩
              case rest =>
                obtain ⟨rfl, Hbd⟩ := hcut
                have Hown2 := hide (own_below Hown.out Hbd.out)
                have Hq2 := hide (Hq.out.below Hbd.out Hq.out.lt)
                have Hb2 := hide (bthen Hb.out Hbd.out)
                have Hsz2 : Hid (w2.heap.size + 1 ≤ wc.heap.size) := Nat.le_trans Hsz.out Hbd.out.size
                have h0 := (Hbd.out.cell (World.block_lt_of_cell? _ _ d0)).trans d0
                clear Hown Hq Hb Hsz Hbd hkd d0 d1 d2 e1 e2
                have Hown := Hown2
                have Hq := Hq2
                have Hb := Hb2
                have Hsz := Hsz2
                clear Hown2 Hq2 Hb2 Hsz2
                go_wp2_with (first | (at_builtin; refine wpList_append_own _ rfl (.tmp 108) (.tmp 116) 45 rfl (w2.heap.size + 1) 50 i0 (.agg #[.string ⟨#[]⟩, .string ⟨#[]⟩]) 2 32 Tryz.underlying45 hi hz0 hz1 hz2 rfl (by decide) u7 out.length (scs out) rfl ?own3 ⟨wc.heap.size, 0, none⟩ 1 1 [.string kd, .string fi.name] rfl rfl ?ca3 ?cb3 ?ba3 ?bb3 ?bc3 ?next3))
                case own3 => exact Hown.out.alloc _
                try case ca3 => intro j u hj; match j, hj with | 0, hj | 1, hj => simp at hj; subst hj; simp [Addr.add]
                case cb3 => first | (intro u hu; simp at hu; rcases hu with rfl | rfl <;> rfl) | exact ⟨rfl, rfl⟩
                case ba3 => unfold maxLen; omega
                case bb3 => omega
                case bc3 => have := Hsz.out; simp; omega
                case next3 =>
                  intro v7 w7 hown5 hgrow5 _
                  have hb5 : Below (w2.heap.size + 1) wc w7 := ((Below.refl (w2.heap.size + 1) wc).alloc (by have := Hsz.out; omega) _).grown hgrow5 (by have := Hsz.out; simp; omega) (fun k hk => (Hown.out.lt k hk).1)
                  have Hq5 := hide (Hq.out.below hb5 (by have := Hne.out; omega))
                  have Hb5 := hide (Hb.out.trans (hb5.mono (by have := Hne.out; omega)))
                  have Hs5 : Hid (w2.heap.size + 1 ≤ w7.heap.size) := Nat.le_trans Hsz.out hb5.size
                  have Hown5 : Hid (w7.ownsRow (w2.heap.size + 1) 50 2 v7 (out ++ [(⟨kd, fi.name⟩ : St)]).length (scs (out ++ [(⟨kd, fi.name⟩ : St)]))) := by
                    rw [scs, cs2_snoc, List.length_append, List.length_singleton]
                    exact hown5
                  clear hb5 hown5 hgrow5 Hown Hq Hb
                  go_wp2_with fail
                  go_roundw
                  case rel => exact ⟨i + 1, k, out ++ [(⟨kd, fi.name⟩ : St)], by go_num, rfl, by omega, by omega, by simp; omega, by rw [List.append_assoc]; simpa [Hid, HI1.out] using HI.out, HP1.out, Hown5.out, Hq5.out, Hb5.out, Hs5.out⟩
                  case measure => simp [intOf]; omega
          · obtain rfl : i = F.length := by omega
            have hkT : k = T.length := by
              by_cases hk : k < T.length
              · obtain ⟨h, _⟩ := HC2.out rfl hk; exact absurd h hiF
              · omega
            have HO : Hid (planM F T = out) := by
              have h := HI.out
              rw [hkT, Go.Files.rem_end, List.append_nil] at h
              exact h.symm
            have hiF' : ((F.length : Int) == (F.length : Int)) = true := by simp
            clear HC1 HC2 HI HP hkT hiF
            rcases own_forms Hown.out with ⟨rfl, h0⟩ | ⟨gg, cc, rfl⟩
            all_goals
              go_wp2_with fail
              refine (HFn.out _).mono ?_
              rintro r w8 ⟨rfl, hb8⟩
              have hq8 := Hq.out.below hb8 Hq.out.lt
              have Hq8 := hide hq8
              have Hb8 := hide (bthen Hb.out hb8)
              have Hown8 := hide (own_below Hown.out hb8)
              clear hb8 Hq Hb Hown
              obtain ⟨q0, q1, p0, p1, qlt⟩ := hq8
              go_wp2_with fail
              (try simp only [Exit.inBlock, Exit.then])
              refine bodyPost_ret (v := .tuple #[_, .agg #[.int .i64 0, .int .i64 (-1)]]) ?_ rfl ⟨⟨_, rfl, by rw [HO.out]; exact Row2.of_own (ownsRow_setCell_below (ownsRow_setCell_below Hown8.out (a := ⟨w.heap.size, 0, none⟩) (by have := Hne.out; simp; omega) (.int .i64 0)) (a := ⟨w.heap.size, 1, none⟩) (by have := Hne.out; simp; omega) (.int .i64 (-1)))⟩, (Hb8.out.setCell (by simp) _).setCell (by simp) _⟩
              obtain ⟨x0, x1, _, _, _⟩ := Hq8.out.set 0 (-1)
              simp only [results, show Tryz.f16.results = #[.tmp 4, .cell 5 26] from rfl]
              go_simp

set_option maxHeartbeats 2000000 in
set_option maxRecDepth 100000 in
theorem planOf_bad1 (u v : Value) (F T : List Ln) (w : World) (hu : MRow w u F) (hv : MRow w v T) (hF : F.length ≤ 1000000) (hfs : ∀ x ∈ F, x.name.size ≤ 1000000) (h1 : (faultF (F.map keyL)).1 ≠ 0) :
    Calls Tryz.prog 16 #[u, v] w fun r w' => r = .returned (.tuple #[.slice none 0 0, .agg #[.int .i64 (faultF (F.map keyL)).1, .int .i64 (faultF (F.map keyL)).2]]) ∧ Below w.heap.size w w' := by
  have hba := (Below.refl w.heap.size w).alloc (Nat.le_refl _) (.cells #[.int .i64 0, .int .i64 0] 26)
  have HF1 := hide (linesFault_ok u F _ (hu.below hba) (by omega) hfs)
  have Hb0 := hide hba
  have Hq0 := hide (HvAt.fresh w 0 0 26)
  obtain ⟨q, c, rfl, _⟩ := hu
  obtain ⟨q', c', rfl, _⟩ := hv
  generalize faultF (F.map keyL) = f at *
  obtain ⟨fc, fa⟩ := f
  simp only at HF1 h1 ⊢
  have hfc : (0 : Int) < fc := by omega
  have hfn : ((fc : Int) == 0) = false := by simp; omega
  clear hba h1 hfs
  go_enter Tryz.func16, Tryz.ntmps16
  go_wp2_with fail
  refine HF1.out.mono ?_
  rintro r w2 ⟨rfl, hb2⟩
  have hb3 := hb2.alloc hb2.size (.cells #[.int .i64 fc, .int .i64 fa] 26)
  have hq3 := Hq0.out.below hb3 Hq0.out.lt
  have Hq3 := hide hq3
  have Hb3 := hide (bthen Hb0.out hb3)
  obtain ⟨q0, q1, p0, p1, qlt⟩ := hq3
  clear hb2 hb3 Hq0 Hb0 HF1
  go_wp2_with fail
  go_region
  all_goals
    go_wp2_with fail
    (try simp only [Exit.inBlock, Exit.then])
    refine bodyPost_ret (v := .tuple #[.slice none 0 0, .agg #[.int .i64 fc, .int .i64 fa]]) ?_ rfl ⟨rfl, ((Hb3.out.setCell (by simp) _).setCell (by simp) _).drew⟩
    obtain ⟨x0, x1, _, _, _⟩ := (Hq3.out.set fc fa).drew
    simp only [results, show Tryz.f16.results = #[.tmp 4, .cell 5 26] from rfl]
    go_simp

set_option maxHeartbeats 2000000 in
set_option maxRecDepth 100000 in
theorem planOf_bad2 (u v : Value) (F T : List Ln) (w : World) (hu : MRow w u F) (hv : MRow w v T) (hF : F.length ≤ 1000000) (hT : T.length ≤ 1000000) (hfs : ∀ x ∈ F, x.name.size ≤ 1000000) (hts : ∀ x ∈ T, x.name.size ≤ 1000000) (h1 : (faultF (F.map keyL)).1 = 0) (h2 : (faultF (T.map keyL)).1 ≠ 0) :
    Calls Tryz.prog 16 #[u, v] w fun r w' => r = .returned (.tuple #[.slice none 0 0, .agg #[.int .i64 (faultF (T.map keyL)).1, .int .i64 (faultF (T.map keyL)).2]]) ∧ Below w.heap.size w w' := by
  have hba := (Below.refl w.heap.size w).alloc (Nat.le_refl _) (.cells #[.int .i64 0, .int .i64 0] 26)
  have HF1 := hide (linesFault_ok u F _ (hu.below hba) (by omega) hfs)
  have HF2 := hide (fun W (h : MRow W v T) => linesFault_ok v T W h (by omega) hts)
  have HV := hide (fun W (h : Below w.heap.size w W) => hv.below h)
  rw [h1] at HF1
  generalize (faultF (F.map keyL)).2 = ea at *
  have Hb0 := hide hba
  have Hq0 := hide (HvAt.fresh w 0 0 26)
  obtain ⟨q, c, rfl, _⟩ := hu
  obtain ⟨q', c', rfl, _⟩ := hv
  generalize faultF (T.map keyL) = f at *
  obtain ⟨fc, fa⟩ := f
  simp only at HF2 h2 ⊢
  have hfc : (0 : Int) < fc := by omega
  clear hba h1 h2 hfs hts
  go_enter Tryz.func16, Tryz.ntmps16
  go_wp2_with fail
  refine HF1.out.mono ?_
  rintro r w2 ⟨rfl, hb2⟩
  have hb3 := hb2.alloc hb2.size (.cells #[.int .i64 ((0 : Nat) : Int), .int .i64 ea] 26)
  have Hq3 := hide (Hq0.out.below hb3 Hq0.out.lt)
  have hg3 := HvAt.fresh w2 ((0 : Nat) : Int) ea 26
  have Hg3 := hide hg3
  have Hb3 := hide (bthen Hb0.out hb3)
  have Hne : Hid (w.heap.size < w2.heap.size) := by have := hb2.size; simp at this; exact this
  clear hb2 hb3 Hq0 Hb0 HF1
  go_upto_region 2 with fail
  generalize w2.alloc (.cells #[.int .i64 ((0 : Nat) : Int), .int .i64 ea] 26) = w3 at *
  have hg3' : HvAt w2.heap.size w3 0 ea := hg3
  obtain ⟨y0, y1, z0, z1, ylt⟩ := hg3'
  clear hg3
  go_wp2_with fail
  refine (HF2.out _ (HV.out _ Hb3.out)).mono ?_
  rintro r w4 ⟨rfl, hb4⟩
  have hg4 := Hg3.out.below hb4 Hg3.out.lt
  have hq4 := Hq3.out.below hb4 Hq3.out.lt
  have hbS : Below w2.heap.size w4 ((w4.setCell ⟨w2.heap.size, 0, none⟩ (.int .i64 fc)).setCell ⟨w2.heap.size, 1, none⟩ (.int .i64 fa)) := ((Below.refl w2.heap.size w4).setCell (by simp) _).setCell (by simp) _
  have hq5 := hq4.below hbS Hne.out
  have Hq5 := hide hq5
  have hg5 : HvAt w2.heap.size ((w4.setCell ⟨w2.heap.size, 0, none⟩ (.int .i64 fc)).setCell ⟨w2.heap.size, 1, none⟩ (.int .i64 fa)) fc fa := hg4.set fc fa
  have Hb5 := hide ((bthen Hb3.out hb4).trans (hbS.mono (Nat.le_of_lt Hne.out)))
  have hg4' : HvAt w2.heap.size w4 0 ea := hg4
  obtain ⟨x0, x1, v0, v1, xlt⟩ := hg4'
  obtain ⟨g0, g1, f0, f1, glt⟩ := hg5
  obtain ⟨q0, q1, p0, p1, qlt⟩ := hq5
  clear hb4 hbS hq4 hg4 Hb3 Hq3 Hg3 HF2 y0 y1 z0 z1 ylt
  go_upto_region 5 with fail
  generalize ((w4.setCell ⟨w2.heap.size, 0, none⟩ (.int .i64 (fc : Int))).setCell ⟨w2.heap.size, 1, none⟩ (.int .i64 fa)) = w5 at *
  clear x0 x1 v0 v1 xlt
  go_region
  all_goals
    go_wp2_with fail
    (try simp only [Exit.inBlock, Exit.then])
    refine bodyPost_ret (v := .tuple #[.slice none 0 0, .agg #[.int .i64 fc, .int .i64 fa]]) ?_ rfl ⟨rfl, ((Hb5.out.setCell (by simp) _).setCell (by simp) _).drew⟩
    obtain ⟨x0, x1, _, _, _⟩ := (Hq5.out.set fc fa).drew
    simp only [results, show Tryz.f16.results = #[.tmp 4, .cell 5 26] from rfl]
    go_simp

theorem planOf_ok (u v : Value) (F T : List Ln) (w : World) (hu : MRow w u F) (hv : MRow w v T) (hF : F.length ≤ 1000000) (hT : T.length ≤ 1000000) (hfs : ∀ x ∈ F, x.name.size ≤ 1000000) (hts : ∀ x ∈ T, x.name.size ≤ 1000000) :
    Calls Tryz.prog 16 #[u, v] w fun r w' => (∃ x, r = .returned (.tuple #[x, .agg #[.int .i64 (planOut F T).2.1, .int .i64 (planOut F T).2.2]]) ∧ SRow w' x (planOut F T).1) ∧ Below w.heap.size w w' := by
  unfold planOut
  by_cases h1 : (faultF (F.map keyL)).1 = 0
  · rw [if_pos h1]
    by_cases h2 : (faultF (T.map keyL)).1 = 0
    · rw [if_pos h2]
      have l1 := (Go.Files.faultF_zero.1 h1).len
      have l2 := (Go.Files.faultF_zero.1 h2).len
      rw [List.length_map] at l1 l2
      exact planOf_main u v F T w hu hv l1 l2 hfs hts h1 h2
    · rw [if_neg h2]
      exact (planOf_bad2 u v F T w hu hv hF hT hfs hts h1 h2).mono fun _ _ ⟨h, hb⟩ => ⟨⟨_, h, Row2.nil _⟩, hb⟩
  · rw [if_neg h1]
    exact (planOf_bad1 u v F T w hu hv hF hfs h1).mono fun _ _ ⟨h, hb⟩ => ⟨⟨_, h, Row2.nil _⟩, hb⟩
end Go.Proofs.YtbflmkjlpopeaadGreatDoor
