/-
  The walk of the law FilesKeep over the contracts.
-/
import Derived.Test.YtbflmkjlpopeaadDoorJoin04
import Derived.Test.YtbflmkjlpopeaadDoorJoin05
import Derived.Deep.DeepCutAuto
namespace Go.Proofs.YtbflmkjlpopeaadDoor
open Go.RowKit
open Go.Files (Fl Ln St lt getF faultF keyL keyF encL planM lineOf Well StepOk kSend kKeep kDrop FineL Mid dropped dropF insF putF)

theorem fair_of {f : Fl} (h : Go.Files.okK (keyF f)) : f.name.size ≤ 1000000 ∧ f.data.size ≤ 1000000 := by
  obtain ⟨h1, h2, h3⟩ := h
  simp only [keyF, Go.Files.isNm, Bool.and_eq_true] at h1 h3
  have := of_decide_eq_true h1.2.2
  omega

/-- Where no error is met. -/
structure FilesDrop : Prop where
  drop : ∀ v l n W, FRow W v l → Fair l → n.size ≤ 1000000 → Calls Tryd.prog 23 #[v, .string n] W fun r w' => (∃ u, r = .returned u ∧ FRow w' u (dropF l n)) ∧ Below W.heap.size W w'

set_option maxHeartbeats 4000000 in
set_option maxRecDepth 100000 in
theorem fkeep_main (fa ta : Option Addr) (fc tc : Nat) (F T : List Fl) (Env : World → Prop) (w : World) (hS : Env w) (hEB : ∀ w w', Env w → Below w.heap.size w w' → Env w') (hG : FilesGet) (hA : FilesAll Env) (hL : LinesPlan Env) (hD : FilesDrop) (hF : FRow w (.slice fa F.length fc) F) (hT : FRow w (.slice ta T.length tc) T) (hlF : longF F 100 = false) (hlT : longF T 100 = false) :
    Calls Tryd.prog 5 #[.slice fa F.length fc, .slice ta T.length tc] w fun r w' => r = .returned (.bool true) ∧ Below w.heap.size w w' := by
  obtain ⟨hF25, hFx⟩ := longF_false hlF
  obtain ⟨hT25, hTx⟩ := longF_false hlT
  have hfF : Fair F := ⟨by omega, fun x hx => by have := hFx x hx; omega⟩
  have hfT : Fair T := ⟨by omega, fun x hx => by have := hTx x hx; omega⟩
  have HM := hide (filed_ok Env w hS hEB hG hA)
  have HV := hide (fun W (h : Below w.heap.size w W) => hEB w W hS h)
  have HF := hide (fun W (h : Below w.heap.size w W) => hF.below h)
  have HT := hide (fun W (h : Below w.heap.size w W) => hT.below h)
  have HLF := hide (fun W (h : FRow W (.slice fa F.length fc) F) => longFiles_ok _ F 100 W h)
  have HLT := hide (fun W (h : FRow W (.slice ta T.length tc) T) => longFiles_ok _ T 100 W h)
  rw [hlF] at HLF
  rw [hlT] at HLT
  have HOF := hide (fun W (h : FRow W (.slice fa F.length fc) F) => ownFiles_ok _ F W h (by omega))
  have HOT := hide (fun W (h : FRow W (.slice ta T.length tc) T) => ownFiles_ok _ T W h (by omega))
  have HLi := hide (fun v W (h : FRow W v F) (k : Env W) => hA.list v F W h hfF k)
  have HLj := hide (fun v W (h : FRow W v T) (k : Env W) => hA.list v T W h hfT k)
  have HTe := hide hL
  have HDr := hide hD
  have HAl := hide hA
  have HGt := hide hG
  have HTx' := hide (show ∀ x ∈ T, x.name.size ≤ 1000000 ∧ x.data.size ≤ 1000000 from hfT.2)
  have HGF := hide (fun n W (h : FRow W (.slice fa F.length fc) F) (k : n.size ≤ 1000000) => hG.get _ F n W h hfF k)
  have Hw1 := hide (fun h => @Go.Files.faultF_zero (F.map keyF) |>.1 h)
  have Hw2 := hide (fun h => @Go.Files.faultF_zero (T.map keyF) |>.1 h)
  have HlF0 : Hid ((faultF (F.map keyF)).1 ≠ 0 → listF F = []) := fun h => by unfold listF; rw [if_neg h]
  have HlF : Hid ((faultF (F.map keyF)).1 = 0 → listF F = F.map lineOf) := fun h => by unfold listF; rw [if_pos h]; rfl
  have HlT : Hid ((faultF (T.map keyF)).1 = 0 → listF T = T.map lineOf) := fun h => by unfold listF; rw [if_pos h]; rfl
  generalize (faultF (F.map keyF)).1 = e1 at *
  generalize (faultF (T.map keyF)).1 = e2 at *
  clear hS hEB hG hA hL hD hT hlF hlT hFx hTx hfF hfT hF
  go_enter Tryd.func5, Tryd.ntmps5
  go_wp2_with fail
  refine HM.out.mono ?_
  rintro r w1 ⟨rfl, hb1⟩
  have Hb1 := hide hb1
  clear hb1 HM
  go_wp2_with fail
  refine (HLF.out _ (HF.out _ Hb1.out)).mono ?_
  rintro r w2 ⟨rfl, rfl⟩
  go_wp2_with fail
  refine (HLT.out _ (HT.out _ Hb1.out)).mono ?_
  rintro r w2 ⟨rfl, rfl⟩
  rw [show bit false = 0 from rfl]
  clear HLF HLT
  go_wp2_with fail
  refine (HOF.out _ (HF.out _ Hb1.out)).mono ?_
  rintro r w3 ⟨⟨u3, rfl, hu3⟩, hb3⟩
  have Hu3 := hide hu3
  obtain ⟨a3, c3, rfl, -⟩ := hu3
  have Hb3 := hide (bthen Hb1.out hb3)
  clear hb3 Hb1 HOF
  go_wp2_with fail
  refine (HLi.out _ _ Hu3.out (HV.out _ Hb3.out)).mono ?_
  rintro r w4 ⟨⟨u4, x4, rfl, hu4, hx4⟩, hb4⟩
  have Hu4 := hide hu4
  have Hx4 := hide hx4
  have Hb4 := hide (bthen Hb3.out hb4)
  clear hb4 Hb3 Hu3 HLi hx4
  generalize hl4 : listF F = L4 at *
  have HL4 := hide hl4
  clear hl4
  obtain ⟨a4, c4, rfl, -⟩ := hu4
  go_wp2_with fail
  refine (HOT.out _ (HT.out _ Hb4.out)).mono ?_
  rintro r w5 ⟨⟨u5, rfl, hu5⟩, hb5⟩
  have Hu5 := hide hu5
  obtain ⟨a5, c5, rfl, -⟩ := hu5
  have Hu4' := hide (Hu4.out.below hb5)
  have Hb5 := hide (bthen Hb4.out hb5)
  clear hb5 Hb4 Hu4
  go_wp2_with fail
  refine (HLj.out _ _ Hu5.out (HV.out _ Hb5.out)).mono ?_
  rintro r w6 ⟨⟨u6, x6, rfl, hu6, hx6⟩, hb6⟩
  have Hu6 := hide hu6
  have Hx6 := hide hx6
  have Hu4'' := hide (Hu4'.out.below hb6)
  have Hb6 := hide (bthen Hb5.out hb6)
  clear hb6 Hb5 Hu5 HLj hx6 Hu4'
  generalize hl6 : listF T = L6 at *
  have HL6 := hide hl6
  clear hl6
  obtain ⟨a6, c6, rfl, -⟩ := hu6
  by_cases he1 : e1 = 0
  · by_cases he2 : e2 = 0
    · have hx := Hx4.out.none he1
      have hy := Hx6.out.none he2
      subst hx hy
      have hwF : Well (F.map keyF) := Hw1.out he1
      have hwT : Well (T.map keyF) := Hw2.out he2
      have h4 : L4 = F.map lineOf := HlF.out he1
      have h6 : L6 = T.map lineOf := HlT.out he2
      have hkF : Well (L4.map keyL) := by rw [h4, Go.Files.line_keys]; exact hwF
      have hkT : Well (L6.map keyL) := by rw [h6, Go.Files.line_keys]; exact hwT
      have hpF : ∀ x ∈ L4, FineL x := by rw [h4]; exact Go.Files.lines_fine hwF
      have hpT : ∀ x ∈ L6, FineL x := by rw [h6]; exact Go.Files.lines_fine hwT
      have HPa := hide (fun u v W (h : LRow W u L4) (h' : LRow W v L4) (k : Env W) => HTe.out.plan u v L4 L4 W h h' hkF hkF hpF hpF k)
      have HPl := hide (fun u v W (h : LRow W u L4) (h' : LRow W v L6) (k : Env W) => HTe.out.plan u v L4 L6 W h h' hkF hkT hpF hpT k)
      have hlen4 := hkF.len
      rw [List.length_map] at hlen4
      rw [Go.Files.plan_self] at HPa
      have hQl : (L4.map fun f => (⟨kKeep, f.name⟩ : St)).length = L4.length := by simp
      have hQk : ∀ (i : Nat) (h : i < (L4.map fun f => (⟨kKeep, f.name⟩ : St)).length), ((L4.map fun f => (⟨kKeep, f.name⟩ : St))[i]).kind = kKeep := fun i h => by simp
      generalize (L4.map fun f => (⟨kKeep, f.name⟩ : St)) = Q at *
      have hSt : ∀ s ∈ planM L4 L6, StepOk F T s := by rw [h4, h6]; exact Go.Files.plan_steps hwF hwT
      have hRi : Go.Files.Rise ((planM L4 L6).map (·.name)) := by rw [h4, h6]; exact Go.Files.plan_rise _ _ (Go.Files.rise_lines hwF) (Go.Files.rise_lines hwT)
      have hMs : Mid F T (planM L4 L6) 0 (dropped T (planM L4 L6) (planM L4 L6).length) := by rw [h4, h6]; exact Go.Files.mid_start hwF hwT
      have hMe : ∀ now, Mid F T (planM L4 L6) (planM L4 L6).length now → now.map lineOf = L4 := by rw [h4, h6]; exact fun now h => Go.Files.mid_end hwF hwT h
      have hPn : (planM L4 L6).length ≤ 1000 := by
        have := plan_len0 L4 L6
        have h7 := hkT.len
        rw [List.length_map] at h7
        omega
      have hNm : ∀ s ∈ planM L4 L6, s.name.size ≤ 1000000 := by
        intro s hs
        rcases Go.Files.plan_mem s _ _ hs with ⟨f, hf, e⟩ | ⟨f, hf, e⟩
        · rw [e]; have := (hpF f hf).1; omega
        · rw [e]; have := (hpT f hf).1; omega
      generalize planM L4 L6 = P at *
      have HSt := hide hSt
      have HRi := hide hRi
      have HMs := hide hMs
      have HMe := hide hMe
      have HNm := hide hNm
      have HWF := hide hwF
      have HQk := hide hQk
      have hPn' : (P.length : Int) ≤ 1000 := by omega
      have hQl' : (Q.length : Int) = L4.length := by omega
      have hl4' : (L4.length : Int) ≤ 20 := by omega
      have HDj : Hid (∀ (j : Nat) (v : Value) (n : ByteArray) (W : World), FRow W v (dropped T P j) → n.size ≤ 1000000 → Calls Tryd.prog 23 #[v, .string n] W fun r w' => (∃ u, r = .returned u ∧ FRow w' u (dropF (dropped T P j) n)) ∧ Below W.heap.size W w') := fun j v n W h hn =>
        HDr.out.drop v _ n W h ⟨Nat.le_trans (List.length_filter_le ..) (by omega), fun x hx => HTx'.out x (List.mem_filter.1 hx).1⟩ hn
      clear Hw1 Hw2 HlF HlF0 HlT HTe hwF hwT h4 h6 hkF hkT hpF hpT hSt hRi hMs hMe hNm he1 he2 Hx4 Hx6 HL4 HL6 HDr HTx' hQk
      go_wp2_with fail
      refine (HPa.out _ _ _ Hu4''.out Hu4''.out (HV.out _ Hb6.out)).mono ?_
      rintro r w7 ⟨⟨p7, rfl, hp7⟩, hb7⟩
      have Hu47 := hide (Hu4''.out.below hb7)
      have Hu67 := hide (Hu6.out.below hb7)
      have Hp7 := hide hp7
      have Hb7 := hide (bthen Hb6.out hb7)
      obtain ⟨a7, c7, rfl, -⟩ := hp7
      clear hb7 Hb6 HPa Hu4'' Hu6
      go_wp2_with fail
      refine (HPl.out _ _ _ Hu47.out Hu67.out (HV.out _ Hb7.out)).mono ?_
      rintro r w8 ⟨⟨p8, rfl, hp8⟩, hb8⟩
      have Hu48 := hide (Hu47.out.below hb8)
      have Hp78 := hide (Hp7.out.below hb8)
      have Hp8 := hide hp8
      have Hb8 := hide (bthen Hb7.out hb8)
      obtain ⟨a8, c8, rfl, -⟩ := hp8
      obtain ⟨_, _, e78, h78⟩ := Hp78.out
      simp only [Value.slice.injEq] at e78
      obtain ⟨rfl, -, rfl⟩ := e78
      have HC7 := hide h78
      clear hb8 Hb7 HPl Hu47 Hu67 Hp7 h78 Hp78
      go_wp2_with fail
      go_loopw [12] (fun t wr => ∃ j : Nat, t = .int .i64 j ∧ j ≤ Q.length ∧ Hid (Below w8.heap.size w8 wr)) (fun t _ => Q.length - (intOf t).toNat)
      case atStart => exact ⟨0, rfl, by omega, Below.refl _ _⟩
      case round =>
        obtain ⟨j, rfl, hj, Hb⟩ := hrel
        by_cases hlt : j < Q.length
        · have hlt' : (j : Int) < Q.length := by omega
          obtain ⟨b1, o1, rfl, hc1⟩ := HC7.out (by omega)
          obtain ⟨m0, m1⟩ := hc1 j hlt
          have d0 := (Hb.out.cell (World.block_lt_of_cell? _ _ m0)).trans m0
          rw [HQk.out j hlt] at d0
          clear hc1 m0 m1
          simp only [kKeep] at d0
          go_wp2_with fail
          go_roundw
          case rel => exact ⟨j + 1, by go_num, by omega, Hb.out⟩
          case measure => simp [intOf]; omega
        · have hle : (Q.length : Int) ≤ (j : Int) := by omega
          have Hb9 := hide (bthen Hb8.out Hb.out)
          have Hu49 := hide (Hu48.out.below Hb.out)
          have Hp9 := hide (Hp8.out.below Hb.out)
          clear HC7 HQk Hb Hb8 Hu48 Hp8
          generalize wr = w9 at *
          go_wp2_with fail
          refine (HOT.out _ (HT.out _ Hb9.out)).mono ?_
          rintro r w10 ⟨⟨u10, rfl, hu10⟩, hb10⟩
          have Hu10 := hide hu10
          have Hu40 := hide (Hu49.out.below hb10)
          have hp10 := Hp9.out.below hb10
          have Hb10 := hide (bthen Hb9.out hb10)
          obtain ⟨a10, c10, rfl, -⟩ := hu10
          obtain ⟨_, _, e8, h8⟩ := hp10
          simp only [Value.slice.injEq] at e8
          obtain ⟨rfl, -, rfl⟩ := e8
          have HC := hide h8
          clear hb10 Hb9 Hu49 Hp9 h8 hle hj HOT
          go_wp2_with fail
          go_loopw [13, 14] (fun t13 t14 wr => ∃ j : Nat, t14 = .int .i64 j ∧ j ≤ P.length ∧ Hid (FRow wr t13 (dropped T P j)) ∧ Hid (Below w10.heap.size w10 wr)) (fun _ t14 _ => P.length - (intOf t14).toNat)
          case atStart => exact ⟨0, rfl, by omega, by rw [Go.Files.dropped_zero]; exact Hu10.out, Below.refl _ _⟩
          case round =>
            obtain ⟨j, rfl, hj, Hn, Hb⟩ := hrel
            by_cases hlt : j < P.length
            · have hlt' : (j : Int) < P.length := by omega
              obtain ⟨b1, o1, rfl, hc1⟩ := HC.out (by omega)
              obtain ⟨m0, m1⟩ := hc1 j hlt
              have d0 := (Hb.out.cell (World.block_lt_of_cell? _ _ m0)).trans m0
              have d1 := (Hb.out.cell (World.block_lt_of_cell? _ _ m1)).trans m1
              have HX := hide (Go.Files.dropped_step T P j hlt)
              have hs := HSt.out _ (List.getElem_mem hlt)
              have HN1 := hide (HNm.out _ (List.getElem_mem hlt))
              have HDn := hide (HDj.out j)
              clear hc1 m0 m1
              generalize P[j] = s at *
              obtain ⟨k, n⟩ := s
              simp only at d0 d1 HX HN1
              simp only [StepOk] at hs
              have hn13 := Hn.out
              obtain ⟨a13, c13, rfl, -⟩ := hn13
              rcases hs with ⟨rfl, -⟩ | ⟨rfl, -⟩ | ⟨rfl, -⟩
              · rw [if_pos rfl] at HX
                simp only [kDrop] at d0
                go_wp2_with fail
                refine (HDn.out _ _ _ Hn.out HN1.out).mono ?_
                rintro r w11 ⟨⟨u11, rfl, hu11⟩, hb11⟩
                have Hu11 : Hid (FRow w11 u11 (dropped T P (j + 1))) := by rw [HX.out]; exact hu11
                have Hb11 := hide (bthen Hb.out hb11)
                obtain ⟨a11, c11, rfl, -⟩ := hu11
                clear hb11 Hb Hn HX
                go_wp2_with fail
                go_roundw
                case rel => exact ⟨j + 1, by go_num, by omega, Hu11.out, Hb11.out⟩
                case measure => simp [intOf]; omega
              · rw [if_neg Go.Files.send_ne_drop] at HX
                simp only [kSend] at d0
                go_wp2_with fail
                go_roundw
                case rel => exact ⟨j + 1, by go_num, by omega, by rw [HX.out]; exact Hn.out, Hb.out⟩
                case measure => simp [intOf]; omega
              · rw [if_neg Go.Files.keep_ne_drop] at HX
                simp only [kKeep] at d0
                go_wp2_with fail
                go_roundw
                case rel => exact ⟨j + 1, by go_num, by omega, by rw [HX.out]; exact Hn.out, Hb.out⟩
                case measure => simp [intOf]; omega
            · have hle : (P.length : Int) ≤ (j : Int) := by omega
              have hjl : j = P.length := by omega
              subst hjl
              have Hb11 := hide (bthen Hb10.out Hb.out)
              have Hu41 := hide (Hu40.out.below Hb.out)
              have HC' : Hid (∀ (i : Nat) (h : i < P.length), ∃ b o, a8 = some ⟨b, o, none⟩ ∧ wr.cell? ⟨b, o + i * 2, none⟩ = some (.string P[i].kind) ∧ wr.cell? ⟨b, o + i * 2 + 1, none⟩ = some (.string P[i].name)) := fun i h => by
                obtain ⟨b, o, e, hc⟩ := HC.out (by omega)
                exact ⟨b, o, e, (Hb.out.cell (World.block_lt_of_cell? _ _ (hc i h).1)).trans (hc i h).1, (Hb.out.cell (World.block_lt_of_cell? _ _ (hc i h).2)).trans (hc i h).2⟩
              clear HC HDj Hb Hb10 Hu40 Hu10
              generalize dropped T P P.length = D at *
              generalize wr = w11 at *
              have hn13 := Hn.out
              obtain ⟨a13, c13, rfl, -⟩ := hn13
              go_wp2_with fail
              go_loopw [13, 15] (fun t13 t15 wr => ∃ (j : Nat) (now : List Fl), t15 = .int .i64 j ∧ j ≤ P.length ∧ Hid (FRow wr t13 now) ∧ Hid (Mid F T P j now) ∧ Hid (Below w11.heap.size w11 wr)) (fun _ t15 _ => P.length - (intOf t15).toNat)
              case atStart => exact ⟨0, D, rfl, by omega, Hn.out, HMs.out, Below.refl _ _⟩
              case round =>
                clear Hn HMs hj hle
                obtain ⟨j, now, rfl, hj, Hn, HM, Hb⟩ := hrel
                have hn13 := Hn.out
                obtain ⟨a13, c13, rfl, -⟩ := hn13
                have hnl : now.length ≤ 20 := Go.Files.sub_len HWF.out HM.out.rise HM.out.sub
                have Hfn : Hid (Fair now) := ⟨by omega, fun x hx => fair_of (HM.out.ok x hx)⟩
                by_cases hlt : j < P.length
                · have hlt' : (j : Int) < P.length := by omega
                  obtain ⟨b1, o1, rfl, m0, m1⟩ := HC'.out j hlt
                  have d0 := (Hb.out.cell (World.block_lt_of_cell? _ _ m0)).trans m0
                  have d1 := (Hb.out.cell (World.block_lt_of_cell? _ _ m1)).trans m1
                  have hs := HSt.out _ (List.getElem_mem hlt)
                  have HN1 := hide (HNm.out _ (List.getElem_mem hlt))
                  have HSk := hide (fun h => HM.out.skip hlt h)
                  have HSd := hide (fun h d h' => HM.out.send HWF.out HRi.out hlt h (d := d) h')
                  clear m0 m1
                  generalize P[j] = s at *
                  obtain ⟨k, n⟩ := s
                  simp only at d0 d1 HN1 HSk HSd
                  simp only [StepOk] at hs
                  rcases hs with ⟨rfl, -⟩ | ⟨rfl, u, h1, -⟩ | ⟨rfl, -⟩
                  · have HS' := hide (HSk.out Go.Files.send_ne_drop.symm)
                    simp only [kDrop] at d0
                    clear HSk HSd
                    go_wp2_with fail
                    go_roundw
                    case rel => exact ⟨j + 1, now, by go_num, by omega, Hn.out, HS'.out, Hb.out⟩
                    case measure => simp [intOf]; omega
                  · have HS' := hide (HSd.out rfl u h1)
                    simp only [kSend] at d0
                    have hud : u.size ≤ 1000000 := by
                      have := fair_of (HWF.out.ok _ (List.mem_map_of_mem (f := keyF) (Go.Files.getF_mem h1)))
                      exact this.2
                    have hpw := Go.Files.put_well (HM.out.well HWF.out) (HS'.out.well HWF.out)
                    have HPt := hide (HAl.out.put (.slice a13 now.length c13) now n u)
                    rw [hpw] at HPt
                    simp only at HPt
                    have Hu := hide hud
                    have H1 := hide h1
                    have Hgi := hide (fun x => Go.Files.getF_ins n u now HM.out.rise x)
                    have Hgn := hide (fun (i : Nat) (h : i < now.length) => Go.Files.getF_of_mem HM.out.rise (List.getElem_mem h))
                    have hfi : Fair (insF n u now) := ⟨Nat.le_trans (Go.Files.sub_len HWF.out HS'.out.rise HS'.out.sub) (by omega), fun x hx => fair_of (HS'.out.ok x hx)⟩
                    have HGi := hide (fun v a W (h : FRow W v (insF n u now)) (k : a.size ≤ 1000000) => HGt.out.get v _ a W h hfi k)
                    clear HSk HSd hpw hud h1 hfi HM
                    go_wp2_with fail
                    refine (HGF.out _ _ (HF.out _ (bthen Hb11.out Hb.out)) HN1.out).mono ?_
                    rintro r w12 ⟨rfl, hb12⟩
                    rw [H1.out]
                    have e0 := (hb12.cell (World.block_lt_of_cell? _ _ d0)).trans d0
                    have e1 := (hb12.cell (World.block_lt_of_cell? _ _ d1)).trans d1
                    have Hn12 := hide (Hn.out.below hb12)
                    have Hb12 := hide (bthen Hb.out hb12)
                    clear hb12 d0 d1 Hb Hn
                    simp only [gOut]
                    go_wp2_with fail
                    refine (HPt.out _ Hn12.out Hfn.out HN1.out Hu.out (HV.out _ (bthen Hb11.out Hb12.out))).mono ?_
                    rintro r w13 ⟨⟨u13, x13, rfl, hu13, hx13⟩, hb13⟩
                    obtain rfl := hx13.none rfl
                    have d1 := (hb13.cell (World.block_lt_of_cell? _ _ e1)).trans e1
                    have Hu13 := hide hu13
                    have hn13 := Hn12.out.below hb13
                    have Hb13 := hide (bthen Hb12.out hb13)
                    obtain ⟨a14, c14, rfl, -⟩ := hu13
                    obtain ⟨_, _, e13, hwas⟩ := hn13
                    simp only [Value.slice.injEq] at e13
                    obtain ⟨rfl, -, rfl⟩ := e13
                    have HW := hide hwas
                    have D1 := hide d1
                    have hnl' : (now.length : Int) ≤ 20 := by omega
                    clear hb13 e0 e1 Hb12 hx13 hwas Hn12 HPt d1
                    go_wp2_with fail
                    go_loopw [21] (fun t wr => ∃ k : Nat, t = .int .i64 k ∧ k ≤ now.length ∧ Hid (Below w13.heap.size w13 wr)) (fun t _ => now.length - (intOf t).toNat)
                    case atStart => exact ⟨0, rfl, by omega, Below.refl _ _⟩
                    case round =>
                      obtain ⟨k, rfl, hk, Hc⟩ := hrel
                      by_cases hkt : k < now.length
                      · have hkt' : (k : Int) < now.length := by omega
                        obtain ⟨b2, o2, rfl, hc2⟩ := HW.out (by omega)
                        obtain ⟨m0, m1⟩ := hc2 k hkt
                        have f0 := (Hc.out.cell (World.block_lt_of_cell? _ _ m0)).trans m0
                        have f1 := (Hc.out.cell (World.block_lt_of_cell? _ _ m1)).trans m1
                        have d1 := (Hc.out.cell (World.block_lt_of_cell? _ _ D1.out)).trans D1.out
                        have Hg := hide (Hgi.out now[k].name)
                        rw [Hgn.out k hkt] at Hg
                        have Hsz := hide ((Hfn.out.2 _ (List.getElem_mem hkt)).1)
                        clear hc2 m0 m1
                        generalize now[k] = x at *
                        obtain ⟨xn, xd⟩ := x
                        simp only at f0 f1 Hg Hsz
                        go_wp2_with fail
                        refine (HGi.out _ _ _ (Hu13.out.below Hc.out) Hsz.out).mono ?_
                        rintro r w14 ⟨rfl, hb14⟩
                        rw [Hg.out]
                        have g0 := (hb14.cell (World.block_lt_of_cell? _ _ f0)).trans f0
                        have g1 := (hb14.cell (World.block_lt_of_cell? _ _ f1)).trans f1
                        have k1 := (hb14.cell (World.block_lt_of_cell? _ _ d1)).trans d1
                        have Hb14 := hide (bthen Hc.out hb14)
                        clear hb14 f0 f1 d1 Hc Hg
                        by_cases hxn : xn = n
                        · subst hxn
                          rw [if_pos rfl]
                          have hq : (xn.toList == xn.toList) = true := by simp
                          simp only [gOut]
                          go_wp2_with fail
                          go_quiet (fail)
                          go_wp2_with fail
                          go_roundw
                          case rel => exact ⟨k + 1, by go_num, by omega, Hb14.out.trans ⟨rfl, rfl, rfl, Nat.le_refl _, fun _ _ => rfl⟩⟩
                          case measure => simp [intOf]; omega
                        · rw [if_neg hxn]
                          have hq : (xn.toList == n.toList) = false := by simp only [beq_eq_false_iff_ne, ne_eq]; intro e; exact hxn (bytes_inj e)
                          have hq2 : (xd.toList == xd.toList) = true := by simp
                          clear hxn
                          simp only [gOut]
                          go_wp2_with fail
                          go_quiet (fail)
                          go_wp2_with fail
                          go_roundw
                          case rel => exact ⟨k + 1, by go_num, by omega, Hb14.out.trans ⟨rfl, rfl, rfl, Nat.le_refl _, fun _ _ => rfl⟩⟩
                          case measure => simp [intOf]; omega
                      · have hkl : (now.length : Int) ≤ (k : Int) := by omega
                        have d1 := (Hc.out.cell (World.block_lt_of_cell? _ _ D1.out)).trans D1.out
                        have hg := Hgi.out n
                        rw [if_pos rfl] at hg
                        have Hg := hide hg
                        have hq : (u.toList == u.toList) = true := by simp
                        clear hg
                        go_wp2_with fail
                        refine (HGi.out _ _ _ (Hu13.out.below Hc.out) HN1.out).mono ?_
                        rintro r w14 ⟨rfl, hb14⟩
                        rw [Hg.out]
                        have Hu14 := hide (Hu13.out.below (bthen Hc.out hb14))
                        have Hb14 := hide (bthen Hb13.out (bthen Hc.out hb14))
                        clear hb14 d1 Hc Hg
                        simp only [gOut]
                        go_wp2_with fail
                        go_roundw
                        case rel => exact ⟨j + 1, insF n u now, by go_num, by omega, Hu14.out, HS'.out, Hb14.out⟩
                        case measure => simp [intOf]; omega
                  · have HS' := hide (HSk.out Go.Files.send_ne_keep.symm)
                    simp only [kKeep] at d0
                    clear HSk HSd
                    go_wp2_with fail
                    go_roundw
                    case rel => exact ⟨j + 1, now, by go_num, by omega, Hn.out, HS'.out, Hb.out⟩
                    case measure => simp [intOf]; omega
                · have hle : (P.length : Int) ≤ (j : Int) := by omega
                  have hjl : j = P.length := by omega
                  subst hjl
                  have hwn := HM.out.well HWF.out
                  have hln := HMe.out now HM.out
                  have hfz := Go.Files.faultF_well hwn
                  have hlf : listF now = L4 := by unfold listF; rw [hfz, if_pos rfl, lnOf_eq]; exact hln
                  have HLs := hide (HAl.out.list (.slice a13 now.length c13) now wr Hn.out Hfn.out (HV.out _ (bthen Hb11.out Hb.out)))
                  rw [hlf, hfz] at HLs
                  simp only at HLs
                  clear hwn hln hfz hlf HM HMe HC' HSt HRi HNm HWF HAl HGt HGF HF HT Hfn Hn
                  have HV' := HV
                  clear HV
                  go_wp2_with fail
                  refine HLs.out.mono ?_
                  rintro r w12 ⟨⟨u12, x12, rfl, hu12, hx12⟩, hb12⟩
                  obtain rfl := hx12.none rfl
                  have hu42 := Hu41.out.below (bthen Hb.out hb12)
                  have Hb12 := hide (bthen Hb11.out (bthen Hb.out hb12))
                  obtain ⟨a12, c12, rfl, h12⟩ := hu12
                  obtain ⟨_, _, e4, h4⟩ := hu42
                  simp only [Value.slice.injEq] at e4
                  obtain ⟨rfl, -, -⟩ := e4
                  have HC8 := hide h12
                  have HC4 := hide h4
                  have HN := hide (fun (i : Nat) (h : i < L4.length) => line_neq L4[i])
                  clear hb12 hx12 h12 h4 Hu41 Hb Hb11 HLs HV'
                  go_wp2_with fail
                  go_loopw [27] (fun t wr => ∃ j : Nat, t = .int .i64 j ∧ j ≤ L4.length ∧ Hid (Below w12.heap.size w12 wr)) (fun t _ => L4.length - (intOf t).toNat)
                  case atStart => exact ⟨0, rfl, by omega, Below.refl _ _⟩
                  case round =>
                    obtain ⟨i, rfl, hi, Hb⟩ := hrel
                    by_cases hlt : i < L4.length
                    · have hlt' : (i : Int) < L4.length := by omega
                      obtain ⟨b1, o1, rfl, hc1⟩ := HC8.out (by omega)
                      obtain ⟨b2, o2, rfl, hc2⟩ := HC4.out (by omega)
                      obtain ⟨m0, m1, m2⟩ := hc1 i hlt
                      obtain ⟨n0, n1, n2⟩ := hc2 i hlt
                      have d0 := (Hb.out.cell (World.block_lt_of_cell? _ _ m0)).trans m0
                      have d1 := (Hb.out.cell (World.block_lt_of_cell? _ _ m1)).trans m1
                      have d2 := (Hb.out.cell (World.block_lt_of_cell? _ _ m2)).trans m2
                      have k0 := (Hb.out.cell (World.block_lt_of_cell? _ _ n0)).trans n0
                      have k1 := (Hb.out.cell (World.block_lt_of_cell? _ _ n1)).trans n1
                      have k2 := (Hb.out.cell (World.block_lt_of_cell? _ _ n2)).trans n2
                      have HQ := hide (HN.out i hlt)
                      clear hc1 hc2 m0 m1 m2 n0 n1 n2
                      generalize L4[i] = x at *
                      have hN := fun w => HQ.out w
                      go_wp2_with fail
                      go_quiet (fail)
                      go_wp2_with fail
                      go_roundw
                      case rel => exact ⟨i + 1, by go_num, by omega, Hb.out.trans ⟨rfl, rfl, rfl, Nat.le_refl _, fun _ _ => rfl⟩⟩
                      case measure => simp [intOf]; omega
                    · have hle : (L4.length : Int) ≤ (i : Int) := by omega
                      go_wp2_with fail
                      go_ret
                      exact ⟨rfl, bthen Hb12.out Hb.out⟩
    · have hx := Hx4.out.none he1
      subst hx
      obtain ⟨t6, v6, rfl⟩ := Hx6.out.some (by omega)
      go_wp2_with fail
      go_ret
      exact ⟨rfl, Hb6.out⟩
  · obtain ⟨t4, v4, rfl⟩ := Hx4.out.some (by omega)
    have hl4 := HlF0.out he1
    subst hl4
    go_wp2_with fail
    go_ret
    exact ⟨rfl, Hb6.out⟩

set_option maxHeartbeats 2000000 in
set_option maxRecDepth 100000 in
theorem fkeep_early (fa ta : Option Addr) (fc tc : Nat) (F T : List Fl) (Env : World → Prop) (w : World) (hS : Env w) (hEB : ∀ w w', Env w → Below w.heap.size w w' → Env w') (hG : FilesGet) (hA : FilesAll Env) (hF : FRow w (.slice fa F.length fc) F) (hT : FRow w (.slice ta T.length tc) T) (h : longF F 100 = true ∨ longF T 100 = true) :
    Calls Tryd.prog 5 #[.slice fa F.length fc, .slice ta T.length tc] w fun r w' => r = .returned (.bool true) ∧ Below w.heap.size w w' := by
  have HM := hide (filed_ok Env w hS hEB hG hA)
  have HF := hide (fun W (h : Below w.heap.size w W) => hF.below h)
  have HT := hide (fun W (h : Below w.heap.size w W) => hT.below h)
  have HLF := hide (fun W (h : FRow W (.slice fa F.length fc) F) => longFiles_ok _ F 100 W h)
  have HLT := hide (fun W (h : FRow W (.slice ta T.length tc) T) => longFiles_ok _ T 100 W h)
  have H := hide h
  generalize longF F 100 = x at *
  generalize longF T 100 = y at *
  clear hS hEB hG hA hF hT h
  go_enter Tryd.func5, Tryd.ntmps5
  go_wp2_with fail
  refine HM.out.mono ?_
  rintro r w1 ⟨rfl, hb1⟩
  have Hb1 := hide hb1
  clear hb1 HM
  go_upto_region 2 with fail
  go_cut [38] (fun v38 wc => v38 = .bool true ∧ wc = w1)
  case first =>
    go_wp2_with fail
    refine (HLF.out _ (HF.out _ Hb1.out)).mono ?_
    rintro r w2 ⟨rfl, rfl⟩
    go_wp2_with fail
    refine (HLT.out _ (HT.out _ Hb1.out)).mono ?_
    rintro r w2 ⟨rfl, rfl⟩
    cases x with
    | true =>
      cases y with
      | true =>
        rw [show bit true = 1 from rfl]
        go_wp2_with fail
        go_meet
        case rel => exact ⟨rfl, rfl⟩
      | false =>
        rw [show bit true = 1 from rfl, show bit false = 0 from rfl]
        go_wp2_with fail
        go_meet
        case rel => exact ⟨rfl, rfl⟩
    | false =>
      cases y with
      | true =>
        rw [show bit true = 1 from rfl, show bit false = 0 from rfl]
        go_wp2_with fail
        go_meet
        case rel => exact ⟨rfl, rfl⟩
      | false => exact absurd H.out (by simp)
  case rest =>
    obtain ⟨rfl, rfl⟩ := hcut
    go_wp2
    go_ret
    exact ⟨rfl, Hb1.out⟩

theorem fkeep_walk (fa ta : Option Addr) (fc tc : Nat) (F T : List Fl) (Env : World → Prop) (w : World) (hS : Env w) (hEB : ∀ w w', Env w → Below w.heap.size w w' → Env w') (hG : FilesGet) (hA : FilesAll Env) (hL : LinesPlan Env) (hD : FilesDrop) (hF : FRow w (.slice fa F.length fc) F) (hT : FRow w (.slice ta T.length tc) T) :
    Calls Tryd.prog 5 #[.slice fa F.length fc, .slice ta T.length tc] w fun r w' => r = .returned (.bool true) ∧ Below w.heap.size w w' := by
  by_cases h : longF F 100 = true ∨ longF T 100 = true
  · exact fkeep_early fa ta fc tc F T Env w hS hEB hG hA hF hT h
  · simp only [not_or] at h
    exact fkeep_main fa ta fc tc F T Env w hS hEB hG hA hL hD hF hT (by simpa using h.1) (by simpa using h.2)
end Go.Proofs.YtbflmkjlpopeaadDoor
