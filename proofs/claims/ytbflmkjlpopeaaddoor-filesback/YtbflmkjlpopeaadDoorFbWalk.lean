/-
  The walk of the law FilesBack over the contracts.
-/
import Derived.Test.YtbflmkjlpopeaadDoorJoin05
import Derived.Deep.DeepCutAuto
namespace Go.Proofs.YtbflmkjlpopeaadDoor
open Go.RowKit
open Go.Files (Fl Ln St lt getF faultF keyL keyF encL planM lineOf Well StepOk kSend kKeep kDrop FineL)

/-- Where it is asked no more than whether there is an error. -/
structure LinesAll (Env : World → Prop) : Prop extends LinesPlan Env where
  text : ∀ v l W, LRow W v l → (∀ x ∈ l, Go.Files.FineL x) → Well (l.map keyL) → Env W → Calls Tryd.prog 31 #[v] W fun r w' => r = .returned (.tuple #[.string (str (encL l)), .nilIface]) ∧ Below W.heap.size W w'
  read : ∀ l W, (∀ x ∈ l, Go.Files.FineL x) → Well (l.map keyL) → Env W → Calls Tryd.prog 32 #[.string (str (encL l))] W fun r w' => (∃ u, r = .returned (.tuple #[u, .nilIface]) ∧ LRow w' u l) ∧ Below W.heap.size W w'

set_option maxHeartbeats 4000000 in
set_option maxRecDepth 100000 in
theorem fback_main (fa ta : Option Addr) (fc tc : Nat) (F T : List Fl) (Env : World → Prop) (w : World) (hS : Env w) (hEB : ∀ w w', Env w → Below w.heap.size w w' → Env w') (hG : FilesGet) (hA : FilesAll Env) (hL : LinesAll Env) (hF : FRow w (.slice fa F.length fc) F) (hT : FRow w (.slice ta T.length tc) T) (hlF : longF F 100 = false) (hlT : longF T 100 = false) :
    Calls Tryd.prog 6 #[.slice fa F.length fc, .slice ta T.length tc] w fun r w' => r = .returned (.bool true) ∧ Below w.heap.size w w' := by
  obtain ⟨hF25, hFx⟩ := longF_false hlF
  obtain ⟨hT25, hTx⟩ := longF_false hlT
  have hfF : Fair F := ⟨by omega, fun x hx => by have := hFx x hx; omega⟩
  have hfT : Fair T := ⟨by omega, fun x hx => by have := hTx x hx; omega⟩
  have HM := hide (filed_ok Env w hS hEB hG hA)
  have HV := hide (fun W (h : Below w.heap.size w W) => hEB w W hS h)
  have HF := hide (fun W (h : Below w.heap.size w W) => hF.below h)
  have HT := hide (fun W (h : Below w.heap.size w W) => hT.below h)
  have HLF := hide (fun W (h : FRow W (.slice fa F.length fc) F) => longFiles_ok _ F 100 W h)
  have HLT := hide (fun W (h : FRow W (.slice ta T.length tc) T) => longFiles_ok _ T 100 W h)
  rw [hlF] at HLF
  rw [hlT] at HLT
  have HOF := hide (fun W (h : FRow W (.slice fa F.length fc) F) => ownFiles_ok _ F W h (by omega))
  have HOT := hide (fun W (h : FRow W (.slice ta T.length tc) T) => ownFiles_ok _ T W h (by omega))
  have HLi := hide (fun v W (h : FRow W v F) (k : Env W) => hA.list v F W h hfF k)
  have HLj := hide (fun v W (h : FRow W v T) (k : Env W) => hA.list v T W h hfT k)
  have HTe := hide hL
  have HGF := hide (fun n W (h : FRow W (.slice fa F.length fc) F) (k : n.size ≤ 1000000) => hG.get _ F n W h hfF k)
  have HGT := hide (fun n W (h : FRow W (.slice ta T.length tc) T) (k : n.size ≤ 1000000) => hG.get _ T n W h hfT k)
  have Hw1 := hide (fun h => @Go.Files.faultF_zero (F.map keyF) |>.1 h)
  have Hw2 := hide (fun h => @Go.Files.faultF_zero (T.map keyF) |>.1 h)
  have HlF : Hid ((faultF (F.map keyF)).1 = 0 → listF F = F.map lineOf) := fun h => by unfold listF; rw [if_pos h]; rfl
  have HlT : Hid ((faultF (T.map keyF)).1 = 0 → listF T = T.map lineOf) := fun h => by unfold listF; rw [if_pos h]; rfl
  obtain ⟨_, _, _, hFc⟩ := hF
  have HFc := hide hFc
  generalize (faultF (F.map keyF)).1 = e1 at *
  generalize (faultF (T.map keyF)).1 = e2 at *
  clear hS hEB hG hA hL hT hlF hlT hFx hTx hfF hfT hFc
  go_enter Tryd.func6, Tryd.ntmps6
  go_wp2_with fail
  refine HM.out.mono ?_
  rintro r w1 ⟨rfl, hb1⟩
  have Hb1 := hide hb1
  clear hb1 HM
  go_wp2_with fail
  refine (HLF.out _ (HF.out _ Hb1.out)).mono ?_
  rintro r w2 ⟨rfl, rfl⟩
  go_wp2_with fail
  refine (HLT.out _ (HT.out _ Hb1.out)).mono ?_
  rintro r w2 ⟨rfl, rfl⟩
  rw [show bit false = 0 from rfl]
  clear HLF HLT
  go_wp2_with fail
  refine (HOF.out _ (HF.out _ Hb1.out)).mono ?_
  rintro r w3 ⟨⟨u3, rfl, hu3⟩, hb3⟩
  have Hu3 := hide hu3
  obtain ⟨a3, c3, rfl, -⟩ := hu3
  have Hb3 := hide (bthen Hb1.out hb3)
  clear hb3 Hb1 HOF
  go_wp2_with fail
  refine (HLi.out _ _ Hu3.out (HV.out _ Hb3.out)).mono ?_
  rintro r w4 ⟨⟨u4, x4, rfl, hu4, hx4⟩, hb4⟩
  have Hu4 := hide hu4
  have Hx4 := hide hx4
  have Hb4 := hide (bthen Hb3.out hb4)
  clear hb4 Hb3 Hu3 HLi hx4
  generalize hl4 : listF F = L4 at *
  have HL4 := hide hl4
  clear hl4
  obtain ⟨a4, c4, rfl, -⟩ := hu4
  go_wp2_with fail
  refine (HOT.out _ (HT.out _ Hb4.out)).mono ?_
  rintro r w5 ⟨⟨u5, rfl, hu5⟩, hb5⟩
  have Hu5 := hide hu5
  obtain ⟨a5, c5, rfl, -⟩ := hu5
  have Hu4' := hide (Hu4.out.below hb5)
  have Hb5 := hide (bthen Hb4.out hb5)
  clear hb5 Hb4 HOT Hu4
  go_wp2_with fail
  refine (HLj.out _ _ Hu5.out (HV.out _ Hb5.out)).mono ?_
  rintro r w6 ⟨⟨u6, x6, rfl, hu6, hx6⟩, hb6⟩
  have Hu6 := hide hu6
  have Hx6 := hide hx6
  have Hu4'' := hide (Hu4'.out.below hb6)
  have Hb6 := hide (bthen Hb5.out hb6)
  clear hb6 Hb5 Hu5 HLj hx6 Hu4'
  generalize hl6 : listF T = L6 at *
  have HL6 := hide hl6
  clear hl6
  obtain ⟨a6, c6, rfl, -⟩ := hu6
  by_cases he1 : e1 = 0
  · by_cases he2 : e2 = 0
    · have hx := Hx4.out.none he1
      have hy := Hx6.out.none he2
      subst hx hy
      have hwF : Well (F.map keyF) := Hw1.out he1
      have hwT : Well (T.map keyF) := Hw2.out he2
      have h4 : L4 = F.map lineOf := HlF.out he1
      have h6 : L6 = T.map lineOf := HlT.out he2
      have hkF : Well (L4.map keyL) := by rw [h4, Go.Files.line_keys]; exact hwF
      have hkT : Well (L6.map keyL) := by rw [h6, Go.Files.line_keys]; exact hwT
      have hpF : ∀ x ∈ L4, FineL x := by rw [h4]; exact Go.Files.lines_fine hwF
      have hpT : ∀ x ∈ L6, FineL x := by rw [h6]; exact Go.Files.lines_fine hwT
      have HTx := hide (fun v W (h : LRow W v L4) (k : Env W) => HTe.out.text v L4 W h hpF hkF k)
      have HRd := hide (fun W (k : Env W) => HTe.out.read L4 W hpF hkF k)
      have HPl := hide (fun u v W (h : LRow W u L4) (h' : LRow W v L6) (k : Env W) => HTe.out.plan u v L4 L6 W h h' hkF hkT hpF hpT k)
      have hlen4 := hkF.len
      rw [List.length_map] at hlen4
      have hSt : ∀ s ∈ planM L4 L6, StepOk F T s := by rw [h4, h6]; exact Go.Files.plan_steps hwF hwT
      have hRi : Go.Files.Rise ((planM L4 L6).map (·.name)) := by rw [h4, h6]; exact Go.Files.plan_rise _ _ (Go.Files.rise_lines hwF) (Go.Files.rise_lines hwT)
      have hWh : ∀ f ∈ F, ∃ s ∈ planM L4 L6, s.name = f.name := by rw [h4, h6]; exact Go.Files.plan_whole hwF hwT
      have hPn : (planM L4 L6).length ≤ 1000 := by
        have := plan_len0 L4 L6
        have h7 := hkT.len
        rw [List.length_map] at h7
        omega
      have hNm : ∀ s ∈ planM L4 L6, s.name.size ≤ 1000000 := by
        intro s hs
        rcases Go.Files.plan_mem s _ _ hs with ⟨f, hf, e⟩ | ⟨f, hf, e⟩
        · rw [e]; have := (hpF f hf).1; omega
        · rw [e]; have := (hpT f hf).1; omega
      generalize planM L4 L6 = P at *
      have HSt := hide hSt
      have HRi := hide hRi
      have HWh := hide hWh
      have HNm := hide hNm
      have hPn' : (P.length : Int) ≤ 1000 := by omega
      clear Hw1 Hw2 HlF HlT HTe hwF hwT h4 h6 hkF hkT hpF hpT hSt hRi hWh hNm he1 he2 Hx4 Hx6 HL4 HL6
      go_wp2_with fail
      refine (HTx.out _ _ Hu4''.out (HV.out _ Hb6.out)).mono ?_
      rintro r w7 ⟨rfl, hb7⟩
      have Hu47 := hide (Hu4''.out.below hb7)
      have Hu67 := hide (Hu6.out.below hb7)
      have Hb7 := hide (bthen Hb6.out hb7)
      clear hb7 Hb6 HTx Hu4'' Hu6
      go_wp2_with fail
      refine (HRd.out _ (HV.out _ Hb7.out)).mono ?_
      rintro r w8 ⟨⟨u8, rfl, hu8⟩, hb8⟩
      have Hu8 := hide hu8
      have Hu48 := hide (Hu47.out.below hb8)
      have Hu68 := hide (Hu67.out.below hb8)
      have Hb8 := hide (bthen Hb7.out hb8)
      obtain ⟨a8, c8, rfl, hu8c⟩ := hu8
      obtain ⟨_, _, e48, hu4c⟩ := Hu48.out
      simp only [Value.slice.injEq] at e48
      obtain ⟨rfl, -, -⟩ := e48
      have HC8 := hide hu8c
      have HC4 := hide hu4c
      have hl4' : (L4.length : Int) ≤ 20 := by omega
      clear hb8 Hb7 HRd Hu47 Hu67 hu8c hu4c
      have HN := hide (fun (i : Nat) (h : i < L4.length) => line_neq L4[i])
      go_wp2_with fail
      go_loopw [14] (fun t wr => ∃ j : Nat, t = .int .i64 j ∧ j ≤ L4.length ∧ Hid (Below w8.heap.size w8 wr)) (fun t _ => L4.length - (intOf t).toNat)
      case atStart => exact ⟨0, rfl, by omega, Below.refl _ _⟩
      case round =>
        obtain ⟨j, rfl, hj, Hb⟩ := hrel
        by_cases hlt : j < L4.length
        · have hlt' : (j : Int) < L4.length := by omega
          obtain ⟨b1, o1, rfl, hc1⟩ := HC8.out (by omega)
          obtain ⟨b2, o2, rfl, hc2⟩ := HC4.out (by omega)
          obtain ⟨m0, m1, m2⟩ := hc1 j hlt
          obtain ⟨n0, n1, n2⟩ := hc2 j hlt
          have d0 := (Hb.out.cell (World.block_lt_of_cell? _ _ m0)).trans m0
          have d1 := (Hb.out.cell (World.block_lt_of_cell? _ _ m1)).trans m1
          have d2 := (Hb.out.cell (World.block_lt_of_cell? _ _ m2)).trans m2
          have k0 := (Hb.out.cell (World.block_lt_of_cell? _ _ n0)).trans n0
          have k1 := (Hb.out.cell (World.block_lt_of_cell? _ _ n1)).trans n1
          have k2 := (Hb.out.cell (World.block_lt_of_cell? _ _ n2)).trans n2
          have HQ := hide (HN.out j hlt)
          clear hc1 hc2 m0 m1 m2 n0 n1 n2
          generalize L4[j] = x at *
          have hN := fun w => HQ.out w
          go_wp2_with fail
          go_quiet (fail)
          go_wp2_with fail
          go_roundw
          case rel => exact ⟨j + 1, by go_num, by omega, Hb.out.trans ⟨rfl, rfl, rfl, Nat.le_refl _, fun _ _ => rfl⟩⟩
          case measure => simp [intOf]; omega
        · have hle : (L4.length : Int) ≤ (j : Int) := by omega
          have Hb9 := hide (bthen Hb8.out Hb.out)
          have Hu49 := hide (Hu48.out.below Hb.out)
          have Hu69 := hide (Hu68.out.below Hb.out)
          clear HC8 HC4 HN Hb Hb8 Hu48 Hu68 Hu8
          go_wp2_with fail
          refine (HPl.out _ _ _ Hu49.out Hu69.out (HV.out _ Hb9.out)).mono ?_
          rintro r w10 ⟨⟨p10, rfl, hp10⟩, hb10⟩
          have Hb10 := hide (bthen Hb9.out hb10)
          obtain ⟨a10, c10, rfl, hc10⟩ := hp10
          have HC := hide hc10
          clear hb10 Hb9 HPl Hu49 Hu69 hc10
          go_wp2_with fail
          go_loopw [16] (fun t wr => ∃ j : Nat, t = .int .i64 j ∧ j ≤ P.length ∧ Hid (Below w10.heap.size w10 wr)) (fun t _ => P.length - (intOf t).toNat)
          case atStart => exact ⟨0, rfl, by omega, Below.refl _ _⟩
          case round =>
            clear hle hj hlen4 hl4'
            rename_i wA _ _
            obtain ⟨j, rfl, hj, Hb⟩ := hrel
            by_cases hlt : j < P.length
            · have hlt' : (j : Int) < P.length := by omega
              obtain ⟨b, o, rfl, hc⟩ := HC.out (by omega)
              obtain ⟨m0, m1⟩ := hc j hlt
              have d0 := (Hb.out.cell (World.block_lt_of_cell? _ _ m0)).trans m0
              have d1 := (Hb.out.cell (World.block_lt_of_cell? _ _ m1)).trans m1
              have Hc := hide hc
              clear hc m0 m1
              go_upto_if 121 with fail
              go_cut [121] (fun t wc => t = .bool false ∧ Hid (Below wr.heap.size wr wc))
              case first =>
                by_cases hj0 : j = 0
                · subst hj0
                  go_quiet (fail)
                  go_wp2_with fail
                  go_meet
                  case rel => exact ⟨rfl, ⟨rfl, rfl, rfl, Nat.le_refl _, fun _ _ => rfl⟩⟩
                · obtain ⟨i, hi⟩ : ∃ i, j = i + 1 := ⟨j - 1, by omega⟩
                  have hji : (j : Int) - 1 = (i : Int) := by omega
                  have hi2 : (i : Int) < P.length := by omega
                  have hwi : IntKind.i64.wrap (i : Int) = (i : Int) := iwrap_id _ (by omega) (by omega)
                  have hil : i < P.length := by omega
                  have hj1 : decide (0 < j) = true := by simp; omega
                  have e1 := (Hb.out.cell (World.block_lt_of_cell? _ _ (Hc.out i hil).2)).trans (Hc.out i hil).2
                  have hij : i < j := by omega
                  have hle := leq_false (rise_at HRi.out hij hlt)
                  clear hi hj0
                  go_quiet (fail)
                  go_wp2_with fail
                  go_meet
                  case rel => exact ⟨rfl, ⟨rfl, rfl, rfl, Nat.le_refl _, fun _ _ => rfl⟩⟩
              case rest =>
                obtain ⟨rfl, Hbc⟩ := hcut
                have c0 := (Hbc.out.cell (World.block_lt_of_cell? _ _ d0)).trans d0
                have c1 := (Hbc.out.cell (World.block_lt_of_cell? _ _ d1)).trans d1
                have Hb' := hide (bthen Hb.out Hbc.out)
                have hs := HSt.out _ (List.getElem_mem hlt)
                have hn := HNm.out _ (List.getElem_mem hlt)
                have HS1 := hide hs
                have HN1 := hide hn
                clear hs hn d0 d1 Hb Hbc Hc
                generalize P[j] = s at *
                obtain ⟨k, n⟩ := s
                simp only at c0 c1 HN1
                go_wp2_with fail
                refine (HGF.out _ _ (HF.out _ (bthen Hb10.out Hb'.out)) HN1.out).mono ?_
                rintro r w11 ⟨rfl, hb11⟩
                have d0 := (hb11.cell (World.block_lt_of_cell? _ _ c0)).trans c0
                have d1 := (hb11.cell (World.block_lt_of_cell? _ _ c1)).trans c1
                have Hb11 := hide (bthen Hb'.out hb11)
                clear hb11 c0 c1 Hb'
                go_wp2_with fail
                refine (HGT.out _ _ (HT.out _ (bthen Hb10.out Hb11.out)) HN1.out).mono ?_
                rintro r w12 ⟨rfl, hb12⟩
                have c0 := (hb12.cell (World.block_lt_of_cell? _ _ d0)).trans d0
                have c1 := (hb12.cell (World.block_lt_of_cell? _ _ d1)).trans d1
                have Hb12 := hide (bthen Hb11.out hb12)
                clear hb12 d0 d1 Hb11
                have hs := HS1.out
                clear HS1
                simp only [StepOk] at hs
                rcases hs with ⟨rfl, h1, v, h2⟩ | ⟨rfl, u, h1, h2⟩ | ⟨rfl, u, v, h1, h2, h3⟩
                · rw [h1, h2]
                  clear h1 h2
                  simp only [gOut, kDrop] at c0 ⊢
                  go_wp2_with fail
                  go_roundw
                  case rel => exact ⟨j + 1, by go_num, by omega, Hb12.out⟩
                  case measure => simp [intOf]; omega
                · rw [h1]
                  cases hv : getF T n with
                  | none =>
                    clear h1 h2 hv
                    simp only [gOut, kSend] at c0 ⊢
                    go_wp2_with fail
                    go_roundw
                    case rel => exact ⟨j + 1, by go_num, by omega, Hb12.out⟩
                    case measure => simp [intOf]; omega
                  | some v =>
                    have hne := h2 v hv
                    have hq : (u.toList == v.toList) = false := by simp only [beq_eq_false_iff_ne, ne_eq]; intro e; exact hne (bytes_inj e)
                    clear h1 h2 hv
                    simp only [gOut, kSend] at c0 ⊢
                    go_wp2_with fail
                    go_roundw
                    case rel => exact ⟨j + 1, by go_num, by omega, Hb12.out⟩
                    case measure => simp [intOf]; omega
                · rw [h1, h2]
                  have h4 : (u.size : Int) = v.size := by omega
                  clear h1 h2 h3
                  simp only [gOut, kKeep] at c0 ⊢
                  go_wp2_with fail
                  go_roundw
                  case rel => exact ⟨j + 1, by go_num, by omega, Hb12.out⟩
                  case measure => simp [intOf]; omega
            · have hle : (P.length : Int) ≤ (j : Int) := by omega
              have Hb11 := hide (bthen Hb10.out Hb.out)
              have HC' : Hid (∀ (i : Nat) (h : i < P.length), ∃ b o, a10 = some ⟨b, o, none⟩ ∧ wr.cell? ⟨b, o + i * 2 + 1, none⟩ = some (.string P[i].name)) := fun i h => by
                obtain ⟨b, o, e, hc⟩ := HC.out (by omega)
                exact ⟨b, o, e, (Hb.out.cell (World.block_lt_of_cell? _ _ (hc i h).2)).trans (hc i h).2⟩
              have HF' : Hid (∀ (i : Nat) (h : i < F.length), ∃ b o, fa = some ⟨b, o, none⟩ ∧ wr.cell? ⟨b, o + i * 2, none⟩ = some (.string F[i].name)) := fun i h => by
                obtain ⟨b, o, e, hc⟩ := HFc.out (by omega)
                exact ⟨b, o, e, (Hb11.out.cell (World.block_lt_of_cell? _ _ (hc i h).1)).trans (hc i h).1⟩
              have HWi : Hid (∀ (i : Nat) (h : i < F.length), P.any (fun s => s.name.toList == F[i].name.toList) = true) := fun i h => by
                obtain ⟨s, hs, e⟩ := HWh.out F[i] (List.getElem_mem h)
                exact List.any_eq_true.2 ⟨s, hs, by rw [e]; simp⟩
              have hF' : (F.length : Int) ≤ 25 := by omega
              clear HC HFc HWh HNm HRi HSt HGT HGF HF HT HV Hb Hb10 
              generalize wr = w11 at *
              go_wp2_with fail
              go_loopw [21] (fun t wr => ∃ j : Nat, t = .int .i64 j ∧ j ≤ F.length ∧ Hid (Below w11.heap.size w11 wr)) (fun t _ => F.length - (intOf t).toNat)
              case atStart => exact ⟨0, rfl, by omega, Below.refl _ _⟩
              case round =>
                clear hle hj
                obtain ⟨i, rfl, hi, Hb⟩ := hrel
                by_cases hlt : i < F.length
                · have hlt' : (i : Int) < F.length := by omega
                  have HW1 := hide (HWi.out i hlt)
                  obtain ⟨bF, oF, rfl, m0⟩ := HF'.out i hlt
                  have M0 := hide ((Hb.out.cell (World.block_lt_of_cell? _ _ m0)).trans m0)
                  clear m0 HF' HWi
                  generalize F[i].name = n at *
                  go_wp2_with fail
                  generalize wr = w13 at *
                  go_loopw [22, 23] (fun t22 t23 wr => ∃ (k : Nat) (B : Bool), t22 = .bool B ∧ t23 = .int .i64 k ∧ k ≤ P.length ∧ Hid ((P.take k).any (fun s => s.name.toList == n.toList) = B) ∧ Hid (Below w13.heap.size w13 wr)) (fun _ t23 _ => P.length - (intOf t23).toNat)
                  case atStart => exact ⟨0, false, rfl, rfl, by omega, rfl, Below.refl _ _⟩
                  case round =>
                    obtain ⟨k, B, rfl, rfl, hk, HB, Hc⟩ := hrel
                    by_cases hkt : k < P.length
                    · have hkt' : (k : Int) < P.length := by omega
                      obtain ⟨b, o, rfl, n1⟩ := HC'.out k hkt
                      have hbc := bthen Hb.out Hc.out
                      have d1 := (hbc.cell (World.block_lt_of_cell? _ _ n1)).trans n1
                      have d0 := (Hc.out.cell (World.block_lt_of_cell? _ _ M0.out)).trans M0.out
                      have hB := HB.out
                      have Hs : Hid ((P.take (k + 1)).any (fun s => s.name.toList == n.toList) = (B || P[k].name.toList == n.toList)) := by
                        rw [List.take_succ_eq_append_getElem hkt, List.any_append, hB]; simp [Hid]
                      clear hbc n1 hB HB
                      generalize P[k].name = m at *
                      cases B with
                      | true =>
                        go_wp2_with fail
                        go_quiet (fail)
                        go_wp2_with fail
                        go_roundw
                        case rel => exact ⟨k + 1, true, rfl, by go_num, by omega, Hs.out, Hc.out.trans ⟨rfl, rfl, rfl, Nat.le_refl _, fun _ _ => rfl⟩⟩
                        case measure => simp [intOf]; omega
                      | false =>
                        generalize hq : (m.toList == n.toList) = q at *
                        go_wp2_with fail
                        go_quiet (fail)
                        go_wp2_with fail
                        go_roundw
                        case rel => exact ⟨k + 1, q, rfl, by go_num, by omega, Hs.out, Hc.out.trans ⟨rfl, rfl, rfl, Nat.le_refl _, fun _ _ => rfl⟩⟩
                        case measure => simp [intOf]; omega
                    · have hkl : (P.length : Int) ≤ (k : Int) := by omega
                      have hB := HB.out
                      rw [List.take_of_length_le (by omega), HW1.out] at hB
                      subst hB
                      clear HB
                      go_wp2_with fail
                      go_roundw
                      case rel => exact ⟨i + 1, by go_num, by omega, bthen Hb.out Hc.out⟩
                      case measure => simp [intOf]; omega
                · have hle : (F.length : Int) ≤ (i : Int) := by omega
                  go_wp2_with fail
                  go_ret
                  exact ⟨rfl, bthen Hb11.out Hb.out⟩
    · have hx := Hx4.out.none he1
      subst hx
      obtain ⟨t6, v6, rfl⟩ := Hx6.out.some (by omega)
      go_wp2_with fail
      go_ret
      exact ⟨rfl, Hb6.out⟩
  · obtain ⟨t4, v4, rfl⟩ := Hx4.out.some (by omega)
    go_wp2_with fail
    go_ret
    exact ⟨rfl, Hb6.out⟩

set_option maxHeartbeats 2000000 in
set_option maxRecDepth 100000 in
theorem fback_early (fa ta : Option Addr) (fc tc : Nat) (F T : List Fl) (Env : World → Prop) (w : World) (hS : Env w) (hEB : ∀ w w', Env w → Below w.heap.size w w' → Env w') (hG : FilesGet) (hA : FilesAll Env) (hF : FRow w (.slice fa F.length fc) F) (hT : FRow w (.slice ta T.length tc) T) (h : longF F 100 = true ∨ longF T 100 = true) :
    Calls Tryd.prog 6 #[.slice fa F.length fc, .slice ta T.length tc] w fun r w' => r = .returned (.bool true) ∧ Below w.heap.size w w' := by
  have HM := hide (filed_ok Env w hS hEB hG hA)
  have HF := hide (fun W (h : Below w.heap.size w W) => hF.below h)
  have HT := hide (fun W (h : Below w.heap.size w W) => hT.below h)
  have HLF := hide (fun W (h : FRow W (.slice fa F.length fc) F) => longFiles_ok _ F 100 W h)
  have HLT := hide (fun W (h : FRow W (.slice ta T.length tc) T) => longFiles_ok _ T 100 W h)
  have H := hide h
  generalize longF F 100 = x at *
  generalize longF T 100 = y at *
  clear hS hEB hG hA hF hT h
  go_enter Tryd.func6, Tryd.ntmps6
  go_wp2_with fail
  refine HM.out.mono ?_
  rintro r w1 ⟨rfl, hb1⟩
  have Hb1 := hide hb1
  clear hb1 HM
  go_upto_region 2 with fail
  go_cut [34] (fun v34 wc => v34 = .bool true ∧ wc = w1)
  case first =>
    go_wp2_with fail
    refine (HLF.out _ (HF.out _ Hb1.out)).mono ?_
    rintro r w2 ⟨rfl, rfl⟩
    go_wp2_with fail
    refine (HLT.out _ (HT.out _ Hb1.out)).mono ?_
    rintro r w2 ⟨rfl, rfl⟩
    cases x with
    | true =>
      cases y with
      | true =>
        rw [show bit true = 1 from rfl]
        go_wp2_with fail
        go_meet
        case rel => exact ⟨rfl, rfl⟩
      | false =>
        rw [show bit true = 1 from rfl, show bit false = 0 from rfl]
        go_wp2_with fail
        go_meet
        case rel => exact ⟨rfl, rfl⟩
    | false =>
      cases y with
      | true =>
        rw [show bit true = 1 from rfl, show bit false = 0 from rfl]
        go_wp2_with fail
        go_meet
        case rel => exact ⟨rfl, rfl⟩
      | false => exact absurd H.out (by simp)
  case rest =>
    obtain ⟨rfl, rfl⟩ := hcut
    go_wp2
    go_ret
    exact ⟨rfl, Hb1.out⟩

theorem fback_walk (fa ta : Option Addr) (fc tc : Nat) (F T : List Fl) (Env : World → Prop) (w : World) (hS : Env w) (hEB : ∀ w w', Env w → Below w.heap.size w w' → Env w') (hG : FilesGet) (hA : FilesAll Env) (hL : LinesAll Env) (hF : FRow w (.slice fa F.length fc) F) (hT : FRow w (.slice ta T.length tc) T) :
    Calls Tryd.prog 6 #[.slice fa F.length fc, .slice ta T.length tc] w fun r w' => r = .returned (.bool true) ∧ Below w.heap.size w w' := by
  by_cases h : longF F 100 = true ∨ longF T 100 = true
  · exact fback_early fa ta fc tc F T Env w hS hEB hG hA hF hT h
  · simp only [not_or] at h
    exact fback_main fa ta fc tc F T Env w hS hEB hG hA hL hF hT (by simpa using h.1) (by simpa using h.2)
end Go.Proofs.YtbflmkjlpopeaadDoor
