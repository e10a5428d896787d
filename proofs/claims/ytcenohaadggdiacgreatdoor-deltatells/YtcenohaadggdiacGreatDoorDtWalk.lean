/-
  The walk of the law DeltaTells over the contracts.
-/
import Derived.Test.YtcenohaadggdiacGreatDoorJoin22
import Derived.Deep.DeepCutAuto
import Derived.Deep.RegionHeld3
namespace Go.Proofs.YtcenohaadggdiacGreatDoor
open Go.RowKit
open Go.Sign (Blk)
open Go.Delta (Opx)

theorem dOut_length (L : List Blk) (size : Int) (s : ByteArray) : (dOut L size s.data.toList).1.length ≤ s.size := by
  unfold dOut
  split
  · split
    · have := (dmake_all L size.toNat s.data.toList).2.1
      rw [lenL] at this
      exact this
    · simp
  · simp
theorem cost_le {k : Nat} : ∀ (l : List Opx), (∀ o ∈ l, o.data.size ≤ k) → Go.Delta.cost l ≤ k * l.length
  | [], _ => by simp [Go.Delta.cost]
  | o :: r, h => by
    have h1 := h o (List.mem_cons_self ..)
    have h2 := cost_le r fun x hx => h x (List.mem_cons_of_mem _ hx)
    rw [Go.Delta.cost, List.length_cons, Nat.mul_succ]
    omega
theorem right_short {ops : List Opx} (hn : ops.length ≤ 40) (hd : ∀ o ∈ ops, o.data.size ≤ 100 ∨ o.data.size = 4001) (hw : ∀ o ∈ ops, Go.Delta.opFault o = 0) : Go.Delta.cost ops ≤ 100000 ∧ (Go.Delta.encD ops).length ≤ 20000 := by
  have h1 : ∀ o ∈ ops, o.data.size ≤ 100 := by
    intro o ho
    rcases Go.Delta.op_right (hw o ho) with ⟨a, n, rfl, _⟩ | ⟨d, rfl, _, h2⟩
    · exact Nat.zero_le _
    · have := hd _ ho
      simp only [Go.Delta.dataOp, str_len] at this ⊢
      omega
  have h2 := cost_le ops h1
  have h3 := Go.Delta.encOs_length ops
  have h4 := Go.Num.enc_length_le ops.length
  refine ⟨by omega, ?_⟩
  rw [Go.Delta.encD, List.length_append]
  omega

set_option maxHeartbeats 2000000 in
set_option maxRecDepth 100000 in
theorem dtells_early (la : Option Addr) (ln lc : Nat) (size : Int) (s : ByteArray) (oa : Option Addr) (oc : Nat) (ops : List Opx) (t : ByteArray) (a : Nat → Addr) (w : World) (hS : Sents w a) (hO : ORow w (.slice oa ops.length oc) ops)
    (h : 40 < ln ∨ (200 < s.size ∧ s.size ≠ 4001) ∨ longB ops = true ∨ (400 < t.size ∧ t.size ≠ 20001)) :
    Calls Tryz.prog 3 #[.slice la ln lc, .int .i64 size, .string s, .slice oa ops.length oc, .string t] w fun r w' => r = .returned (.bool true) ∧ Below w.heap.size w w' := by
  have HM := hide (madeFact_ok (evOf a) w hS.er.two)
  have HO := hide hO
  have H := hide h
  clear h hO hS
  go_enter Tryz.func3, Tryz.ntmps3
  go_wp2_with fail
  refine HM.out.mono ?_
  rintro r w1 ⟨rfl, hb1⟩
  have Hb1 := hide hb1
  have HL := hide (longOps_ok (.slice oa ops.length oc) ops w1 (HO.out.below hb1))
  clear hb1 HM HO
  go_upto_region 2 with fail
  go_cut [53] (fun v53 wc => v53 = .bool true ∧ wc = w1)
  case first =>
    by_cases e1 : 40 < ln
    · have c1 : decide ((40 : Int) < ln) = true := by simp; omega
      clear e1 HL H
      go_wp2_with fail
      go_meet
      case rel => exact ⟨rfl, rfl⟩
    · have c1 : decide ((40 : Int) < ln) = false := by simp; omega
      by_cases e2 : 200 < s.size
      · have c2 : decide ((200 : Int) < s.size) = true := by simp; omega
        by_cases e3 : s.size = 4001
        · have c3 : ((s.size : Int) != 4001) = false := by simp; omega
          by_cases e4 : longB ops = true
          · rw [e4] at HL
            clear e1 e2 e3 e4 H
            go_wp2_with fail
            refine HL.out.mono ?_
            rintro r w2 ⟨rfl, rfl⟩
            go_wp2_with fail
            go_meet
            case rel => exact ⟨rfl, rfl⟩
          · have e4' : longB ops = false := by simpa using e4
            rw [e4'] at HL
            have ht : 400 < t.size ∧ t.size ≠ 20001 := H.out.elim (fun h => absurd h e1) fun h => h.elim (fun h => by omega) fun h => h.elim (fun h => absurd h e4) id
            have c4 : decide ((400 : Int) < t.size) = true := by simp; omega
            have c5 : ((t.size : Int) != 20001) = true := by simp; omega
            clear e1 e2 e3 e4 e4' ht H
            go_wp2_with fail
            refine HL.out.mono ?_
            rintro r w2 ⟨rfl, rfl⟩
            go_wp2_with fail
            go_meet
            case rel => exact ⟨rfl, rfl⟩
        · have c3 : ((s.size : Int) != 4001) = true := by simp; omega
          clear e1 e2 e3 HL H
          go_wp2_with fail
          go_meet
          case rel => exact ⟨rfl, rfl⟩
      · have c2 : decide ((200 : Int) < s.size) = false := by simp; omega
        by_cases e4 : longB ops = true
        · rw [e4] at HL
          clear e1 e2 e4 H
          go_wp2_with fail
          refine HL.out.mono ?_
          rintro r w2 ⟨rfl, rfl⟩
          go_wp2_with fail
          go_meet
          case rel => exact ⟨rfl, rfl⟩
        · have e4' : longB ops = false := by simpa using e4
          rw [e4'] at HL
          have ht : 400 < t.size ∧ t.size ≠ 20001 := H.out.elim (fun h => absurd h e1) fun h => h.elim (fun h => by omega) fun h => h.elim (fun h => absurd h e4) id
          have c4 : decide ((400 : Int) < t.size) = true := by simp; omega
          have c5 : ((t.size : Int) != 20001) = true := by simp; omega
          clear e1 e2 e4 e4' ht H
          go_wp2_with fail
          refine HL.out.mono ?_
          rintro r w2 ⟨rfl, rfl⟩
          go_wp2_with fail
          go_meet
          case rel => exact ⟨rfl, rfl⟩
  case rest =>
    obtain ⟨rfl, rfl⟩ := hcut
    go_wp2
    go_ret
    exact ⟨rfl, Hb1.out⟩

set_option maxHeartbeats 4000000 in
set_option maxRecDepth 100000 in
theorem dtells_main (la : Option Addr) (lc : Nat) (l : List Blk) (size : Int) (s : ByteArray) (oa : Option Addr) (oc : Nat) (ops : List Opx) (t : ByteArray) (a : Nat → Addr) (w : World) (hS : Sents w a) (hV : RowIn w (.slice la l.length lc) l) (hO : ORow w (.slice oa ops.length oc) ops)
    (hl : l.length ≤ 40) (hs : s.size ≤ 200 ∨ s.size = 4001) (hop : longB ops = false) (ht : t.size ≤ 400 ∨ t.size = 20001) :
    Calls Tryz.prog 3 #[.slice la l.length lc, .int .i64 size, .string s, .slice oa ops.length oc, .string t] w fun r w' => r = .returned (.bool true) ∧ Below w.heap.size w w' := by
  have HM := hide (madeFact_ok (evOf a) w hS.er.two)
  have HO := hide hO
  have HV := hide hV
  have HE := hide hS
  obtain ⟨hn40, hdat⟩ := longB_false hop
  have Hsh : Hid (Short ops) := fun o ho => by have := hdat o ho; omega
  have Hdat := hide hdat
  have Hs := hide hs
  have Ht := hide ht
  have HL0 := hide hop
  clear hS hO hV hdat hs ht hop
  go_enter Tryz.func3, Tryz.ntmps3
  go_wp2_with fail
  refine HM.out.mono ?_
  rintro r w1 ⟨rfl, hb1⟩
  have Hb1 := hide hb1
  have HL := hide (longOps_ok (.slice oa ops.length oc) ops w1 (HO.out.below hb1))
  rw [HL0.out] at HL
  clear hb1 HM HL0
  go_upto_region 2 with fail
  go_cut [53] (fun v53 wc => v53 = .bool false ∧ wc = w1)
  case first =>
    have c1 : decide ((40 : Int) < l.length) = false := by simp; omega
    by_cases e2 : 200 < s.size
    · have c2 : decide ((200 : Int) < s.size) = true := by simp; omega
      have c3 : ((s.size : Int) != 4001) = false := by have := Hs.out; simp; omega
      by_cases e4 : 400 < t.size
      · have c4 : decide ((400 : Int) < t.size) = true := by simp; omega
        have c5 : ((t.size : Int) != 20001) = false := by have := Ht.out; simp; omega
        clear e2 e4
        go_wp2_with fail
        refine HL.out.mono ?_
        rintro r w2 ⟨rfl, rfl⟩
        go_wp2_with fail
        go_meet
        case rel => exact ⟨rfl, rfl⟩
      · have c4 : decide ((400 : Int) < t.size) = false := by simp; omega
        clear e2 e4
        go_wp2_with fail
        refine HL.out.mono ?_
        rintro r w2 ⟨rfl, rfl⟩
        go_wp2_with fail
        go_meet
        case rel => exact ⟨rfl, rfl⟩
    · have c2 : decide ((200 : Int) < s.size) = false := by simp; omega
      by_cases e4 : 400 < t.size
      · have c4 : decide ((400 : Int) < t.size) = true := by simp; omega
        have c5 : ((t.size : Int) != 20001) = false := by have := Ht.out; simp; omega
        clear e2 e4
        go_wp2_with fail
        refine HL.out.mono ?_
        rintro r w2 ⟨rfl, rfl⟩
        go_wp2_with fail
        go_meet
        case rel => exact ⟨rfl, rfl⟩
      · have c4 : decide ((400 : Int) < t.size) = false := by simp; omega
        clear e2 e4
        go_wp2_with fail
        refine HL.out.mono ?_
        rintro r w2 ⟨rfl, rfl⟩
        go_wp2_with fail
        go_meet
        case rel => exact ⟨rfl, rfl⟩
  case rest =>
    obtain ⟨rfl, rfl⟩ := hcut
    have hs4 : s.size ≤ 4001 := by have := Hs.out; omega
    have ht4 : t.size ≤ 20001 := by have := Ht.out; omega
    have HMk := hide (fun v W (x : RowIn W v l) (y : Sents W a) => make_uni v l size s a W x (by omega) (by omega) y)
    have HDo := hide (fun v W (x : RowIn W v l) => deltaOf_uni v l size s W x (by omega) (by omega))
    have hdl := dOut_length l size s
    generalize dOut l size s.data.toList = D at *
    obtain ⟨dl, dc, da⟩ := D
    simp only at HMk HDo hdl
    clear HL
    go_wp2_with fail
    refine (ownBlocks_own _ l _ (HV.out.below Hb1.out) (by omega)).mono ?_
    rintro r w2 ⟨u, rfl, hown, hb2⟩
    have hu2 := RowIn.of_own hown
    have Hu2 := hide hu2
    obtain ⟨au, cu, rfl, _⟩ := hu2
    have Hb2 := hide (bthen Hb1.out hb2)
    clear hb2 hown Hb1
    go_wp2_with fail
    refine (HMk.out _ _ Hu2.out (HE.out.below Hb2.out)).mono ?_
    rintro r w3 ⟨⟨v12, x13, rfl, ho3, hx3⟩, hb3⟩
    have Ho3 := hide ho3
    obtain ⟨a12, c12, rfl, _⟩ := ho3
    have Hx3 := hide hx3
    have Hb3 := hide (bthen Hb2.out hb3)
    clear hb3 hx3 Hb2 Hu2 HMk
    go_wp2_with fail
    refine (HDo.out _ _ (HV.out.below Hb3.out)).mono ?_
    rintro r w4 ⟨⟨v14, rfl, ho4⟩, hb4⟩
    have Ho4 := hide (ho4.below ((Below.refl _ _).alloc (Nat.le_refl _) (.cells #[.int .i64 (dc : Int), .int .i64 da] 32)))
    obtain ⟨a14, c14, rfl, _⟩ := ho4
    have hba := hb4.alloc hb4.size (.cells #[.int .i64 (dc : Int), .int .i64 da] 32)
    have hq4 := HvAt.fresh w4 dc da 32
    have Hq4 := hide hq4
    have Hx4 := hide (Hx3.out.below hba)
    have Ho34 := hide (Ho3.out.below hba)
    have Hqw : Hid (w.heap.size ≤ w4.heap.size) := Nat.le_trans Hb3.out.size hb4.size
    have Hb4 := hide (bthen Hb3.out hba)
    clear hb4 hba Hx3 Ho3 Hb3 HDo
    obtain ⟨q0, q1, p0, p1, qlt⟩ := hq4
    go_wp2_with fail
    refine (Hx4.out _ (Below.refl _ _)).mono ?_
    rintro r w5 ⟨rfl, hb5⟩
    have hq5 := Hq4.out.below hb5 Hq4.out.lt
    have Ho5 := hide (Ho34.out.below hb5)
    have Ho5' := hide (Ho4.out.below hb5)
    have Hb5 := hide (bthen Hb4.out hb5)
    have Hq5 := hide hq5
    clear hb5 Hx4 Ho34 Ho4 Hb4 Hq4 q0 q1 p0 p1 qlt hq5
    generalize w4.heap.size = q at *
    go_wp2_with fail
    refine (sameOps_ok _ _ dl _ Ho5.out Ho5'.out (by omega)).mono ?_
    rintro r w6 ⟨rfl, hb6⟩
    have Hq6 := hide (Hq5.out.below hb6 Hq5.out.lt)
    have Hb6 := hide (bthen Hb5.out hb6)
    clear hb6 Hb5 Ho5 Ho5' Hq5
    have HOf := hide (fun v W (x : ORow W v ops) => opsFault_ok v ops W x (by omega) Hsh.out)
    rw [ofault_eq] at HOf
    have HTx := hide (fun v W (x : ORow W v ops) (y : Sents W a) => otext_uni v ops a W x (by omega) Hsh.out (right_short hn40 Hdat.out) y)
    have HCk := hide (fun v W (x : ORow W v ops) (y : Sents W a) => ocheck_uni v ops a W x (by omega) Hsh.out y)
    have HT0 : Hid ((Go.Delta.faultO ops).1 ≠ 0 → otextOut ops = ⟨#[]⟩) := fun h => by rw [otextOut, if_neg h]; rfl
    have HT1 : Hid ((Go.Delta.faultO ops).1 = 0 → ∀ v W, ORow W v ops → Calls Tryz.prog 15 #[v] W fun r w' => r = .returned (.string (otextOut ops)) ∧ Below W.heap.size W w') := by
      intro h v W hv
      have hw := Go.Delta.faultO_zero h
      rw [otextOut, if_pos h]
      exact rotext_ok v ops W hv (by omega) hw (right_short hn40 Hdat.out hw).2
    generalize otextOut ops = T0 at *
    generalize Go.Delta.faultO ops = f at *
    obtain ⟨fc, fa⟩ := f
    simp only at HOf HTx HCk HT0 HT1
    go_wp2_with fail
    refine (HOf.out _ _ (HO.out.below Hb6.out)).mono ?_
    rintro r w7 ⟨rfl, hb7⟩
    have hq7 := Hq6.out.below hb7 Hq6.out.lt
    have Hq7 := hide (hq7.set fc fa)
    have Hb7 := hide (((bthen Hb6.out hb7).setCell (p := ⟨q, 0, none⟩) Hqw.out (.int .i64 (fc : Int))).setCell (p := ⟨q, 1, none⟩) Hqw.out (.int .i64 fa))
    obtain ⟨q0, q1, p0, p1, qlt⟩ := hq7
    clear hb7 Hb6 Hq6 HOf
    go_wp2_with fail
    clear q0 q1 p0 p1 qlt
    generalize (w7.setCell ⟨q, 0, none⟩ (.int .i64 (fc : Int))).setCell ⟨q, 1, none⟩ (.int .i64 fa) = w8 at *
    refine (ownOps_ok _ ops _ (HO.out.below Hb7.out) (by omega)).mono ?_
    rintro r w9 ⟨u9, rfl, hu9, hb9⟩
    have Hu9 := hide hu9
    obtain ⟨au9, cu9, rfl, _⟩ := hu9
    have Hq9 := hide (Hq7.out.below hb9 Hq7.out.lt)
    have Hb9 := hide (bthen Hb7.out hb9)
    clear hb9 Hb7 Hq7
    go_wp2_with fail
    refine (HTx.out _ _ Hu9.out (HE.out.below Hb9.out)).mono ?_
    rintro r w10 ⟨⟨y, rfl, hy⟩, hb10⟩
    have Hy := hide hy
    have hq10 := Hq9.out.below hb10 Hq9.out.lt
    have Hq10 := hide hq10
    have Hb10 := hide (bthen Hb9.out hb10)
    clear hb10 Hb9 Hq9 Hu9 hy HTx
    obtain ⟨q0, q1, p0, p1, qlt⟩ := hq10
    go_upto_region 10 with fail
    go_cut [99] (fun v99 wc => v99 = .bool false ∧ Hid (Below w10.heap.size w10 wc))
    case first =>
      have Hdr : Hid (Below w10.heap.size w10 w10.drew) := (Below.refl _ _).drew
      have HOw := hide (ownOps_ok _ ops w10.drew (HO.out.below (bthen Hb10.out Hdr.out)) (by omega))
      go_region_held3 (fun w' => Hid (Below w10.heap.size w10 w') ∧ w'.cell? ⟨q, 0, none⟩ = some (.int .i64 (fc : Int)) ∧ w'.cell? ⟨q, 1, none⟩ = some (.int .i64 fa)) (first | exact ⟨Hdr, q0, q1⟩ | exact ⟨Hb11, y0, y1⟩ | exact ⟨Hb12, z0, z1⟩ | exact ⟨Hb13, x0, x1⟩ | exact ⟨Hb14, t0, t1⟩)
        (first
          | (go_at_call 13; refine HOw.out.mono ?_; rintro r w11 ⟨u11, rfl, hu11, hb11⟩; have Hu11 := hide hu11; obtain ⟨au11, cu11, rfl, _⟩ := hu11; have y0 : w11.cell? ⟨q, 0, none⟩ = some (.int .i64 (fc : Int)) := (hb11.cell (World.block_lt_of_cell? w10.drew _ q0)).trans q0; have y1 : w11.cell? ⟨q, 1, none⟩ = some (.int .i64 fa) := (hb11.cell (World.block_lt_of_cell? w10.drew _ q1)).trans q1; have Hb11 := hide (bthen Hdr.out hb11); clear hb11)
          | (go_at_call 14; refine (HCk.out _ _ Hu11.out (HE.out.below (bthen Hb10.out Hb11.out))).mono ?_; rintro r w12 ⟨⟨x12, rfl, hx12⟩, hb12⟩; have Hx12 := hide hx12; have z0 : w12.cell? ⟨q, 0, none⟩ = some (.int .i64 (fc : Int)) := (hb12.cell (World.block_lt_of_cell? w11 _ y0)).trans y0; have z1 : w12.cell? ⟨q, 1, none⟩ = some (.int .i64 fa) := (hb12.cell (World.block_lt_of_cell? w11 _ y1)).trans y1; have Hb12 := hide (bthen Hb11.out hb12); clear hb12 hx12)
          | (go_at_call_of 9 x12; refine (Hx12.out _ (Below.refl _ _)).mono ?_; rintro r w13 ⟨rfl, hb13⟩; have x0 : w13.cell? ⟨q, 0, none⟩ = some (.int .i64 (fc : Int)) := (hb13.cell (World.block_lt_of_cell? w12 _ z0)).trans z0; have x1 : w13.cell? ⟨q, 1, none⟩ = some (.int .i64 fa) := (hb13.cell (World.block_lt_of_cell? w12 _ z1)).trans z1; have Hb13 := hide (bthen Hb12.out hb13); clear hb13)
          | (go_at_call_of 9 y; refine (Hy.out _ Hb13.out).mono ?_; rintro r w14 ⟨rfl, hb14⟩; have t0 : w14.cell? ⟨q, 0, none⟩ = some (.int .i64 (fc : Int)) := (hb14.cell (World.block_lt_of_cell? w13 _ x0)).trans x0; have t1 : w14.cell? ⟨q, 1, none⟩ = some (.int .i64 fa) := (hb14.cell (World.block_lt_of_cell? w13 _ x1)).trans x1; have Hb14 := hide (bthen Hb13.out hb14); clear hb14))
      all_goals
        go_wp2_with fail
        go_meet
        case rel => exact ⟨rfl, Hb14⟩
    case rest =>
      obtain ⟨rfl, Hcut⟩ := hcut
      have Hb11 := hide (bthen Hb10.out Hcut.out)
      have hq11 := Hq10.out.below Hcut.out Hq10.out.lt
      clear Hcut Hb10 Hq10 q0 q1 p0 p1 qlt HCk Hy
      obtain ⟨q0, q1, p0, p1, qlt⟩ := hq11
      go_upto_region 12 with fail
      go_cut [117] (fun v117 wd => v117 = .bool false ∧ Hid (Below wc.heap.size wc wd))
      case first =>
        by_cases hfc : fc = 0
        · subst hfc
          have HT := hide (HT1.out rfl)
          clear HT0 HT1
          go_wp2_with fail
          refine (HT.out _ _ (HO.out.below Hb11.out)).mono ?_
          rintro r w12 ⟨rfl, hb12⟩
          have Hb12 := hide hb12
          clear hb12
          go_wp2_with fail
          go_meet
          case rel => exact ⟨rfl, Hb12⟩
        · have e := HT0.out hfc
          subst e
          have hf1 : 0 < fc := by omega
          have hf2 : ((fc : Int) == 0) = false := by simp; omega
          clear HT0 HT1 hfc
          go_wp2_with fail
          go_meet
          case rel => exact ⟨rfl, Below.refl _ _⟩
      case rest =>
        obtain ⟨rfl, Hcut⟩ := hcut
        have Hb12 := hide (bthen Hb11.out Hcut.out)
        clear Hcut Hb11 q0 q1 p0 p1 qlt HT0 HT1 HV Hqw
        generalize hX : rdOutD t.data.toList = X
        have HRd := hide (fun W (h : Sents W a) => oread_uni a t W (by omega) h)
        have HRs := hide (fun W => rops_uni t W (by omega))
        have hlen := rdOutD_length t
        rw [hX] at HRd HRs hlen
        clear hX
        obtain ⟨L, c⟩ := X
        simp only at HRd HRs hlen
        have HCo := hide (fun v W (x : ORow W v ops) => cost_ok v ops W x (by omega) Hsh.out)
        have hn40' : (ops.length : Int) ≤ 40 := by omega
        have Hz : Hid (Go.Delta.cost (ops.take 0) = 0) := by simp [Hid, Go.Delta.cost]
        go_wp2_with fail
        go_loopw [17, 18] (fun t17 t18 wr => ∃ j : Nat, t18 = .int .i64 j ∧ t17 = .int .i64 (Go.Delta.cost (ops.take j)) ∧ j ≤ ops.length ∧ wr = wc) (fun _ t18 _ => ops.length - (intOf t18).toNat)
        case atStart => exact ⟨0, rfl, by rw [Hz.out]; rfl, by omega, rfl⟩
        case round =>
          obtain ⟨j, rfl, rfl, hj, rfl⟩ := hrel
          by_cases hlt : j < ops.length
          · have hlt' : (j : Int) < ops.length := by omega
            obtain ⟨oa', oc', hoe, hoc⟩ := HO.out
            obtain rfl : oa' = oa := by simp only [Value.slice.injEq] at hoe; exact hoe.1.symm
            obtain ⟨b, o, rfl, hc⟩ := hoc (by omega)
            obtain ⟨_, _, _, c3⟩ := hc j hlt
            have d3 := (Hb12.out.cell (World.block_lt_of_cell? _ _ c3)).trans c3
            have hcj : Go.Delta.cost (ops.take (j + 1)) = Go.Delta.cost (ops.take j) + ops[j].data.size := by rw [List.take_succ_eq_append_getElem hlt, Go.Delta.cost_snoc]
            have hb1 := cost_le (k := 4001) (ops.take j) (fun o ho => by have := Hdat.out o (List.mem_of_mem_take ho); omega)
            rw [List.length_take, Nat.min_eq_left hj] at hb1
            have hb2 := Hdat.out ops[j] (List.getElem_mem hlt)
            have Hcj := hide hcj
            clear hc c3 hoc hoe hcj
            generalize ops[j].data = d at *
            generalize Go.Delta.cost (ops.take j) = cj at *
            have hcj1 : (cj : Int) ≤ 200000 := by omega
            have hd1 : (d.size : Int) ≤ 4001 := by omega
            have Hj := hide (And.intro hj hlt)
            clear hb1 hb2
            go_wp2_with fail
            go_roundw
            case rel => exact ⟨j + 1, by go_num, by rw [Hcj.out]; go_num, by omega, trivial⟩
            case measure => simp [intOf]; omega
          · have hle : (ops.length : Int) ≤ (j : Int) := by omega
            rw [List.take_of_length_le (by omega)]
            have hct := cost_le (k := 4001) ops (fun o ho => by have := Hdat.out o ho; omega)
            generalize Go.Delta.cost ops = ct at *
            go_wp2_with fail
            refine (HRd.out _ (HE.out.below Hb12.out)).mono ?_
            rintro r w13 ⟨⟨v19, rfl, hr19, hc⟩, hb13⟩
            have Hr13 := hide hr19
            obtain ⟨a19, c19, rfl, _⟩ := hr19
            have Hb13 := hide (bthen Hb12.out hb13)
            have HCd := hide (fun W (h : Sents W a) => coded_errO a c W h hc)
            generalize errO (ovOf a) c = E13 at *
            clear hb13 Hb12 HRd hc
            go_wp2_with fail
            refine (HRs.out _).mono ?_
            rintro r w14 ⟨⟨v20, rfl, hr20⟩, hb14⟩
            have Hr14 := hide (Hr13.out.below hb14)
            have Hx14 := hide hr20
            obtain ⟨a20, c20, rfl, _⟩ := hr20
            have Hb14 := hide (bthen Hb13.out hb14)
            clear hb14 Hb13 Hr13 HRs
            go_wp2_with fail
            refine (HCd.out _ (HE.out.below Hb14.out)).mono ?_
            rintro r w15 ⟨rfl, hb15⟩
            have Hr15 := hide (Hr14.out.below hb15)
            have Hx15 := hide (Hx14.out.below hb15)
            have Hb15 := hide (bthen Hb14.out hb15)
            clear hb15 Hb14 Hr14 Hx14 HCd
            go_wp2_with fail
            refine (sameOps_ok _ _ L _ Hr15.out Hx15.out (by omega)).mono ?_
            rintro r w16 ⟨rfl, hb16⟩
            have Hb16 := hide (bthen Hb15.out hb16)
            clear hb16 Hb15 Hr15 Hx15
            go_wp2_with fail
            refine (ownOps_ok _ ops _ (HO.out.below Hb16.out) (by omega)).mono ?_
            rintro r w17 ⟨u17, rfl, hu17, hb17⟩
            have Hu17 := hide hu17
            obtain ⟨au17, cu17, rfl, _⟩ := hu17
            have Hb17 := hide (bthen Hb16.out hb17)
            clear hb17 Hb16
            go_wp2_with fail
            refine (HCo.out _ _ Hu17.out).mono ?_
            rintro r w18 ⟨rfl, hb18⟩
            have Hb18 := hide (bthen Hb17.out hb18)
            clear hb18 Hb17
            go_wp2
            go_ret
            exact ⟨rfl, Hb18.out⟩

theorem dtells_walk (la : Option Addr) (lc : Nat) (l : List Blk) (size : Int) (s : ByteArray) (oa : Option Addr) (oc : Nat) (ops : List Opx) (t : ByteArray) (a : Nat → Addr) (w : World) (hS : Sents w a) (hV : RowIn w (.slice la l.length lc) l) (hO : ORow w (.slice oa ops.length oc) ops) :
    Calls Tryz.prog 3 #[.slice la l.length lc, .int .i64 size, .string s, .slice oa ops.length oc, .string t] w fun r w' => r = .returned (.bool true) ∧ Below w.heap.size w w' := by
  by_cases h : 40 < l.length ∨ (200 < s.size ∧ s.size ≠ 4001) ∨ longB ops = true ∨ (400 < t.size ∧ t.size ≠ 20001)
  · exact dtells_early la l.length lc size s oa oc ops t a w hS hO h
  · simp only [not_or] at h
    obtain ⟨h1, h2, h3, h4⟩ := h
    exact dtells_main la lc l size s oa oc ops t a w hS hV hO (by omega) (by omega) (by simpa using h3) (by omega)
end Go.Proofs.YtcenohaadggdiacGreatDoor
