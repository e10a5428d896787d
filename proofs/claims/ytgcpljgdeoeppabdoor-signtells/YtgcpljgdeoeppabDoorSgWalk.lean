/-
  The walk of the law SignTells over the contracts.
-/
import Derived.Test.YtgcpljgdeoeppabDoorSgParts
import Derived.Deep.DeepCutAuto
import Derived.Deep.RegionHeld3
namespace Go.Proofs.YtgcpljgdeoeppabDoor
open Go.RowKit
open Go.Sign (Blk)

theorem sigL_length' (l : List UInt8) (size : Nat) : (sigL l size).length = many l.length size := sigK_length ..

/-- What Of can't take. -/
def ofBad (s : ByteArray) (size : Int) : Prop := ¬ (1 ≤ size ∧ size ≤ 64) ∨ 4000 < s.size
instance (s : ByteArray) (size : Int) : Decidable (ofBad s size) := by unfold ofBad; infer_instance

theorem of_any (s : ByteArray) (size : Int) (a : Nat → Addr) (w : World) (hS : Sents w a) :
    Calls Tryd.prog 16 #[.string s, .int .i64 size] w fun r w' => (∃ v e, r = .returned (.tuple #[v, e]) ∧ (ofBad s size → v = .slice none 0 0 ∧ e = errV (evOf a) 2) ∧ (¬ ofBad s size → RowIn w' v (sigL s.data.toList size.toNat) ∧ e = .nilIface)) ∧ Below w.heap.size w w' := by
  by_cases h : ofBad s size
  · refine (of_err s size _ _ w (h.elim Or.inr Or.inl) hS.er.bound).mono ?_
    rintro r w' ⟨rfl, hb⟩
    exact ⟨⟨_, _, rfl, fun _ => ⟨rfl, rfl⟩, fun h' => absurd h h'⟩, hb⟩
  · have h' := h
    simp only [ofBad, not_or, Classical.not_not] at h'
    obtain ⟨m, rfl⟩ := Int.eq_ofNat_of_zero_le (show 0 ≤ size by omega)
    refine (of_ok s m w (by omega) (by omega) (by omega)).mono ?_
    rintro r w' ⟨v, rfl, hown, hb⟩
    exact ⟨⟨_, _, rfl, fun h'' => absurd h'' h, fun _ => ⟨RowIn.of_own hown, rfl⟩⟩, hb⟩

set_option maxHeartbeats 2000000 in
set_option maxRecDepth 100000 in
theorem stells_early (s : ByteArray) (size : Int) (la : Option Addr) (ln lc : Nat) (k : Int) (t : ByteArray) (w : World)
    (h : (300 < s.size ∧ s.size ≠ 4001) ∨ 40 < ln ∨ 400 < t.size) :
    Calls Tryd.prog 6 #[.string s, .int .i64 size, .slice la ln lc, .int .i64 k, .string t] w fun r w' => r = .returned (.bool true) ∧ Below w.heap.size w w' := by
  have HS := hide (fun W => signed_ok W)
  have H := hide h
  clear h
  go_enter Tryd.func6, Tryd.ntmps6
  go_wp2_with fail
  refine (HS.out _).mono ?_
  rintro r w1 ⟨rfl, hb1⟩
  have Hb1 := hide hb1
  clear hb1 HS
  go_upto_region 2 with fail
  go_cut [44] (fun v44 wc => v44 = .bool true ∧ wc = w1)
  case first =>
    by_cases e1 : 300 < s.size ∧ s.size ≠ 4001
    · have c1 : decide ((300 : Int) < s.size) = true := by simp; omega
      have c2 : ((s.size : Int) != 4001) = true := by simp; omega
      clear e1
      go_wp2_with fail
      go_meet
      case rel => exact ⟨rfl, rfl⟩
    · by_cases e2 : 40 < ln
      · have c3 : decide ((40 : Int) < ln) = true := by simp; omega
        by_cases e0 : 300 < s.size
        · have c1 : decide ((300 : Int) < s.size) = true := by simp; omega
          have c2 : ((s.size : Int) != 4001) = false := by simp; omega
          clear e1 e0 e2
          go_wp2_with fail
          go_meet
          case rel => exact ⟨rfl, rfl⟩
        · have c1 : decide ((300 : Int) < s.size) = false := by simp; omega
          clear e1 e0 e2
          go_wp2_with fail
          go_meet
          case rel => exact ⟨rfl, rfl⟩
      · have c3 : decide ((40 : Int) < ln) = false := by simp; omega
        have c4 : decide ((400 : Int) < t.size) = true := by have := H.out; simp; omega
        by_cases e0 : 300 < s.size
        · have c1 : decide ((300 : Int) < s.size) = true := by simp; omega
          have c2 : ((s.size : Int) != 4001) = false := by simp; omega
          clear e1 e0 e2
          go_wp2_with fail
          go_meet
          case rel => exact ⟨rfl, rfl⟩
        · have c1 : decide ((300 : Int) < s.size) = false := by simp; omega
          clear e1 e0 e2
          go_wp2_with fail
          go_meet
          case rel => exact ⟨rfl, rfl⟩
  case rest =>
    obtain ⟨rfl, rfl⟩ := hcut
    go_wp2
    go_ret
    exact ⟨rfl, Hb1.out⟩

set_option maxHeartbeats 4000000 in
set_option maxRecDepth 100000 in
theorem stells_main (s : ByteArray) (size : Int) (la : Option Addr) (lc : Nat) (l : List Blk) (k : Int) (t : ByteArray) (a : Nat → Addr) (w : World) (hS : Sents w a) (hv : RowIn w (.slice la l.length lc) l)
    (hst : ∀ b ∈ l, b.strong < 4294967296) (hs : s.size ≤ 300 ∨ s.size = 4001) (hl : l.length ≤ 40) (ht : t.size ≤ 400) :
    Calls Tryd.prog 6 #[.string s, .int .i64 size, .slice la l.length lc, .int .i64 k, .string t] w fun r w' => r = .returned (.bool true) ∧ Below w.heap.size w w' := by
  have HS := hide (fun W => signed_ok W)
  have HE := hide hS
  have HV := hide hv
  have Hs := hide hs
  have hs' : (s.size : Int) ≤ 4001 := by omega
  clear hS hv hs
  go_enter Tryd.func6, Tryd.ntmps6
  go_wp2_with fail
  refine (HS.out _).mono ?_
  rintro r w1 ⟨rfl, hb1⟩
  have Hb1 := hide hb1
  have HE1 := hide (HE.out.below hb1)
  have HV1 := hide (HV.out.below hb1)
  clear hb1 HS HE HV
  go_upto_region 2 with fail
  go_cut [44] (fun v44 wc => v44 = .bool false ∧ wc = w1)
  case first =>
    have c3 : decide ((40 : Int) < l.length) = false := by simp; omega
    have c4 : decide ((400 : Int) < t.size) = false := by simp; omega
    by_cases e0 : 300 < s.size
    · have c1 : decide ((300 : Int) < s.size) = true := by simp; omega
      have c2 : ((s.size : Int) != 4001) = false := by have := Hs.out; simp; omega
      clear e0
      go_wp2_with fail
      go_meet
      case rel => exact ⟨rfl, rfl⟩
    · have c1 : decide ((300 : Int) < s.size) = false := by simp; omega
      clear e0
      go_wp2_with fail
      go_meet
      case rel => exact ⟨rfl, rfl⟩
  case rest =>
    obtain ⟨rfl, rfl⟩ := hcut
    go_wp2_with fail
    refine (of_any s size a _ HE1.out).mono ?_
    rintro r w2 ⟨⟨v12, v13, rfl, hbad, hgood⟩, hb2⟩
    have Hb2 := hide (bthen Hb1.out hb2)
    have HE2 := hide (HE1.out.below hb2)
    have HV2 := hide (HV1.out.below hb2)
    have HBad := hide hbad
    have HGood := hide hgood
    clear hb2 hbad hgood Hb1 HE1 HV1
    go_upto_region 5 with fail
    go_cut [62] (fun v62 wc => v62 = .bool (decide (ofBad s size)) ∧ wc = w2)
    case first =>
      by_cases e1 : size < 1
      · have c1 : decide (size < 1) = true := by simp; omega
        have hb := hide (show decide (ofBad s size) = true from decide_eq_true (Or.inl (by omega)))
        go_wp2_with fail
        go_meet
        case rel => exact ⟨by rw [hb.out], rfl⟩
      · have c1 : decide (size < 1) = false := by simp; omega
        by_cases e2 : 64 < size
        · have c2 : decide ((64 : Int) < size) = true := by simp; omega
          have hb := hide (show decide (ofBad s size) = true from decide_eq_true (Or.inl (by omega)))
          go_wp2_with fail
          go_meet
          case rel => exact ⟨by rw [hb.out], rfl⟩
        · have c2 : decide ((64 : Int) < size) = false := by simp; omega
          by_cases e3 : 4000 < s.size
          · have c3 : decide ((4000 : Int) < s.size) = true := by simp; omega
            have hb := hide (show decide (ofBad s size) = true from decide_eq_true (Or.inr e3))
            go_wp2_with fail
            go_meet
            case rel => exact ⟨by rw [hb.out], rfl⟩
          · have c3 : decide ((4000 : Int) < s.size) = false := by simp; omega
            have hb := hide (show decide (ofBad s size) = false from decide_eq_false (by simp only [ofBad]; omega))
            go_wp2_with fail
            go_meet
            case rel => exact ⟨by rw [hb.out], rfl⟩
    case rest =>
      obtain ⟨rfl, rfl⟩ := hcut
      go_upto_if 62 with fail
      go_cut [12, 13] (fun _ _ wd => Hid (Below wc.heap.size wc wd))
      case first =>
        by_cases hB : ofBad s size
        · obtain ⟨rfl, rfl⟩ := HBad.out hB
          rw [show decide (ofBad s size) = true from decide_eq_true hB]
          have HCd := hide (fun W (h : Sents W a) => coded_errV a 2 W h (by omega))
          obtain ⟨et, ex, ee⟩ := errV_form (evOf a) 2 (by decide)
          rw [ee] at HCd ⊢
          clear hB HBad HGood ee
          go_wp2_with fail
          refine (HCd.out _ HE2.out).mono ?_
          rintro r w3 ⟨rfl, hb3⟩
          have Hb3 := hide hb3
          clear hb3
          go_wp2_with fail
          go_meet
          case rel => exact Hb3
        · obtain ⟨hr12, rfl⟩ := HGood.out hB
          rw [show decide (ofBad s size) = false from decide_eq_false hB]
          simp only [ofBad, not_or, Classical.not_not] at hB
          obtain ⟨m, rfl⟩ := Int.eq_ofNat_of_zero_le (show 0 ≤ size by omega)
          have HBl := hide (fun W => blocksOf_ok s m W (by omega) (by omega) (by omega))
          have HSm := hide (fun u v W (x : RowIn W u (sigL s.data.toList m)) (y : RowIn W v (sigL s.data.toList m)) => same_ok u v _ W x y (by rw [sigL_length', lenL]; have := many_le (len := s.size) (size := m) (by omega); omega))
          rw [show ((m : Int)).toNat = m from rfl] at hr12
          have Hr12 := hide hr12
          obtain ⟨a12, c12, rfl, _⟩ := hr12
          clear hB HBad HGood
          go_wp2_with fail
          refine (HBl.out _).mono ?_
          rintro r w3 ⟨v77, rfl, hown3, hb3⟩
          have hr77 := RowIn.of_own hown3
          have Hr77 := hide hr77
          have Hr12' := hide (Hr12.out.below hb3)
          obtain ⟨a77, c77, rfl, _⟩ := hr77
          have Hb3 := hide hb3
          clear hb3 hown3 Hr12 HBl
          go_wp2_with fail
          refine (HSm.out _ _ _ Hr12'.out Hr77.out).mono ?_
          rintro r w4 ⟨rfl, hb4⟩
          have Hb4 := hide (bthen Hb3.out hb4)
          clear hb4 Hb3
          go_wp2_with fail
          go_meet
          case rel => exact Hb4
      case rest =>
        have HE3 := hide (HE2.out.below hcut.out)
        have HV3 := hide (HV2.out.below hcut.out)
        have Hb3 := hide (bthen Hb2.out hcut.out)
        clear hcut HE2 HV2 Hb2 HBad HGood
        have HFl := hide (fun v W (x : RowIn W v l) => sfault_ok v l k W x (by omega))
        have HTx := hide (fun v W (x : RowIn W v l) (y : Sents W a) => stext_ok v l k (evOf a) W x (by omega) hst y.er)
        have HCk := hide (fun v W (x : RowIn W v l) (y : Sents W a) => check_then v l k a W x (by omega) y)
        have HCd := hide (fun W (h : Sents W a) => coded_errV a (Go.Sign.fault l k).1 W h (by have := fault_code l k; omega))
        have HT0 : Hid ((Go.Sign.fault l k).1 ≠ 0 → stextOut l k = ⟨#[]⟩) := fun h => by rw [stextOut, if_neg h]; rfl
        have HT1 : Hid ((Go.Sign.fault l k).1 = 0 → ∀ v W, RowIn W v l → Calls Tryd.prog 25 #[v, .int .i64 k] W fun r w' => r = .returned (.string (stextOut l k)) ∧ Below W.heap.size W w') := by
          intro h v W hv
          obtain ⟨⟨s1, s2⟩, hn⟩ := Go.Sign.fault_zero h
          have ⟨h1, _⟩ := Go.Sign.scanW_none s1 l 0 0 hn
          rw [stextOut, if_pos h]
          obtain ⟨m, rfl⟩ := Int.eq_ofNat_of_zero_le (show 0 ≤ k by omega)
          exact rtext_ok v l m W hv (by omega) (by omega) fun b hb => ⟨⟨by have := h1 b hb; omega, by have := h1 b hb; omega⟩, ⟨(h1 b hb).2.2.1, (h1 b hb).2.2.2⟩, hst b hb⟩
        unfold fval at HFl
        generalize stextOut l k = T0 at *
        generalize Go.Sign.fault l k = f at *
        obtain ⟨fc, fa⟩ := f
        simp only at HFl HTx HCk HCd HT0 HT1
        generalize errV (evOf a) fc = E13 at *
        go_wp2_with fail
        refine (ownBlocks_ok _ l _ HV3.out (by omega)).mono ?_
        rintro r w4 ⟨u, rfl, hru, hb4⟩
        have HE4 := hide (HE3.out.below hb4)
        have HV4 := hide (HV3.out.below hb4)
        have Hb4 := hide (bthen Hb3.out hb4)
        have Hu4 := hide hru
        obtain ⟨au, cu, rfl, _⟩ := hru
        clear hb4 HE3 HV3 Hb3
        go_wp2_with fail
        refine (HFl.out _ _ HV4.out).mono ?_
        rintro r w5 ⟨rfl, hb5⟩
        have hba := hb5.alloc hb5.size (.cells #[.int .i64 (fc : Int), .int .i64 fa] 45)
        have Hq5 := hide (HvAt.fresh w5 fc fa 45)
        have HE5 := hide (HE4.out.below hba)
        have HV5 := hide (HV4.out.below hba)
        have Hu5 := hide (Hu4.out.below hba)
        have Hb5 := hide (bthen Hb4.out hba)
        clear hb5 hba HE4 HV4 Hb4 Hu4 HFl
        go_wp2_with fail
        refine (HTx.out _ _ Hu5.out HE5.out).mono ?_
        rintro r w6 ⟨rfl, hb6⟩
        have hq6 := Hq5.out.below hb6 (by simp)
        have HE6 := hide (HE5.out.below hb6)
        have HV6 := hide (HV5.out.below hb6)
        have Hu6 := hide (Hu5.out.below hb6)
        have Hb6 := hide (bthen Hb5.out hb6)
        clear hb6 HE5 HV5 Hb5 Hu5 Hq5 HTx
        generalize w5.heap.size = q at *
        have Hq6 := hide hq6
        obtain ⟨q0, q1, p0, p1, qlt⟩ := hq6
        go_upto_region 13 with fail
        go_cut [104] (fun v104 wc => v104 = .bool false ∧ Hid (Below w6.heap.size w6 wc))
        case first =>
          have HK := hide (HCk.out (.slice (au) l.length cu) w6.drew (Hu6.out.below (Below.refl _ _).drew) (HE6.out.below (Below.refl _ _).drew))
          have Hdr : Hid (Below w6.heap.size w6 w6.drew) := (Below.refl _ _).drew
          go_region_held3 (fun w' => Hid (Below w6.heap.size w6 w') ∧ w'.cell? ⟨q, 0, none⟩ = some (.int .i64 (fc : Int)) ∧ w'.cell? ⟨q, 1, none⟩ = some (.int .i64 fa)) (first | exact ⟨Hdr, q0, q1⟩ | exact ⟨Hb7, y0, y1⟩ | exact ⟨Hb8, z0, z1⟩ | exact ⟨Hb9, x0, x1⟩)
            (first
              | (go_at_call 24; refine HK.out.mono ?_; rintro r w7 ⟨⟨x, rfl, hx⟩, hb7⟩; have Hx := hide hx; have y0 : w7.cell? ⟨q, 0, none⟩ = some (.int .i64 (fc : Int)) := (hb7.cell (World.block_lt_of_cell? w6.drew _ q0)).trans q0; have y1 : w7.cell? ⟨q, 1, none⟩ = some (.int .i64 fa) := (hb7.cell (World.block_lt_of_cell? w6.drew _ q1)).trans q1; have Hb7 := hide (bthen Hdr.out hb7); clear hb7 hx)
              | (go_at_call 23; refine (Hx.out _ (Below.refl _ _)).mono ?_; rintro r w8 ⟨rfl, hb8⟩; have z0 : w8.cell? ⟨q, 0, none⟩ = some (.int .i64 (fc : Int)) := (hb8.cell (World.block_lt_of_cell? w7 _ y0)).trans y0; have z1 : w8.cell? ⟨q, 1, none⟩ = some (.int .i64 fa) := (hb8.cell (World.block_lt_of_cell? w7 _ y1)).trans y1; have Hb8 := hide (bthen Hb7.out hb8); clear hb8)
              | (go_at_call 17; refine (HCd.out _ (HE6.out.below Hb8.out)).mono ?_; rintro r w9 ⟨rfl, hb9⟩; have x0 : w9.cell? ⟨q, 0, none⟩ = some (.int .i64 (fc : Int)) := (hb9.cell (World.block_lt_of_cell? w8 _ z0)).trans z0; have x1 : w9.cell? ⟨q, 1, none⟩ = some (.int .i64 fa) := (hb9.cell (World.block_lt_of_cell? w8 _ z1)).trans z1; have Hb9 := hide (bthen Hb8.out hb9); clear hb9))
          all_goals
            go_wp2_with fail
            go_meet
            case rel => exact ⟨rfl, Hb9⟩
        case rest =>
          obtain ⟨rfl, Hcut⟩ := hcut
          have HE7 := hide (HE6.out.below Hcut.out)
          have HV7 := hide (HV6.out.below Hcut.out)
          have Hu7 := hide (Hu6.out.below Hcut.out)
          have Hb7 := hide (bthen Hb6.out Hcut.out)
          have hq7 := Hq6.out.below Hcut.out Hq6.out.lt
          clear Hcut HE6 HV6 Hu6 Hb6 Hq6 q0 q1 p0 p1 qlt HCk HCd
          obtain ⟨q0, q1, p0, p1, qlt⟩ := hq7
          go_upto_region 15 with fail
          go_cut [123] (fun v123 wd => v123 = .bool false ∧ Hid (Below wc.heap.size wc wd))
          case first =>
            by_cases hfc : fc = 0
            · subst hfc
              have HT := hide (HT1.out rfl)
              clear HT0 HT1
              go_wp2_with fail
              refine (HT.out _ _ HV7.out).mono ?_
              rintro r w8 ⟨rfl, hb8⟩
              have Hb8 := hide hb8
              clear hb8
              go_wp2_with fail
              go_meet
              case rel => exact ⟨rfl, Hb8⟩
            · have e := HT0.out hfc
              subst e
              have hf1 : 0 < fc := by omega
              have hf2 : ((fc : Int) == 0) = false := by simp; omega
              clear HT0 HT1 hfc
              go_wp2_with fail
              go_meet
              case rel => exact ⟨rfl, Below.refl _ _⟩
          case rest =>
            obtain ⟨rfl, Hcut⟩ := hcut
            have HE8 := hide (HE7.out.below Hcut.out)
            have HV8 := hide (HV7.out.below Hcut.out)
            have Hu8 := hide (Hu7.out.below Hcut.out)
            have Hb8 := hide (bthen Hb7.out Hcut.out)
            clear Hcut HE7 HV7 Hu7 Hb7 q0 q1 p0 p1 qlt HT0 HT1
            have HRd := hide (fun W (h : Sents W a) => sread_uni a t W (by omega) h)
            have HRs := hide (fun W => rsign_uni t W (by omega))
            have hlen := rdOut_length t
            generalize rdOut t.data.toList = x at *
            obtain ⟨L, n, c⟩ := x
            simp only at HRd HRs hlen
            go_wp2_with fail
            refine (HRd.out _ HE8.out).mono ?_
            rintro r w9 ⟨⟨v17, rfl, hr17, hc⟩, hb9⟩
            have HE9 := hide (HE8.out.below hb9)
            have HV9 := hide (HV8.out.below hb9)
            have Hu9 := hide (Hu8.out.below hb9)
            have Hb9 := hide (bthen Hb8.out hb9)
            have Hr9 := hide hr17
            obtain ⟨a17, c17, rfl, _⟩ := hr17
            have HCd := hide (fun W (h : Sents W a) => coded_errV a c W h hc)
            generalize errV (evOf a) c = E14 at *
            clear hb9 HE8 HV8 Hu8 Hb8 HRd hc
            go_wp2_with fail
            refine (HRs.out _).mono ?_
            rintro r w10 ⟨⟨v19, rfl, hr19⟩, hb10⟩
            have HE10 := hide (HE9.out.below hb10)
            have HV10 := hide (HV9.out.below hb10)
            have Hu10 := hide (Hu9.out.below hb10)
            have Hb10 := hide (bthen Hb9.out hb10)
            have Hr10 := hide (Hr9.out.below hb10)
            have Hx10 := hide hr19
            obtain ⟨a19, c19, rfl, _⟩ := hr19
            clear hb10 HE9 HV9 Hu9 Hb9 Hr9 HRs
            have HZ1 := hide (fun W => size_ok k W)
            have HZ2 := hide (fun W => rsize_ok k W)
            generalize sizeOut k = z at *
            go_wp2_with fail
            refine (HCd.out _ HE10.out).mono ?_
            rintro r w11 ⟨rfl, hb11⟩
            have HV11 := hide (HV10.out.below hb11)
            have Hu11 := hide (Hu10.out.below hb11)
            have Hb11 := hide (bthen Hb10.out hb11)
            have Hr11 := hide (Hr10.out.below hb11)
            have Hx11 := hide (Hx10.out.below hb11)
            clear hb11 HE10 HV10 Hu10 Hb10 Hr10 Hx10 HCd
            go_wp2_with fail
            refine (same_ok _ _ L _ Hr11.out Hx11.out (by omega)).mono ?_
            rintro r w12 ⟨rfl, hb12⟩
            have HV12 := hide (HV11.out.below hb12)
            have Hu12 := hide (Hu11.out.below hb12)
            have Hb12 := hide (bthen Hb11.out hb12)
            clear hb12 HV11 Hu11 Hb11 Hr11 Hx11
            go_wp2_with fail
            refine (HZ1.out _).mono ?_
            rintro r w13 ⟨rfl, rfl⟩
            go_wp2_with fail
            refine (HZ2.out _).mono ?_
            rintro r w14 ⟨rfl, rfl⟩
            by_cases e0 : 300 < s.size
            · have c1 : decide ((300 : Int) < s.size) = true := by simp; omega
              clear e0
              go_wp2_with fail
              go_ret
              exact ⟨rfl, Hb12.out⟩
            · have c1 : decide ((300 : Int) < s.size) = false := by simp; omega
              have HF1 := hide (fun v W (x : RowIn W v l) => find_ok v l s W x (by omega) (by omega))
              have HF2 := hide (fun v W (x : RowIn W v l) => findOf_ok v l s W x (by omega) (by omega))
              generalize findOut l (blk s.data.toList) = y at *
              clear e0
              go_wp2_with fail
              refine (HF1.out _ _ Hu12.out).mono ?_
              rintro r w15 ⟨rfl, hb15⟩
              have HV15 := hide (HV12.out.below hb15)
              have Hb15 := hide (bthen Hb12.out hb15)
              clear hb15 HV12 Hu12 Hb12
              go_wp2_with fail
              refine (HF2.out _ _ HV15.out).mono ?_
              rintro r w16 ⟨rfl, hb16⟩
              have Hb16 := hide (bthen Hb15.out hb16)
              clear hb16
              go_wp2
              go_ret
              exact ⟨rfl, Hb16.out⟩

theorem stells_walk (s : ByteArray) (size : Int) (la : Option Addr) (lc : Nat) (l : List Blk) (k : Int) (t : ByteArray) (a : Nat → Addr) (w : World) (hS : Sents w a) (hv : RowIn w (.slice la l.length lc) l)
    (hst : ∀ b ∈ l, b.strong < 4294967296) :
    Calls Tryd.prog 6 #[.string s, .int .i64 size, .slice la l.length lc, .int .i64 k, .string t] w fun r w' => r = .returned (.bool true) ∧ Below w.heap.size w w' := by
  by_cases h : (300 < s.size ∧ s.size ≠ 4001) ∨ 40 < l.length ∨ 400 < t.size
  · exact stells_early s size la l.length lc k t w h
  · exact stells_main s size la lc l k t a w hS hv hst (by omega) (by omega) (by omega)
end Go.Proofs.YtgcpljgdeoeppabDoor
