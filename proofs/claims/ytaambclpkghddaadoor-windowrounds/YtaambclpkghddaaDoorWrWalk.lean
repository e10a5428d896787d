/-
  The walk of the law WindowRounds over the contracts.
-/
import Derived.Test.YtaambclpkghddaaDoorWinOk
namespace Go.Proofs.YtaambclpkghddaaDoor
open Go.RowKit
open Go.Window (Sn Rc snNew rcNew startN)

theorem sn_mod (n : Nat) : snNew (n + 1) = snNew ((n + 1) % 65536) := by unfold snNew; rw [Nat.mod_mod]
theorem rc_mod (n : Nat) : rcNew (n + 1) = rcNew ((n + 1) % 65536) := by unfold rcNew; rw [Nat.mod_mod]
/-- Where the last number stands to the next one. -/
def LastIs (L : Int) (n : Nat) : Prop := L = -1 ∨ ∃ m : Nat, m < 65536 ∧ L = m ∧ n = (m + 1) % 65536

set_option maxHeartbeats 1000000 in
set_option maxRecDepth 100000 in
theorem wrounds_main (Env : World → Prop) (S : Value → Sn → Fam) (R : Value → Rc → Fam) (errW : Nat → Value) (h : WinOk Env S R errW) (first a b : Int) (ta : Option Addr) (tc : Nat) (T : List ByteArray) (w : World) (hE : Env w)
    (hT : Row1 strV w (.slice ta T.length tc) T) (hl : T.length ≤ 60) :
    Calls Tryd.prog 5 #[.int .i64 first, .slice ta T.length tc, .int .i64 a, .int .i64 b] w fun e w' => e = .returned (.bool true) ∧ Below w.heap.size w w' := by
  have HE := hide (fun W (k : Below w.heap.size w W) => h.env w W hE k)
  have HT := hide (fun W (k : Below w.heap.size w W) => hT.below k)
  have HM := hide (windowed_ok Env S R errW h w hE)
  have H1 := hide (fun W (k : Env W) => h.newS first W k)
  have H2 := hide (fun W (k : Env W) => h.newR first W k)
  have HA := hide (fun W => h.ahead a b W)
  have HB := hide (fun W => h.ahead b a W)
  have HC := hide (fun W => h.ahead a a W)
  rw [Go.Window.ahead_self] at HC
  have hone := Go.Window.ahead_once a b
  have hl' : (T.length : Int) ≤ 60 := by omega
  have Hw := hide h
  clear hE hT h
  generalize Go.Window.ahead a b = x at *
  generalize Go.Window.ahead b a = y at *
  go_enter Tryd.func5, Tryd.ntmps5
  go_wp2_with fail
  refine HM.out.mono ?_
  rintro e w1 ⟨rfl, hb1⟩
  have Hb1 := hide hb1
  clear hb1 HM
  go_upto_region 4 with fail
  go_cut [39] (fun v39 wc => v39 = .bool false ∧ Hid (Below w.heap.size w wc))
  case first =>
    cases x with
    | false =>
      go_wp2_with fail
      refine (HA.out _).mono ?_
      rintro e w2 ⟨rfl, hb2⟩
      have Hb2 := hide (bthen Hb1.out hb2)
      clear hb2
      go_wp2_with fail
      refine (HC.out _).mono ?_
      rintro e w3 ⟨rfl, hb3⟩
      have Hb3 := hide (bthen Hb2.out hb3)
      clear hb3
      go_wp2_with fail
      go_meet
      case rel => exact ⟨rfl, Hb3.out⟩
    | true =>
      obtain rfl : y = false := hone rfl
      go_wp2_with fail
      refine (HA.out _).mono ?_
      rintro e w2 ⟨rfl, hb2⟩
      have Hb2 := hide (bthen Hb1.out hb2)
      clear hb2
      go_wp2_with fail
      refine (HB.out _).mono ?_
      rintro e w3 ⟨rfl, hb3⟩
      have Hb3 := hide (bthen Hb2.out hb3)
      clear hb3
      go_wp2_with fail
      refine (HC.out _).mono ?_
      rintro e w4 ⟨rfl, hb4⟩
      have Hb4 := hide (bthen Hb3.out hb4)
      clear hb4
      go_wp2_with fail
      go_meet
      case rel => exact ⟨rfl, Hb4.out⟩
  case rest =>
    obtain ⟨rfl, Hbc⟩ := hcut
    clear HA HB HC hone Hb1
    have HS := hide ((Sep.start w).keep Hbc.out)
    go_wp2_with fail
    refine (Sep.call (L0 := []) HS.out (H1.out _ (HE.out _ HS.out.below))).mono ?_
    rintro e w2 ⟨_, ⟨sa, rfl, rfl⟩, hs2⟩
    have HS2 := hide hs2
    clear hs2 HS H1 Hbc
    go_wp2_with fail
    refine (Sep.call (L0 := []) HS2.out (H2.out _ (HE.out _ HS2.out.below))).mono ?_
    rintro e w3 ⟨_, ⟨ra, rfl, rfl⟩, hs3⟩
    simp only [List.cons_append, List.nil_append] at hs3
    have HS3 := hide hs3.sw
    have hf := Go.Window.start_lt first
    clear hs3 HS2 H2
    generalize startN first = f at *
    go_wp2_with fail
    go_loopw [12, 13] (fun t12 t13 wr => ∃ (i n : Nat) (L : Int), t12 = .int .i64 L ∧ t13 = .int .i64 i ∧ i ≤ T.length ∧ n < 65536 ∧ Hid (LastIs L n) ∧ -1 ≤ L ∧ L ≤ 65535 ∧ Hid (Sep Foot.none w [S (.pointer (some sa)) (snNew n), R (.pointer (some ra)) (rcNew n)] wr)) (fun _ t13 _ => T.length - (intOf t13).toNat)
    case atStart => exact ⟨0, f, -1, rfl, rfl, Nat.zero_le _, hf, Or.inl rfl, by omega, by omega, HS3.out⟩
    case round =>
      obtain ⟨i, n, L, rfl, rfl, hi, hn, HL, hL0, hL1, Hs⟩ := hrel
      by_cases hlt : i < T.length
      · have hlt' : (i : Int) < T.length := by omega
        have HTc : Hid (∃ tb o, ta = some ⟨tb, o, none⟩ ∧ ∀ W, Below w.heap.size w W → W.cell? ⟨tb, o + i, none⟩ = some (.string T[i])) := by
          obtain ⟨_, _, e, hrow⟩ := HT.out w (Below.refl _ _)
          cases e
          obtain ⟨tb, o, rfl, hc⟩ := hrow (by omega)
          exact ⟨tb, o, rfl, fun W k => (k.cell (World.block_lt_of_cell? _ _ (hc i hlt))).trans (hc i hlt)⟩
        obtain ⟨tb, o, rfl, htc⟩ := HTc.out
        have HTd := hide htc
        clear HTc htc HT
        generalize T[i] = d at *
        clear hlt
        have c0 := HTd.out _ Hs.out.below
        by_cases hd : 60 < d.size
        · have hd' : (60 : Int) < d.size := by omega
          have Hb := hide Hs.out.below
          clear Hs HL hd
          go_wp2_with fail
          go_ret
          exact ⟨rfl, Hb.out⟩
        · have hd' : (d.size : Int) ≤ 60 := by omega
          have hp := Go.Window.one_push n d (by omega) hn
          have HP := hide (fun W (k : Env W) => Hw.out.push (.pointer (some sa)) (snNew n) d W (Go.Window.ok_new n) (by omega) k)
          rw [hp, Hw.out.none] at HP
          have ht1 : (rcNew n).takeI (n : Int) d = (rcNew (n + 1), [d]) := (Go.Window.Rc.takeI_nat _ _ hn _).trans (Go.Window.one_take n d hn)
          have HT1 := hide (fun W (k : Env W) => Hw.out.takeR (.pointer (some ra)) (rcNew n) n d W (Go.Window.rc_new n) (by omega) k)
          rw [ht1] at HT1
          have ht2 : (rcNew (n + 1)).takeI (n : Int) d = (rcNew (n + 1), []) := (Go.Window.Rc.takeI_nat _ _ hn _).trans (Go.Window.one_again n d hn)
          have HT2 := hide (fun W (k : Env W) => Hw.out.takeR (.pointer (some ra)) (rcNew (n + 1)) n d W (Go.Window.rc_new (n + 1)) (by omega) k)
          rw [ht2] at HT2
          have HAk := hide (fun W (k : Env W) => Hw.out.ackR (.pointer (some ra)) (rcNew (n + 1)) W (Go.Window.rc_new (n + 1)) k)
          rw [Go.Window.new_more, show (rcNew (n + 1)).due = (n + 1) % 65536 from rfl] at HAk
          have hok := (Go.Window.ok_new n).push d
          rw [hp] at hok
          have HTk := hide (fun u w0 W (L : List Fam) (k : Env W) (hS : Sep Foot.none w0 (S (.pointer (some sa)) (Sn.mk ((n + 1) % 65536) [(n, d)]) :: RowF intV u [] :: L) W) => Hw.out.takeL (n := (((n + 1) % 65536 : Nat) : Int)) (more := []) hS hok (by decide) (by simp) k)
          rw [Go.Window.one_ack n d hn] at HTk
          have HKp := hide (fun W (k : Env W) => Hw.out.kept (.pointer (some sa)) (snNew (n + 1)) W (Go.Window.ok_new (n + 1)) k)
          have HAh := hide (fun (m : Nat) W => Hw.out.ahead (m : Int) (n : Int) W)
          have hn' : (n : Int) ≤ 65535 := by omega
          simp only [List.map_nil] at HP HT1 HT2 HAk HKp HTk
          have hk1 : ((Sn.mk ((n + 1) % 65536) [(n, d)]).kept.length : Int) - ((snNew (n + 1)).kept.length : Int) = 1 := rfl
          have hen : (((n + 1) % 65536 : Nat) : Int) = ((n : Int) + 1) % 65536 := by omega
          rw [hk1, hen] at HTk
          have hk2 : (snNew (n + 1)).kept.map (fun p => (p.1 : Int)) = [] := rfl
          rw [hk2] at HKp
          have HX := hide (fun u W (k : Row1 strV W u [d]) (k2 : Row1 strV (W.alloc (.cells #[.string d] 9)) (.slice (some ⟨W.heap.size, 0, none⟩) 1 1) [d]) => sameTexts_ok u (.slice (some ⟨W.heap.size, 0, none⟩) 1 1) [d] [d] (W.alloc (.cells #[.string d] 9)) (k.below ((Below.refl _ _).alloc (Nat.le_refl _) _)) k2 (by simp) (by simp))
          rw [show decide ([d] = [d]) = true from by simp] at HX
          have Hn := hide hn
          have hrow1 := hide (fun W => (⟨_, _, rfl, fun _ => ⟨_, 0, rfl, fun j hj => by
            obtain rfl : j = 0 := by simp at hj; omega
            simp [strV]⟩⟩ : Row1 strV (World.alloc W (.cells #[.string d] 9)) (.slice (some ⟨W.heap.size, 0, none⟩) 1 1) [d]))
          clear hp ht1 ht2 hok hk1 hk2 hd Hw hen
          go_wp2_with fail
          refine (Sep.call (L0 := [_]) Hs.out (HP.out _ (HE.out _ Hs.out.below))).mono ?_
          rintro e w4 ⟨_, ⟨rfl, rfl⟩, hs4⟩
          simp only [List.cons_append, List.nil_append] at hs4
          have HS4 := hide hs4
          clear hs4 Hs HP c0 hn
          go_upto_region 19 with fail
          go_cut [80] (fun v80 wc => v80 = .bool false ∧ Hid (Below w4.heap.size w4 wc))
          case first =>
            rcases HL.out with hLe | ⟨m, hm, hLe, hnm⟩
            · subst hLe
              clear HL hL0 hL1
              go_wp2_with fail
              go_meet
              case rel => exact ⟨rfl, Below.refl _ _⟩
            · subst hLe
              have hah := Go.Window.ahead_next m hm
              rw [← hnm] at hah
              have HA := hide (HAh.out m)
              rw [hah] at HA
              have hm0 : 0 ≤ (m : Int) := by omega
              clear HL hah hnm hm HAh
              go_wp2_with fail
              refine (HA.out _).mono ?_
              rintro e w5 ⟨rfl, hb5⟩
              have Hb5 := hide hb5
              clear hb5
              go_wp2_with fail
              go_meet
              case rel => exact ⟨rfl, Hb5.out⟩
          case rest =>
            obtain ⟨rfl, Hbc⟩ := hcut
            have HS5 := hide (HS4.out.keep Hbc.out).sw
            clear HL HAh HS4 Hbc hL0 hL1
            have c0 := HTd.out _ HS5.out.below
            go_wp2_with fail
            refine (Sep.call (L0 := [_]) HS5.out (HT1.out _ (HE.out _ HS5.out.below))).mono ?_
            rintro e w6 ⟨_, ⟨u6, rfl, rfl⟩, hs6⟩
            simp only [List.cons_append, List.nil_append] at hs6
            obtain ⟨ua, uc, rfl, -⟩ := hs6.row
            have HS6 := hide hs6.sw
            clear hs6 HS5 HT1 c0
            have c0 := HTd.out _ HS6.out.below
            go_wp2_with fail
            refine (Sep.call (L0 := [_]) HS6.out (HT2.out _ (HE.out _ HS6.out.below))).mono ?_
            rintro e w7 ⟨_, ⟨u7, rfl, rfl⟩, hs7⟩
            simp only [List.cons_append, List.nil_append] at hs7
            obtain ⟨va, vc, rfl, -⟩ := hs7.row
            have HS7 := hide hs7
            have HU7 := hide hs7.third.row
            clear hs7 HS6 HT2 c0
            have c0 := HTd.out _ HS7.out.below
            have HX7 := hide (HX.out _ w7 HU7.out (hrow1.out w7))
            have HS8 := hide (HS7.out.alloc (.cells #[.string d] 9))
            clear HX HU7 HS7 hrow1
            simp only [List.length_nil] at HS8
            go_wp2_with fail
            refine HX7.out.mono ?_
            rintro e w8 ⟨rfl, hb8⟩
            have HS9 := hide (HS8.out.keep hb8).sw
            clear hb8 HS8 HX7 c0
            go_wp2_with fail
            refine (Sep.call (L0 := [_]) HS9.out (HAk.out _ (HE.out _ HS9.out.below))).mono ?_
            rintro e w9 ⟨_, ⟨u9, rfl, rfl⟩, hs9⟩
            simp only [List.cons_append, List.nil_append] at hs9
            obtain ⟨xa, xc, rfl, -⟩ := hs9.row
            simp only [List.length_nil] at hs9
            have HS10 := hide hs9
            clear hs9 HS9 HAk
            have hs11 := Sep.swap (L1 := [_, _, _, _]) HS10.out
            simp only [List.cons_append, List.nil_append] at hs11
            have HS11 := hide hs11
            clear hs11 HS10
            go_wp2_with fail
            refine (HTk.out _ _ _ _ (HE.out _ HS11.out.below) HS11.out).mono ?_
            rintro e w10 ⟨rfl, hs12⟩
            have HS12 := hide hs12
            clear hs12 HS11 HTk
            go_wp2_with fail
            refine (Sep.call (L0 := [_]) HS12.out (HKp.out _ (HE.out _ HS12.out.below))).mono ?_
            rintro e w11 ⟨_, ⟨u11, rfl, rfl⟩, hs13⟩
            simp only [List.cons_append, List.nil_append] at hs13
            obtain ⟨ya, yc, rfl, -⟩ := hs13.row
            have hs14 := (Sep.swap (L1 := [_, _]) hs13.drop.sw.drop).drop.drop
            rw [sn_mod, rc_mod] at hs14
            have HS14 := hide hs14
            clear hs13 hs14 HS12 HKp HTd
            go_wp2_with fail
            go_roundw
            case rel => exact ⟨i + 1, (n + 1) % 65536, (n : Int), rfl, by go_num, by omega, Nat.mod_lt _ (by decide), Or.inr ⟨n, Hn.out, rfl, rfl⟩, by omega, by omega, HS14.out⟩
            case measure => simp [intOf]; omega
      · have hle : (T.length : Int) ≤ (i : Int) := by omega
        have Hb := hide Hs.out.below
        clear Hs HL
        go_wp2_with fail
        go_ret
        exact ⟨rfl, Hb.out⟩

set_option maxHeartbeats 1000000 in
set_option maxRecDepth 100000 in
theorem wrounds_early (Env : World → Prop) (S : Value → Sn → Fam) (R : Value → Rc → Fam) (errW : Nat → Value) (h : WinOk Env S R errW) (first a b : Int) (ta : Option Addr) (tc : Nat) (T : List ByteArray) (w : World) (hE : Env w) (hl : 60 < T.length) :
    Calls Tryd.prog 5 #[.int .i64 first, .slice ta T.length tc, .int .i64 a, .int .i64 b] w fun e w' => e = .returned (.bool true) ∧ Below w.heap.size w w' := by
  have HM := hide (windowed_ok Env S R errW h w hE)
  have hl' : (60 : Int) < T.length := by omega
  clear hE h hl
  go_enter Tryd.func5, Tryd.ntmps5
  go_wp2_with fail
  refine HM.out.mono ?_
  rintro e w1 ⟨rfl, hb1⟩
  have Hb1 := hide hb1
  clear hb1 HM
  go_wp2_with fail
  go_ret
  exact ⟨rfl, Hb1.out⟩
/-- WindowRounds, whole. -/
theorem wrounds_walk (Env : World → Prop) (S : Value → Sn → Fam) (R : Value → Rc → Fam) (errW : Nat → Value) (h : WinOk Env S R errW) (first a b : Int) (v : Value) (T : List ByteArray) (w : World) (hE : Env w) (hT : Row1 strV w v T) :
    Calls Tryd.prog 5 #[.int .i64 first, v, .int .i64 a, .int .i64 b] w fun e w' => e = .returned (.bool true) ∧ Below w.heap.size w w' := by
  have hT' := hT
  obtain ⟨ta, tc, rfl, -⟩ := hT'
  by_cases hl : 60 < T.length
  · exact wrounds_early Env S R errW h first a b ta tc T w hE hl
  · exact wrounds_main Env S R errW h first a b ta tc T w hE hT (by omega)
end Go.Proofs.YtaambclpkghddaaDoor
