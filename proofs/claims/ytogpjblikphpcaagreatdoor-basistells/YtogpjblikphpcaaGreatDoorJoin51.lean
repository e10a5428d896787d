/-
  The walk of the law BasisTells over the contracts.
  The law BasisTells, whole, over the contracts.
-/
import Derived.Test.YtogpjblikphpcaaGreatDoorBasisAll
import Derived.Test.YtogpjblikphpcaaGreatDoorJoin46
import Derived.Test.YtogpjblikphpcaaGreatDoorJoin47
import Derived.Test.YtogpjblikphpcaaGreatDoorRkFar
import Derived.Test.YtogpjblikphpcaaGreatDoorCodesA
import Derived.Test.YtogpjblikphpcaaGreatDoorSep
import Derived.Deep.AppendLies
import Derived.Deep.DeepCutAuto
import Derived.Deep.RegionHeld3
namespace Go.Proofs.YtogpjblikphpcaaGreatDoor
open Go.RowKit
open Go.Basis

theorem Tryz.infoMk : (Tryz.prog.info? 60).map (fun i => (i.zero, i.size, i.bytes)) = some (some (.agg #[.string ⟨#[]⟩, .int .i64 0, .int .u32 0]), 3, 32) := by kernel_rfl
/-- Marks of package basis as cells. -/
abbrev kcs (l : List Mk) : List Value := cs3 (fun x : Mk => .string x.name) (fun x => .int .i64 x.n) (fun x => .int .u32 x.c) l
theorem uwrapK (x : Int) (h0 : 0 ≤ x) (h1 : x ≤ 4294967295) : IntKind.u32.wrap x = x := by rw [IntKind.wrap_u32]; omega
theorem markE_le (m : Mk) : markE m ≤ 12 := by
  unfold markE
  repeat' split
  all_goals omega
theorem readM_le (s : List UInt8) : (readM s).1 ≤ 12 := by
  unfold readM
  repeat' split
  all_goals simp
theorem readM_sum (s : List UInt8) : 0 ≤ (readM s).2.c ∧ (readM s).2.c ≤ 4294967295 := by
  unfold readM
  split
  · split
    · split
      · exact ⟨Int.le_refl _, by decide⟩
      · split
        · exact ⟨Int.le_refl _, by decide⟩
        · rename_i h
          simp only [not_or] at h
          simp only
          omega
    · exact ⟨Int.le_refl _, by decide⟩
  · exact ⟨Int.le_refl _, by decide⟩
theorem kcs_step {l : List Mk} {i : Nat} (h : i < l.length) : kcs (l.take (i + 1)) = kcs (l.take i) ++ [.string l[i].name, .int .i64 l[i].n, .int .u32 l[i].c] := by
  rw [List.take_succ_eq_append_getElem h]
  exact cs3_snoc _ _
theorem news3 (w : World) (x y z : Value) (T : TypeId) (H : Nat) (hH : w.heap.size = H) : ∀ j u, [x, y, z][j]? = some u → (w.alloc (.cells #[x, y, z] T)).cell? ((⟨H, 0, none⟩ : Addr).add j) = some u := by
  subst hH
  intro j u hu
  exact World.news_of_block (heap_alloc_new w (.cells #[x, y, z] T)) j u hu

set_option maxHeartbeats 4000000 in
set_option maxRecDepth 100000 in
theorem btells_main {a : Nat → Addr} {Env : World → Prop} (hB : BasisAll a Env) (hSn : ∀ w, Env w → Sents w a) (va : Option Addr) (vc : Nat) (l : List Mk) (nm data : ByteArray) (step : Int) (s : ByteArray) (w : World) (hE : Env w)
    (hA : McRow w (.slice va l.length vc) l) (hl : longM l = false) (hn : nm.size ≤ 30) (hd : data.size ≤ 150 ∨ data.size = 4001) (hs : s.size ≤ 60) :
    Calls Tryz.prog 5 #[.slice va l.length vc, .string nm, .string data, .int .i64 step, .string s] w fun r w' => r = .returned (.bool true) ∧ Below w.heap.size w w' := by
  obtain ⟨i0, hi0, hz0, hz1, hz2⟩ := info_parts Tryz.infoMk
  have HE := hide (fun W (q : Below w.heap.size w W) => hB.env hE q)
  have HSn := hide hSn
  have HB := hide hB
  have HA := hide (fun W (q : Below w.heap.size w W) => hA.below q)
  have HM := hide (marked_ok hB w hE)
  have HLo := hide (fun W (q : Below w.heap.size w W) => rlong_ok (.slice va l.length vc) l W (hA.below q))
  rw [hl] at HLo
  obtain ⟨hl40, hall⟩ := long_not hl
  have HAll := hide hall
  have hl' : (l.length : Int) ≤ 40 := by omega
  have hn' : (nm.size : Int) ≤ 30 := by omega
  have hs' : (s.size : Int) ≤ 60 := by omega
  have hd' : (data.size : Int) ≤ 150 ∨ (150 : Int) < data.size ∧ (data.size : Int) = 4001 := by omega
  clear hE hA hB hSn hall hl
  go_enter Tryz.func5, Tryz.ntmps5
  go_wp2_with fail
  refine HM.out.mono ?_
  rintro r w1 ⟨rfl, hb1⟩
  have HS := hide ((Sep.start w).keep hb1)
  clear hb1 HM
  go_upto_region 2 with fail
  go_cut [53] (fun v53 wc => v53 = .bool false ∧ wc = w1)
  case first =>
    rcases hd' with hd' | ⟨hd1, hd2⟩
    all_goals
      go_wp2_with fail
      refine (HLo.out _ HS.out.below).mono ?_
      rintro r w2 ⟨rfl, rfl⟩
      go_wp2_with fail
      go_meet
      case rel => exact ⟨by first | rfl | (simp; omega), rfl⟩
  case rest =>
    obtain ⟨rfl, rfl⟩ := hcut
    clear HLo
    have HS0 := hide (HS.out.nil 60 3)
    go_wp2_with fail
    go_loopw [12, 13] (fun t12 t13 wr => ∃ i : Nat, t13 = .int .i64 i ∧ i ≤ l.length ∧ Hid (Sep Foot.none w [OwnF 60 3 t12 i (kcs (l.take i))] wr)) (fun _ t13 _ => l.length - (intOf t13).toNat)
    case atStart => exact ⟨0, rfl, Nat.zero_le _, HS0.out⟩
    case round =>
      clear HS HS0
      obtain ⟨i, rfl, hi, Hs⟩ := hrel
      by_cases hil : i < l.length
      · have hil' : (i : Int) < l.length := by omega
        obtain ⟨h1, h2, h3⟩ := HAll.out _ (List.getElem_mem hil)
        obtain ⟨_, _, hv, hrow⟩ := HA.out _ Hs.out.below
        cases hv
        obtain ⟨b, o, rfl, hcell⟩ := hrow (by omega)
        obtain ⟨m0, m1, m2⟩ := hcell i hil
        have Hst := hide (kcs_step hil)
        have Hcell := hide (fun W (q : Below w.heap.size w W) => by
          obtain ⟨_, _, hv, hrow⟩ := HA.out W q
          cases hv
          obtain ⟨b', o', eb, hcell⟩ := hrow (by omega)
          cases eb
          exact hcell i hil)
        generalize l[i] = m at *
        obtain ⟨mn, mk, mc⟩ := m
        simp only at m0 m1 m2 h1 h2 h3 Hst Hcell
        have hw : IntKind.u32.wrap mc = mc := uwrapK mc h2 h3
        clear hcell hrow
        go_upto_region 8 with fail
        go_cut [14] (fun v14 wc => ∃ q, v14 = .pointer (some ⟨q, 0, none⟩) ∧ Hid (Sep Foot.none w [CellsF q 60 [.string mn, .int .i64 mk, .int .u32 mc], OwnF 60 3 u12 i (kcs (l.take i))] wc))
        case first =>
          have hf := Hs.out.fresh 60 [.string ⟨#[]⟩, .int .i64 0, .int .u32 0]
          have hz0' := hf.cell 0
          have hz1' := hf.cell 1
          have hz2' := hf.cell 2
          simp only [List.getElem?_cons_zero, List.getElem?_cons_succ] at hz0' hz1' hz2'
          obtain ⟨y0, f0⟩ := hz0'
          obtain ⟨y1, f1⟩ := hz1'
          obtain ⟨y2, f2⟩ := hz2'
          obtain ⟨n0, n1, n2⟩ := Hcell.out _ hf.below
          have HF := hide ((Hs.out.fresh 60 [.string mn, .int .i64 mk, .int .u32 mc]).drew)
          clear hf HAll HA HE HSn HB
          go_region
          all_goals
            go_wp2_with fail
            go_meet
            case rel => exact ⟨_, rfl, by first | exact HF.out | exact HF.out.drew⟩
        case rest =>
          obtain ⟨q, rfl, Hs8⟩ := hcut
          clear m0 m1 m2 Hs hw
          have HT := hide (HB.out.text ⟨mn, mk, mc⟩ wc (by simp only; omega) h2 h3 (HE.out _ Hs8.out.below))
          have HR := hide (fun W => rmarkText_ok ⟨mn, mk, mc⟩ W (by simp only; omega) h2 h3)
          have HCo := hide (fun W (q : Below w.heap.size w W) => codesA a W (markE ⟨mn, mk, mc⟩) (HSn.out _ (HE.out _ q)) (markE_le _) W (Below.refl _ _))
          simp only [mkV] at HT
          simp only [mkC] at HR
          generalize textM ⟨mn, mk, mc⟩ = tx at *
          generalize errA a (markE ⟨mn, mk, mc⟩) = ev at *
          generalize markE ⟨mn, mk, mc⟩ = ec at *
          have htx : (tx.toList == tx.toList) = true := same_bytes rfl
          obtain ⟨c0, c1, c2⟩ : wc.cell? ⟨q, 0, none⟩ = some (.string mn) ∧ wc.cell? ⟨q, 1, none⟩ = some (.int .i64 mk) ∧ wc.cell? ⟨q, 2, none⟩ = some (.int .u32 mc) := ⟨(Hs8.out.cell 0).1, (Hs8.out.cell 1).1, (Hs8.out.cell 2).1⟩
          go_wp2_with fail
          refine HT.out.mono ?_
          rintro r w9 ⟨rfl, hb9⟩
          have Hs9 := hide (Hs8.out.keep hb9)
          clear hb9 HT Hs8 c0 c1 c2
          obtain ⟨n0, n1, n2⟩ := Hcell.out _ Hs9.out.below
          go_wp2_with fail
          refine (HR.out _).mono ?_
          rintro r w10 ⟨rfl, hb10⟩
          have Hs10 := hide (Hs9.out.keep hb10)
          clear hb10 HR Hs9 n0 n1 n2
          go_wp2_with fail
          refine (HCo.out _ Hs10.out.below).mono ?_
          rintro r w11 ⟨rfl, hb11⟩
          have Hs11 := hide (Hs10.out.keep hb11)
          clear hb11 HCo Hs10
          obtain ⟨c0, c1, c2⟩ : w11.cell? ⟨q, 0, none⟩ = some (.string mn) ∧ w11.cell? ⟨q, 1, none⟩ = some (.int .i64 mk) ∧ w11.cell? ⟨q, 2, none⟩ = some (.int .u32 mc) := ⟨(Hs11.out.cell 0).1, (Hs11.out.cell 1).1, (Hs11.out.cell 2).1⟩
          have Hs12 := hide Hs11.out.drop
          have Ho := hide Hs12.out.own
          have hxl : (kcs (l.take i)).length = i * 3 := by
            rw [cs3_length, List.length_take, Nat.min_eq_left hi]
          generalize kcs (l.take i) = xs at *
          go_wp2_with (at_builtin; refine wpList_append_lies _ rfl (.tmp 100) (.tmp 102) 55 rfl 0 60 i0 (.agg #[.string ⟨#[]⟩, .int .i64 0, .int .u32 0]) 3 32 Tryz.underlying55 hi0 hz0 hz1 hz2 rfl (by decide) u12 i xs rfl (Ho.out.alloc _) ⟨w11.heap.size, 0, none⟩ 1 1 [.string mn, .int .i64 mk, .int .u32 mc] rfl rfl ?c1 ?c2 (by decide) ?b1 ?b2 (Nat.zero_le _) _ rfl ?next)
          try case c1 => exact news3 _ _ _ _ _ _ rfl
          case c2 => first | rfl | (intro u hu; simp at hu; rcases hu with rfl | rfl | rfl <;> rfl)
          case b1 => unfold maxLen; omega
          case b2 => omega
          case next =>
            intro g5 k5 w5 own5 hg5 hat5 hlt5
            have hs5 := (Hs12.out.alloc (.cells #[.string mn, .int .i64 mk, .int .u32 mc] 60)).lies own5 hg5 hat5 (by simp)
            rw [← Hst.out] at hs5
            have Hs5 := hide hs5
            clear own5 hg5 hat5 hlt5 Hs11 Hs12 Ho hs5
            go_wp2_with fail
            go_roundw
            case rel => exact ⟨i + 1, by go_num, by omega, Hs5.out⟩
            case measure => simp [intOf]; omega
      · have hil' : (l.length : Int) ≤ i := by omega
        obtain rfl : i = l.length := by omega
        rw [List.take_length] at Hs
        have HR := hide (fun W (q : Env W) => HB.out.read s W (by omega) q)
        have HRm := hide (fun W => rreadMark_ok s W (by omega))
        have HCo := hide (fun W (q : Below w.heap.size w W) => codesA a W (readM s.data.toList).1 (HSn.out _ (HE.out _ q)) (readM_le _) W (Below.refl _ _))
        obtain ⟨hc0, hc1⟩ := readM_sum s.data.toList
        generalize readM s.data.toList = R at *
        obtain ⟨re, mn, mk, mc⟩ := R
        simp only [mkV] at HR
        simp only [mkC] at HRm
        simp only at HCo hc0 hc1
        generalize errA a re = ev at *
        have hw : IntKind.i64.wrap mc = mc := iwrap_id _ (by omega) (by omega)
        have hsame : (mn.toList == mn.toList) = true := same_bytes rfl
        go_wp2_with fail
        refine (HR.out _ (HE.out _ Hs.out.below)).mono ?_
        rintro r w2 ⟨rfl, hb2⟩
        have hs2 := ((Hs.out.keep hb2).fresh 60 [.string mn, .int .i64 mk, .int .u32 mc])
        have Hs2 := hide hs2
        clear hb2 HR Hs hs2
        go_wp2_with fail
        refine (HRm.out _).mono ?_
        rintro r w3 ⟨rfl, hb3⟩
        have Hs3 := hide ((Hs2.out.keep hb3).fresh 57 [.string mn, .int .i64 mk, .int .i64 mc])
        clear hb3 HRm Hs2
        go_upto_region 16 with fail
        go_wp2_with fail
        refine (HCo.out _ Hs3.out.below).mono ?_
        rintro r w4 ⟨rfl, hb4⟩
        have hs4 := Hs3.out.keep hb4
        obtain ⟨c0, c1, c2⟩ : w4.cell? ⟨w3.heap.size, 0, none⟩ = some (.string mn) ∧ w4.cell? ⟨w3.heap.size, 1, none⟩ = some (.int .i64 mk) ∧ w4.cell? ⟨w3.heap.size, 2, none⟩ = some (.int .i64 mc) := ⟨(hs4.cell 0).1, (hs4.cell 1).1, (hs4.cell 2).1⟩
        obtain ⟨d0, d1, d2⟩ : w4.cell? ⟨w2.heap.size, 0, none⟩ = some (.string mn) ∧ w4.cell? ⟨w2.heap.size, 1, none⟩ = some (.int .i64 mk) ∧ w4.cell? ⟨w2.heap.size, 2, none⟩ = some (.int .u32 mc) := ⟨(hs4.sw.cell 0).1, (hs4.sw.cell 1).1, (hs4.sw.cell 2).1⟩
        have Hs4 := hide hs4.drop.drop
        clear hb4 HCo Hs3 hs4
        go_upto_region 18 with fail
        have HK := hide (fun W (q : Env W) => HB.out.marks nm data step W (by omega) (by omega) q)
        have HI := hide (fun W => isName_ok nm W (by omega))
        clear c0 c1 c2 d0 d1 d2 hw hsame hc0 hc1
        cases hN : Go.Files.isNm nm with
        | false =>
          have hz : marksE nm data.size step = 5 := by unfold marksE; rw [if_pos hN]
          rw [hz] at HK
          rw [if_neg (by decide)] at HK
          rw [hN] at HI
          have HC5 := hide (fun W (q : Below w.heap.size w W) => codesA a W 5 (HSn.out _ (HE.out _ q)) (by decide) W (Below.refl _ _))
          simp only [errA] at HK HC5
          clear hN hz
          go_wp2_with fail
          refine (HK.out _ (HE.out _ Hs4.out.below)).mono ?_
          rintro r w5 ⟨v, rfl, hv, hb5⟩
          obtain ⟨va5, vc5, rfl, hrow⟩ := hv
          have Hb5 := hide (Hs4.out.keep hb5).below
          clear hb5 HK hrow Hs4
          simp only [List.length_nil]
          go_wp2_with fail
          refine (HI.out _).mono ?_
          rintro r w6 ⟨rfl, rfl⟩
          go_wp2_with fail
          refine (HC5.out _ Hb5.out).mono ?_
          rintro r w6 ⟨rfl, hb6⟩
          have Hb6 := hide (bthen Hb5.out hb6)
          clear hb6 HC5 Hb5
          go_wp2_with fail
          go_ret
          exact ⟨rfl, Hb6.out⟩
        | true =>
          rw [hN] at HI
          by_cases hbd : 4000 < data.size ∨ step < 1 ∨ 4000 < step
          · have hz : marksE nm data.size step = 2 := by unfold marksE; rw [if_neg (by rw [hN]; simp), if_pos hbd]
            rw [hz] at HK
            rw [if_neg (by decide)] at HK
            have HC2 := hide (fun W (q : Below w.heap.size w W) => codesA a W 2 (HSn.out _ (HE.out _ q)) (by decide) W (Below.refl _ _))
            simp only [errA] at HK HC2
            have hbd' : (4000 : Int) < data.size ∨ ((data.size : Int) ≤ 4000 ∧ step < 1) ∨ ((data.size : Int) ≤ 4000 ∧ 1 ≤ step ∧ 4000 < step) := by omega
            clear hN hz hbd hd'
            rcases hbd' with h1 | ⟨h1, h2⟩ | ⟨h1, h2, h3⟩
            all_goals
              go_wp2_with fail
              refine (HK.out _ (HE.out _ Hs4.out.below)).mono ?_
              rintro r w5 ⟨v, rfl, hv, hb5⟩
              obtain ⟨va5, vc5, rfl, hrow⟩ := hv
              have Hb5 := hide (Hs4.out.keep hb5).below
              clear hb5 HK hrow Hs4
              simp only [List.length_nil]
              go_wp2_with fail
              refine (HI.out _).mono ?_
              rintro r w6 ⟨rfl, rfl⟩
              go_wp2_with fail
              refine (HC2.out _ Hb5.out).mono ?_
              rintro r w6 ⟨rfl, hb6⟩
              have Hb6 := hide (bthen Hb5.out hb6)
              clear hb6 HC2 Hb5
              go_wp2_with fail
              go_ret
              exact ⟨rfl, Hb6.out⟩
          · have hz : marksE nm data.size step = 0 := by unfold marksE; rw [if_neg (by rw [hN]; simp), if_neg hbd]
            rw [hz, if_pos rfl] at HK
            simp only [errA] at HK
            obtain ⟨st, rfl⟩ := Int.eq_ofNat_of_zero_le (show 0 ≤ step by omega)
            rw [Int.toNat_natCast] at HK
            have hd2 : (data.size : Int) ≤ 150 := by omega
            have hst1 : (1 : Int) ≤ st := by omega
            have hst2 : (st : Int) ≤ 4000 := by omega
            have hst0 : ¬ (st : Int) = 0 := by omega
            have hsz4 : (data.size : Int) ≤ 4000 := by omega
            have hln := marks_len nm data st
            have hquo : ((data.size : Int)).tdiv st = ((data.size / st : Nat) : Int) := by rw [Int.tdiv_eq_ediv_of_nonneg (by omega)]; omega
            have HAt : Hid (∀ i (h : i < (marksL nm data st).length), (marksL nm data st)[i] = ⟨nm, ((st * (i + 1) : Nat) : Int), sumTo data (st * (i + 1))⟩ ∧ st * (i + 1) ≤ data.size) := fun i h => by
              refine ⟨marks_at h, ?_⟩
              rw [marks_len] at h
              have h3 := Nat.mul_le_mul_left st (show i + 1 ≤ data.size / st by omega)
              have h4 := Nat.mul_div_le data.size st
              omega
            have hdq : data.size / st ≤ data.size := Nat.div_le_self _ _
            generalize marksL nm data st = X at *
            generalize data.size / st = dq at *
            subst hln
            have hlx : (X.length : Int) ≤ 150 := by omega
            clear hN hz hbd hd' hd
            go_wp2_with fail
            refine (HK.out _ (HE.out _ Hs4.out.below)).mono ?_
            rintro r w5 ⟨v, rfl, hv, hb5⟩
            have hv' := hv
            obtain ⟨va5, vc5, rfl, hrow⟩ := hv
            have HX := hide (fun W' (q : Below w5.heap.size w5 W') => hv'.below q)
            have Hs5 := hide (Hs4.out.keep hb5)
            clear hb5 HK hrow Hs4 hv'
            go_wp2_with fail
            refine (HI.out _).mono ?_
            rintro r w6 ⟨rfl, rfl⟩
            clear HI
            go_wp2_with fail
            go_loopw [25] (fun t25 wr => ∃ k : Nat, t25 = .int .i64 k ∧ k ≤ X.length ∧ Hid (Below w6.heap.size w6 wr)) (fun t25 _ => X.length - (intOf t25).toNat)
            case atStart => exact ⟨0, rfl, Nat.zero_le _, Below.refl _ _⟩
            case round =>
              obtain ⟨k, rfl, hk, Hb⟩ := hrel
              by_cases hkl : k < X.length
              · have hkl' : (k : Int) < X.length := by omega
                obtain ⟨hat, hle⟩ := HAt.out k hkl
                obtain ⟨_, _, hv, hrow⟩ := HX.out _ Hb.out
                cases hv
                obtain ⟨b, o, rfl, hcell⟩ := hrow (by omega)
                obtain ⟨m0, m1, m2⟩ := hcell k hkl
                rw [hat] at m0 m1 m2
                simp only at m0 m1 m2
                have HSm := hide (fun W => sumOf_ok (data.extract 0 (st * (k + 1))) W (by rw [← lenL, extractL, List.length_take]; omega))
                have hsum : ((Go.Crc.crc 0 (data.extract 0 (st * (k + 1))).data.toList : Nat) : Int) = sumTo data (st * (k + 1)) := by
                  unfold sumTo
                  rw [extractL]
                  simp
                rw [hsum] at HSm
                obtain ⟨hs0, hs1⟩ := sumTo_lt data (st * (k + 1))
                generalize sumTo data (st * (k + 1)) = sm at *
                have hmul : (st : Int) * ((k : Int) + 1) = ((st * (k + 1) : Nat) : Int) := by simp
                generalize st * (k + 1) = n at *
                have hn0 : (0 : Int) ≤ n := by omega
                have hn1 : (n : Int) ≤ data.size := by omega
                have hw1 : IntKind.i64.wrap ((k : Int) + 1) = (k : Int) + 1 := iwrap_id _ (by omega) (by omega)
                have hw2 : IntKind.i64.wrap (n : Int) = (n : Int) := iwrap_id _ (by omega) (by omega)
                have hw3 : IntKind.i64.wrap sm = sm := iwrap_id _ (by omega) (by omega)
                have hsame : (nm.toList == nm.toList) = true := same_bytes rfl
                clear hat hle hcell hrow HAt hsum HE HB HSn HA HAll Hs5
                go_upto_region 30 with fail
                go_quiet ((go_at_call 30; exact Calls.quiet_of_same (HSm.out _)))
                go_wp2_with fail
                go_roundw
                case rel => exact ⟨k + 1, by go_num, by omega, by have h := Hb.out; first | exact h | exact h.drew | exact h.trans ((below_drewN (Below.refl _ _) _).mono h.size)⟩
                case measure => simp [intOf]; omega
              · have hkl' : (X.length : Int) ≤ k := by omega
                have hs7 := Hs5.out.keep Hb.out
                obtain ⟨ga, gc, rfl, -⟩ := own_slice' hs7.own
                have hrw : MkRow wr (.slice ga l.length gc) l := Row3.of_own hs7.own
                have HFa := hide (HB.out.far _ l nm data wr (by omega) (by omega) (by omega) hrw (fun m hm => by have := (HAll.out m hm).1; omega))
                have Hs7 := hide hs7
                have HRf := hide (fun W (q : Below w.heap.size w W) => rfarOf_ok (.slice va l.length vc) l nm data W (by omega) (by omega) (HA.out W q))
                generalize farL l nm data = F at *
                clear hs7 hrw HAt HX Hs5 HE HB HSn HA HAll
                go_wp2_with fail
                refine HFa.out.mono ?_
                rintro r w8 ⟨rfl, hb8⟩
                have Hs8 := hide (Hs7.out.keep hb8)
                clear hb8 HFa Hs7
                go_wp2_with fail
                refine (HRf.out _ Hs8.out.below).mono ?_
                rintro r w9 ⟨rfl, hb9⟩
                have Hb9 := hide (bthen Hs8.out.below hb9)
                clear hb9 HRf Hs8
                go_wp2_with fail
                go_ret
                exact ⟨ret_bool (by simp), Hb9.out⟩
end Go.Proofs.YtogpjblikphpcaaGreatDoor

namespace Go.Proofs.YtogpjblikphpcaaGreatDoor
open Go.RowKit
open Go.Basis

set_option maxHeartbeats 2000000 in
set_option maxRecDepth 100000 in
theorem btells_early {a : Nat → Addr} {Env : World → Prop} (hB : BasisAll a Env) (va : Option Addr) (vc : Nat) (l : List Mk) (nm data : ByteArray) (step : Int) (s : ByteArray) (w : World) (hE : Env w) (hA : McRow w (.slice va l.length vc) l)
    (h : longM l = true ∨ longM l = false ∧ ((30 : Int) < nm.size ∨ ((nm.size : Int) ≤ 30 ∧ (150 : Int) < data.size ∧ ¬ (data.size : Int) = 4001) ∨ ((nm.size : Int) ≤ 30 ∧ (data.size : Int) ≤ 150 ∧ (60 : Int) < s.size) ∨ ((nm.size : Int) ≤ 30 ∧ (150 : Int) < data.size ∧ (data.size : Int) = 4001 ∧ (60 : Int) < s.size))) :
    Calls Tryz.prog 5 #[.slice va l.length vc, .string nm, .string data, .int .i64 step, .string s] w fun r w' => r = .returned (.bool true) ∧ Below w.heap.size w w' := by
  have HM := hide (marked_ok hB w hE)
  have HLo := hide (fun W (q : Below w.heap.size w W) => rlong_ok (.slice va l.length vc) l W (hA.below q))
  generalize longM l = B at *
  clear hE hA hB
  rcases h with rfl | ⟨rfl, h1 | ⟨h1, h2, h3⟩ | ⟨h1, h2, h3⟩ | ⟨h1, h2, h3, h4⟩⟩
  all_goals
    go_enter Tryz.func5, Tryz.ntmps5
    go_wp2_with fail
    refine HM.out.mono ?_
    rintro r w1 ⟨rfl, hb1⟩
    have Hb1 := hide hb1
    clear hb1 HM
    go_wp2_with fail
    refine (HLo.out _ Hb1.out).mono ?_
    rintro r w2 ⟨rfl, rfl⟩
    go_wp2_with fail
    go_ret
    exact ⟨rfl, Hb1.out⟩
/-- BasisTells, whole. -/
theorem btells_walk {a : Nat → Addr} {Env : World → Prop} (hB : BasisAll a Env) (hSn : ∀ w, Env w → Sents w a) (v : Value) (l : List Mk) (nm data : ByteArray) (step : Int) (s : ByteArray) (w : World) (hE : Env w) (hA : McRow w v l) :
    Calls Tryz.prog 5 #[v, .string nm, .string data, .int .i64 step, .string s] w fun r w' => r = .returned (.bool true) ∧ Below w.heap.size w w' := by
  have hA' := hA
  obtain ⟨va, vc, rfl, -⟩ := hA'
  cases hL : longM l with
  | true => exact btells_early hB va vc l nm data step s w hE hA (.inl hL)
  | false =>
    by_cases h : nm.size ≤ 30 ∧ (data.size ≤ 150 ∨ data.size = 4001) ∧ s.size ≤ 60
    · exact btells_main hB hSn va vc l nm data step s w hE hA hL h.1 h.2.1 h.2.2
    · exact btells_early hB va vc l nm data step s w hE hA (.inr ⟨hL, by omega⟩)
end Go.Proofs.YtogpjblikphpcaaGreatDoor
