/-
  The walk of the law GateActs over the contracts.
-/
import Derived.Test.YtogpjblikphpcaaGreatDoorGtLaw
import Derived.Test.YtogpjblikphpcaaGreatDoorRgRead
import Derived.Test.YtogpjblikphpcaaGreatDoorJoin49
import Derived.Test.YtogpjblikphpcaaGreatDoorGActArg
import Derived.Test.YtogpjblikphpcaaGreatDoorJoin50
import Derived.Deep.CutBlock
import Derived.Deep.RegionHeld3
import Derived.Deep.DeepCutAuto
namespace Go.Proofs.YtogpjblikphpcaaGreatDoor
open Go.RowKit
open Go.Gate

abbrev kOpen : List UInt8 := [111, 112, 101, 110]
abbrev kAdmit : List UInt8 := [97, 100, 109, 105, 116]
/-- What the walk holds: both gates, the act. -/
abbrev gaL (v : Addr) (p B : Nat) (g : Toks) (k t : ByteArray) (n : Int) : List Fam := [GtO (.pointer (some v)) g, RGt p g, CellsF B 43 [.string k, .string t, .int .i64 n]]
theorem gaL_cells {w0 wr : World} {B : Nat} {A C : Fam} {k t : ByteArray} {n : Int} (h : Sep Foot.none w0 [A, C, CellsF B 43 [.string k, .string t, .int .i64 n]] wr) :
    wr.cell? ⟨B, 0, none⟩ = some (.string k) ∧ wr.cell? ⟨B, 1, none⟩ = some (.string t) ∧ wr.cell? ⟨B, 2, none⟩ = some (.int .i64 n) := by
  have h3 := h.third
  exact ⟨(h3.cell 0).1, (h3.cell 1).1, (h3.cell 2).1⟩

set_option maxHeartbeats 4000000 in
set_option maxRecDepth 100000 in
theorem gacts_main (a : Nat → Addr) (en : TypeId × Value) (la : Option Addr) (lc : Nat) (l : List Gact) (s : ByteArray) (w : World) (hE : GtEnv a en w)
    (hA : GaRow w (.slice la l.length lc) l) (hl : l.length ≤ 60) (hs : s.size ≤ 600) :
    Calls Tryz.prog 4 #[.slice la l.length lc, .string s] w fun r w' => r = .returned (.bool true) ∧ Below w.heap.size w w' := by
  have HE := hide (fun W (k : Below w.heap.size w W) => hE.below k)
  have HE0 := hide hE
  have HA := hide (fun W (k : Below w.heap.size w W) => hA.below k)
  have HM := hide (gated_ok a en w hE)
  have HN := hide (fun W => newGate_ok W)
  have hl' : (l.length : Int) ≤ 60 := by omega
  have hs' : (s.size : Int) ≤ 600 := by omega
  clear hE hA
  go_enter Tryz.func4, Tryz.ntmps4
  go_wp2_with fail
  refine HM.out.mono ?_
  rintro r w1 ⟨rfl, hb1⟩
  have HS := hide ((Sep.start w).keep hb1)
  clear hb1 HM
  go_wp2_with fail
  refine (Sep.call (L0 := []) HS.out (HN.out _)).mono ?_
  rintro r w2 ⟨_, ⟨v, rfl, rfl⟩, hs2⟩
  have HS2 : Hid (Sep Foot.none w [GtO (.pointer (some v)) [], RGt w2.heap.size []] (w2.alloc (.cells #[.slice none 0 0] 41))) := (Sep.rgate hs2).sw
  clear hs2 HS HN
  go_wp2_with fail
  generalize w2.alloc (.cells #[.slice none 0 0] 41) = w3 at *
  generalize w2.heap.size = p at *
  go_loopw [8] (fun t8 wr => ∃ (i : Nat) (g : Toks), t8 = .int .i64 i ∧ i ≤ l.length ∧ Hid (Fit g) ∧ Hid (Sep Foot.none w [GtO (.pointer (some v)) g, RGt p g] wr)) (fun t8 _ => l.length - (intOf t8).toNat)
  case atStart => exact ⟨0, [], rfl, Nat.zero_le _, Fit.nil, HS2.out⟩
  case round =>
    clear HS2
    obtain ⟨i, g, rfl, hi, Hg, Hs⟩ := hrel
    by_cases hlt : i < l.length
    · have hlt' : (i : Int) < l.length := by omega
      have HAc : Hid (∃ lb lo, la = some ⟨lb, lo, none⟩ ∧ wr.cell? ⟨lb, lo + i * 3, none⟩ = some (.string l[i].kind) ∧ wr.cell? ⟨lb, lo + i * 3 + 1, none⟩ = some (.string l[i].tok) ∧ wr.cell? ⟨lb, lo + i * 3 + 2, none⟩ = some (.int .i64 l[i].n)) := by
        obtain ⟨_, _, e, hrow⟩ := HA.out _ Hs.out.below
        cases e
        obtain ⟨lb, lo, rfl, hc⟩ := hrow (by omega)
        exact ⟨lb, lo, rfl, hc i hlt⟩
      obtain ⟨lb, lo, rfl, a0, a1, a2⟩ := HAc.out
      clear HAc
      generalize l[i] = x at *
      obtain ⟨xk, xt, xn⟩ := x
      simp only at a0 a1 a2
      have Hlt := hide hlt
      have hsf := (Hs.out.fresh 43 [.string xk, .string xt, .int .i64 xn])
      have HSf : Hid (Sep Foot.none w (gaL v p wr.heap.size g xk xt xn) (wr.alloc (.cells #[.string xk, .string xt, .int .i64 xn] 43))) := Sep.swap (L1 := [_]) hsf
      clear hsf hlt
      generalize hB : wr.heap.size = B at *
      by_cases hd : 30 < xt.size
      · have hd' : (30 : Int) < xt.size := by omega
        have Hb := hide HSf.out.below
        obtain ⟨k0, k1, k2⟩ := gaL_cells HSf.out
        clear Hs HSf Hg hd
        go_wp2_with fail
        go_ret
        exact ⟨rfl, Hb.out⟩
      · have hd' : (xt.size : Int) ≤ 30 := by omega
        have hdm : xt.size ≤ 1000000 := by omega
        go_upto_block 2 with fail
        go_cut [67] (fun _ wc => ∃ g', Hid (Fit g') ∧ Hid (Sep Foot.none w (gaL v p B g' xk xt xn) wc))
        case first =>
          obtain ⟨k0, k1, k2⟩ := gaL_cells HSf.out
          by_cases hk1 : xk = str kOpen
          · have hb1 := kind_is hk1
            have HOp := hide (fun W (q : Below w.heap.size w W) => openG_ok a (.pointer (some v)) g xt W Hg.out hdm (HE.out _ q).sents)
            have HOm := hide (fun W => ropen_ok p g xt W Hg.out hdm)
            have HCo := hide (fun W (q : Below w.heap.size w W) => codesA a W (openE g xt) (HE.out _ q).sents (openE_code g xt) W (Below.refl _ _))
            have Hg' := hide (Hg.out.open xt)
            clear hk1 Hs
            generalize openN g xt = nn at *
            generalize errA a (openE g xt) = ev at *
            generalize openE g xt = ec at *
            generalize openT g xt = g' at *
            have hnn : (nn != nn) = false := by simp
            go_wp2_with fail
            refine (Sep.call (L0 := [_]) HSf.out (HOp.out _ HSf.out.below)).mono ?_
            rintro e w8 ⟨_, ⟨rfl, rfl⟩, hs8⟩
            obtain ⟨j0, j1, j2⟩ := gaL_cells hs8
            have HS8 := hide hs8.sw
            clear hs8 HSf HOp k0 k1 k2
            go_wp2_with fail
            refine (Sep.call (L0 := [_]) HS8.out (HOm.out _)).mono ?_
            rintro e w9 ⟨_, ⟨rfl, rfl⟩, hs9⟩
            have HS9 := hide hs9.sw
            clear hs9 HS8 HOm j0 j1 j2
            go_wp2_with fail
            refine (HCo.out _ HS9.out.below).mono ?_
            rintro e w10 ⟨rfl, hb10⟩
            have HS10 := hide (HS9.out.keep hb10)
            clear hb10 HS9 HCo
            go_wp2_with fail
            go_meet
            case rel => exact ⟨g', Hg'.out, HS10.out⟩
          · have hb1 := kind_not hk1
            by_cases hk2 : xk = str kAdmit
            · have hb2 := kind_is hk2
              have HAd := hide (fun W (q : Below w.heap.size w W) => admitG_ok a (.pointer (some v)) g xt xn W hdm (HE.out _ q).sents)
              have HAm := hide (fun W => radmit_ok p g xt xn W Hg.out)
              have HCo := hide (fun W (q : Below w.heap.size w W) => codesA a W (admE g xt xn) (HE.out _ q).sents (admE_code g xt xn) W (Below.refl _ _))
              clear hk1 hk2 Hs
              generalize errA a (admE g xt xn) = ev at *
              generalize admE g xt xn = ec at *
              generalize wr.alloc (.cells #[.string xk, .string xt, .int .i64 xn] 43) = wA at *
              have HSd := hide HSf.out.drew
              go_wp2_with fail
              go_region_held3 (fun w' => w'.cell? ⟨B, 1, none⟩ = some (.string xt) ∧ w'.cell? ⟨B, 2, none⟩ = some (.int .i64 xn))
                (go_keep)
                (first
                  | (go_at_call 11; refine (HCo.out _ hs10.below).mono ?_; rintro e w11 ⟨rfl, hb11⟩; have hs11 := hs10.keep hb11; obtain ⟨m0, m1, m2⟩ := gaL_cells hs11)
                  | (go_at_call 15; refine (Sep.call (L0 := [_]) hs9.sw (HAm.out _)).mono ?_; rintro e w10 ⟨_, ⟨rfl, rfl⟩, hs10'⟩; have hs10 := hs10'.sw; obtain ⟨i0, i1, i2⟩ := gaL_cells hs10)
                  | (go_at_call 10; refine (Sep.call (L0 := [_]) HSd.out (HAd.out _ HSd.out.below)).mono ?_; rintro e w9 ⟨_, ⟨rfl, rfl⟩, hs9⟩; obtain ⟨j0, j1, j2⟩ := gaL_cells hs9))
              all_goals
                have HS11 := hide hs11
                clear hs11 hs10 hs10' hs9 hb11 m0 m1 m2 i0 i1 i2 j0 j1 j2 HSd HSf HAd HAm HCo
                go_wp2_with fail
                go_meet
                case rel => exact ⟨g, Hg.out, HS11.out⟩
            · have hb2 := kind_not hk2
              have HAd := hide (fun W (q : Below w.heap.size w W) => setG_ok a (.pointer (some v)) g xt xn W Hg.out hdm (HE.out _ q).sents)
              have HAm := hide (fun W => rSet_ok p g xt xn W Hg.out hdm)
              have hc12 : setE g xt xn ≤ 12 := by rcases code_cases g xt xn with h | h | h | h <;> omega
              have HCo := hide (fun W (q : Below w.heap.size w W) => codesA a W (setE g xt xn) (HE.out _ q).sents hc12 W (Below.refl _ _))
              have Hg' := hide (Hg.out.set xt xn)
              clear hk1 hk2 Hs hc12
              generalize errA a (setE g xt xn) = ev at *
              generalize setE g xt xn = ec at *
              generalize setT g xt xn = g' at *
              generalize wr.alloc (.cells #[.string xk, .string xt, .int .i64 xn] 43) = wA at *
              have HSd := hide HSf.out.drew
              go_wp2_with fail
              go_region_held3 (fun w' => w'.cell? ⟨B, 1, none⟩ = some (.string xt) ∧ w'.cell? ⟨B, 2, none⟩ = some (.int .i64 xn))
                (go_keep)
                (first
                  | (go_at_call 11; refine (HCo.out _ hs10.below).mono ?_; rintro e w11 ⟨rfl, hb11⟩; have hs11 := hs10.keep hb11; obtain ⟨m0, m1, m2⟩ := gaL_cells hs11)
                  | (go_at_call 17; refine (Sep.call (L0 := [_]) hs9.sw (HAm.out _)).mono ?_; rintro e w10 ⟨_, ⟨rfl, rfl⟩, hs10'⟩; have hs10 := hs10'.sw; obtain ⟨i0, i1, i2⟩ := gaL_cells hs10)
                  | (go_at_call 16; refine (Sep.call (L0 := [_]) HSd.out (HAd.out _ HSd.out.below)).mono ?_; rintro e w9 ⟨_, ⟨rfl, rfl⟩, hs9⟩; obtain ⟨j0, j1, j2⟩ := gaL_cells hs9))
              all_goals
                have HS11 := hide hs11
                clear hs11 hs10 hs10' hs9 hb11 m0 m1 m2 i0 i1 i2 j0 j1 j2 HSd HSf HAd HAm HCo
                go_wp2_with fail
                go_meet
                case rel => exact ⟨g', Hg'.out, HS11.out⟩
        case rest =>
          obtain ⟨g', Hg', Hs'⟩ := hcut
          obtain ⟨k0, k1, k2⟩ := gaL_cells Hs'.out
          have HL1 := hide (fun W (k : Below wc.heap.size wc W) => last_pure (Hs'.out.keep k) xt hdm)
          have HL2 := hide (fun W (k : Below wc.heap.size wc W) => rlast_ok (Hs'.out.sw.keep k) xt (by have := Hg'.out.len; omega))
          clear Hs Hg HSf
          generalize lastT g' xt = la at *
          have hla : (la != la) = false := by simp
          go_wp2_with fail
          go_quiet ((first | (go_at_call 8; exact Calls.quiet_of_same (HL1.out _ (by first | exact Below.refl _ _ | exact (Below.refl _ _).drew | exact below_drewN (Below.refl _ _) _))) | (go_at_call 18; exact Calls.quiet_of_same (HL2.out _ (by first | exact Below.refl _ _ | exact (Below.refl _ _).drew | exact below_drewN (Below.refl _ _) _)))))
          have HF := hide (fun nq => Sep.drop (Sep.third (Hs'.out.keep (below_drewN (Below.refl _ _) nq))))
          clear Hs'
          go_wp2_with fail
          go_roundw
          case rel => exact ⟨i + 1, g', by go_num, by have := Hlt.out; omega, Hg'.out, HF.out _⟩
          case measure => have := Hlt.out; simp [intOf]; omega
    · have hle : (l.length : Int) ≤ (i : Int) := by omega
      have hfit := Hg.out
      have HT1 := hide (fun W (k : Sep Foot.none w [GtO (.pointer (some v)) g, RGt p g] W) => textG_ok HE0.out k hfit)
      have HT2 := hide (fun W (k : Sep Foot.none w [RGt p g, GtO (.pointer (some v)) g] W) => rtext_ok k hfit)
      have HR1 := hide (fun L' W (k : Sep Foot.none w L' W) => readG_ok s (by omega) HE0.out k)
      have HR2 := hide (fun L' W (k : Sep Foot.none w L' W) => rread_ok k s (by omega))
      have hRc : (readG s.data.toList).2.1 = 0 ∧ Fit (readG s.data.toList).1 ∨ ((readG s.data.toList).2.1 = 1 ∨ (readG s.data.toList).2.1 = 5 ∨ (readG s.data.toList).2.1 = 2 ∨ (readG s.data.toList).2.1 = 9 ∨ (readG s.data.toList).2.1 = 8) ∧ (readG s.data.toList).1 = [] := readD_code (cutL s.data.toList) [] ⟨#[]⟩ 0 Upto.start
      have HRc := hide hRc
      clear hRc hfit Hg HA
      have hss : ((str (textB g)).toList == (str (textB g)).toList) = true := by simp
      generalize str (textB g) = S at *
      generalize readG s.data.toList = R at *
      obtain ⟨R1, R2, R3⟩ := R
      simp only at HR1 HR2 HRc
      go_wp2_with fail
      refine (HT1.out _ Hs.out).mono ?_
      rintro r w4 ⟨rfl, hs4⟩
      have Hs4 := hide hs4.sw
      clear hs4 Hs HT1
      go_wp2_with fail
      refine (HT2.out _ Hs4.out).mono ?_
      rintro r w5 ⟨rfl, hs5⟩
      have Hs5 := hide hs5
      clear hs5 Hs4 HT2
      go_wp2_with fail
      refine (HR1.out _ _ Hs5.out).mono ?_
      rintro r w6 (⟨h0, q, rfl, hs6⟩ | ⟨c, f, h0, rfl, hs6⟩)
      · subst h0
        have hf1 : Fit R1 := by
          rcases HRc.out with h | h
          · exact h.2
          · omega
        have HT3 := hide (fun u L' W (k : Sep Foot.none w (GtO u R1 :: L') W) => textG_ok HE0.out k hf1)
        have HT4 := hide (fun q L' W (k : Sep Foot.none w (RGt q R1 :: L') W) => rtext_ok k hf1)
        have hss2 : ((str (textB R1)).toList == (str (textB R1)).toList) = true := by simp
        generalize str (textB R1) = S2 at *
        have Hs6 := hide hs6
        clear hs6 Hs5 HR1 hf1 HRc
        go_wp2_with fail
        refine (HR2.out _ _ Hs6.out).mono ?_
        rintro r w7 (⟨_, q2, rfl, hs7⟩ | ⟨h1, _, _⟩)
        · have Hs7 := hide (hs7.sw.alloc (.cells #[.int .i64 0, .int .i64 (-1)] 48))
          clear hs7 Hs6 HR2
          go_wp2_with fail
          refine (HT3.out _ _ _ Hs7.out).mono ?_
          rintro r w8 ⟨rfl, hs8⟩
          have Hs8 := hide hs8.sw
          clear hs8 Hs7 HT3
          go_wp2_with fail
          refine (HT4.out _ _ _ Hs8.out).mono ?_
          rintro r w9 ⟨rfl, hs9⟩
          have Hb := hide hs9.below
          clear hs9 Hs8 HT4
          go_wp2_with fail
          go_ret
          exact ⟨rfl, Hb.out⟩
        · exact absurd rfl h1
      · subst h0
        have hc12 : c < 12 := by
          rcases HRc.out with h | h
          · omega
          · omega
        have Hs6 := hide hs6
        clear hs6 Hs5 HR1 HRc
        go_wp2_with fail
        refine (HR2.out _ _ Hs6.out).mono ?_
        rintro r w7 (⟨h1, _⟩ | ⟨_, rfl, hs7⟩)
        · omega
        · have c0 := (hs7.cell 0).1
          have c1 := (hs7.cell 1).1
          simp only [List.getElem?_cons_zero, List.getElem?_cons_succ, errA] at c0 c1
          have HTl := hide (fun W hW => (errOf_at w7 a (HE.out _ hs7.below).sents c hc12 f R3 c0 c1).tells W hW)
          rw [show ((c + 1 : Nat) : Int) = (c : Int) + 1 by omega] at HTl
          have Hs7 := hide (hs7.alloc (.cells #[.int .i64 ((c : Int) + 1), .int .i64 R3] 48))
          have Hb7 := hide ((Below.refl w7.heap.size w7).alloc (Nat.le_refl _) (.cells #[.int .i64 ((c : Int) + 1), .int .i64 R3] 48))
          have hc0 : (0 : Int) < (c : Int) + 1 := by omega
          clear hs7 Hs6 HR2 c0 c1
          go_wp2_with fail
          refine (HTl.out _ Hb7.out).mono ?_
          rintro r w8 ⟨rfl, hb8⟩
          have Hb := hide (Hs7.out.keep hb8).below
          clear hb8 Hs7 HTl
          go_wp2_with fail
          go_ret
          exact ⟨rfl, Hb.out⟩

set_option maxHeartbeats 1000000 in
set_option maxRecDepth 100000 in
theorem gacts_early (a : Nat → Addr) (en : TypeId × Value) (la : Option Addr) (lc : Nat) (l : List Gact) (s : ByteArray) (w : World) (hE : GtEnv a en w) (hl : 60 < l.length ∨ l.length ≤ 60 ∧ 600 < s.size) :
    Calls Tryz.prog 4 #[.slice la l.length lc, .string s] w fun r w' => r = .returned (.bool true) ∧ Below w.heap.size w w' := by
  have HM := hide (gated_ok a en w hE)
  clear hE
  have hl' : (60 : Int) < l.length ∨ (l.length : Int) ≤ 60 ∧ (600 : Int) < s.size := by omega
  clear hl
  rcases hl' with hl' | ⟨hl', hs'⟩
  all_goals
    go_enter Tryz.func4, Tryz.ntmps4
    go_wp2_with fail
    refine HM.out.mono ?_
    rintro r w1 ⟨rfl, hb1⟩
    have Hb1 := hide hb1
    clear hb1 HM
    go_wp2_with fail
    go_ret
    exact ⟨rfl, Hb1.out⟩
/-- GateActs, whole. -/
theorem gacts_walk (a : Nat → Addr) (en : TypeId × Value) (v : Value) (l : List Gact) (s : ByteArray) (w : World) (hE : GtEnv a en w) (hA : GaRow w v l) :
    Calls Tryz.prog 4 #[v, .string s] w fun r w' => r = .returned (.bool true) ∧ Below w.heap.size w w' := by
  have hA' := hA
  obtain ⟨la, lc, rfl, -⟩ := hA'
  by_cases hl : 60 < l.length
  · exact gacts_early a en la lc l s w hE (.inl hl)
  · by_cases hs : 600 < s.size
    · exact gacts_early a en la lc l s w hE (.inr ⟨by omega, hs⟩)
    · exact gacts_main a en la lc l s w hE hA (by omega) (by omega)
end Go.Proofs.YtogpjblikphpcaaGreatDoor
