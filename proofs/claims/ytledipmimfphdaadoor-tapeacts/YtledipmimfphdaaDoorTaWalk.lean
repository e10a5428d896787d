/-
  The walk of the law TapeActs over the contracts.
-/
import Derived.Test.YtledipmimfphdaaDoorTapeAll
import Derived.Test.YtledipmimfphdaaDoorTpBack
import Derived.Test.YtledipmimfphdaaDoorWriteArg
import Derived.Test.YtledipmimfphdaaDoorSameB
import Derived.Deep.CutBlock
import Derived.Deep.RegionHeld3
import Derived.Deep.DeepCutAuto
namespace Go.Proofs.YtledipmimfphdaaDoor
open Go.RowKit
open Go.Tape

abbrev kAppend : List UInt8 := [97, 112, 112, 101, 110, 100]
abbrev kCut : List UInt8 := [99, 117, 116]
abbrev kOn : List UInt8 := [111, 110]
/-- What the walk holds: both tapes, the act. -/
abbrev taL (D : Value → Tp → Fam) (v : Addr) (p B : Nat) (d : Tp) (k t : ByteArray) (n : Int) : List Fam := [D (.pointer (some v)) d, RTp p d, CellsF B 44 [.string k, .string t, .int .i64 n]]
theorem taL_cells {w0 wr : World} {B : Nat} {A C : Fam} {k t : ByteArray} {n : Int} (h : Sep Foot.none w0 [A, C, CellsF B 44 [.string k, .string t, .int .i64 n]] wr) :
    wr.cell? ⟨B, 0, none⟩ = some (.string k) ∧ wr.cell? ⟨B, 1, none⟩ = some (.string t) ∧ wr.cell? ⟨B, 2, none⟩ = some (.int .i64 n) := by
  have h3 := h.third
  exact ⟨(h3.cell 0).1, (h3.cell 1).1, (h3.cell 2).1⟩
theorem rowTexts {w : World} {v : Value} {l : List (List UInt8)} (h : w.ownsRow 0 9 1 v l.length (l.map recV)) : Row1 strV w v (l.map str) := by
  have e : l.map recV = (l.map str).map strV := by rw [List.map_map]; rfl
  rw [e] at h
  exact Row1.of_own h

set_option maxHeartbeats 4000000 in
set_option maxRecDepth 100000 in
theorem tacts_main {a : Nat → Addr} {Env : World → Prop} {D : Value → Tp → Fam} (hT : TapeAll a Env D) (hSn : ∀ w, Env w → Sents w a) (b : ByteArray) (la : Option Addr) (lc : Nat) (l : List Writ) (w : World) (hE : Env w)
    (hA : WrRow w (.slice la l.length lc) l) (hW : ∀ x ∈ l, IntI x.n) (hl : l.length ≤ 50) (hs : b.size ≤ 2000) :
    Calls Tryd.prog 5 #[.string b, .slice la l.length lc] w fun r w' => r = .returned (.bool true) ∧ Below w.heap.size w w' := by
  have HE := hide (fun W (k : Below w.heap.size w W) => hT.go.env hE k)
  have HT := hide hT
  have HSn := hide hSn
  have HW := hide hW
  have HA := hide (fun W (k : Below w.heap.size w W) => hA.below k)
  have HM := hide (taped_ok hT.go w hE)
  have HN := hide (fun W (q : Env W) => hT.go.new b W hs q)
  have hl' : (l.length : Int) ≤ 50 := by omega
  have hs' : (b.size : Int) ≤ 2000 := by omega
  clear hE hA hT hW hSn
  go_enter Tryd.func5, Tryd.ntmps5
  go_wp2_with fail
  refine HM.out.mono ?_
  rintro r w1 ⟨rfl, hb1⟩
  have HS := hide ((Sep.start w).keep hb1)
  clear hb1 HM
  go_wp2_with fail
  refine (Sep.call (L0 := []) HS.out (HN.out _ (HE.out _ HS.out.below))).mono ?_
  rintro r w2 ⟨_, ⟨v, rfl, rfl⟩, hs2⟩
  have HS2 : Hid (Sep Foot.none w [D (.pointer (some v)) ⟨b, false, -1⟩, RTp w2.heap.size ⟨b, false, -1⟩] (w2.alloc (.cells #[.string b, .bool false, .int .i64 (-1)] 42))) := Sep.sw (Sep.fresh hs2 42 [.string b, .bool false, .int .i64 (-1)])
  clear hs2 HS HN
  go_wp2_with fail
  generalize w2.alloc (.cells #[.string b, .bool false, .int .i64 (-1)] 42) = w3 at *
  generalize w2.heap.size = p at *
  go_loopw [9] (fun t9 wr => ∃ (i : Nat) (d : Tp), t9 = .int .i64 i ∧ i ≤ l.length ∧ Hid (Fits d) ∧ Hid (Sep Foot.none w [D (.pointer (some v)) d, RTp p d] wr)) (fun t9 _ => l.length - (intOf t9).toNat)
  case atStart => exact ⟨0, ⟨b, false, -1⟩, rfl, Nat.zero_le _, ⟨by show b.size ≤ _; omega, by show (-1 : Int) ≤ _; omega⟩, HS2.out⟩
  case round =>
    clear HS2
    obtain ⟨i, d, rfl, hi, Hd, Hs⟩ := hrel
    by_cases hlt : i < l.length
    · have hlt' : (i : Int) < l.length := by omega
      have HAc : Hid (∃ lb lo, la = some ⟨lb, lo, none⟩ ∧ wr.cell? ⟨lb, lo + i * 3, none⟩ = some (.string l[i].kind) ∧ wr.cell? ⟨lb, lo + i * 3 + 1, none⟩ = some (.string l[i].tok) ∧ wr.cell? ⟨lb, lo + i * 3 + 2, none⟩ = some (.int .i64 l[i].n)) := by
        obtain ⟨_, _, e, hrow⟩ := HA.out _ Hs.out.below
        cases e
        obtain ⟨lb, lo, rfl, hc⟩ := hrow (by omega)
        exact ⟨lb, lo, rfl, hc i hlt⟩
      obtain ⟨lb, lo, rfl, a0, a1, a2⟩ := HAc.out
      have Hn := hide (HW.out _ (List.getElem_mem hlt))
      clear HAc
      generalize l[i] = x at *
      obtain ⟨xk, xt, xn⟩ := x
      simp only at a0 a1 a2 Hn
      have Hlt := hide hlt
      have hsf := (Hs.out.fresh 44 [.string xk, .string xt, .int .i64 xn])
      have HSf : Hid (Sep Foot.none w (taL D v p wr.heap.size d xk xt xn) (wr.alloc (.cells #[.string xk, .string xt, .int .i64 xn] 44))) := Sep.swap (L1 := [_]) hsf
      clear hsf hlt
      generalize hB : wr.heap.size = B at *
      by_cases hbig : 200 < xt.size ∧ xt.size ≠ 20001
      · have h1' : (200 : Int) < xt.size := by omega
        have h2' : ((xt.size : Int) != 20001) = true := by simp; omega
        have Hb := hide HSf.out.below
        obtain ⟨k0, k1, k2⟩ := taL_cells HSf.out
        clear Hs HSf Hd hbig
        go_wp2_with fail
        go_ret
        exact ⟨rfl, Hb.out⟩
      · have hsz : xt.size ≤ 20001 := by omega
        go_upto_region 12 with fail
        go_cut [65] (fun v65 wc => v65 = .bool false ∧ Hid (wc = wr.alloc (.cells #[.string xk, .string xt, .int .i64 xn] 44)))
        case first =>
          obtain ⟨k0, k1, k2⟩ := taL_cells HSf.out
          clear Hs HSf
          by_cases h60 : 200 < xt.size
          · have h60' : (200 : Int) < xt.size := by omega
            have h01' : ((xt.size : Int) != 20001) = false := by simp; omega
            clear h60 hbig
            go_wp2_with fail
            go_meet
            case rel => exact ⟨by first | rfl | rw [decide_eq_false (by omega)], rfl⟩
          · have h60' : (xt.size : Int) ≤ 200 := by omega
            clear h60 hbig
            go_wp2_with fail
            go_meet
            case rel => exact ⟨by first | rfl | rw [decide_eq_false (by omega)], rfl⟩
        case rest =>
          obtain ⟨rfl, Hq⟩ := hcut
          have hq := Hq.out
          subst hq
          clear Hq hbig
          go_upto_block 2 with fail
          go_cut [83] (fun _ wc => ∃ d', Hid (Fits d') ∧ Hid (Sep Foot.none w (taL D v p B d' xk xt xn) wc))
          case first =>
            obtain ⟨k0, k1, k2⟩ := taL_cells HSf.out
            by_cases hk1 : xk = str kAppend
            · have hb1 := kind_is hk1
              have HAd := hide (fun W (q : Below w.heap.size w W) => HT.out.go.append (.pointer (some v)) d xt W Hd.out.1 hsz (HE.out _ q))
              have HAm := hide (fun W => rapp_ok p d xt W (by have := Hd.out.1; omega) (by omega) Hd.out.2)
              have HCo := hide (fun W (q : Below w.heap.size w W) => codesA a W (d.appE xt) (HSn.out _ (HE.out _ q)) (appE_le d xt) W (Below.refl _ _))
              have Hd' := hide (Hd.out.app xt)
              clear hk1 Hs
              generalize errA a (d.appE xt) = ev at *
              generalize d.appE xt = ec at *
              generalize d.app xt = d' at *
              generalize wr.alloc (.cells #[.string xk, .string xt, .int .i64 xn] 44) = wA at *
              have HSd := hide HSf.out.drew
              go_wp2_with fail
              go_region_held3 (fun w' => w'.cell? ⟨B, 1, none⟩ = some (.string xt))
                (go_keep)
                (first
                  | (go_at_call 15; refine (HCo.out _ hs10.below).mono ?_; rintro e w11 ⟨rfl, hb11⟩; have hs11 := hs10.keep hb11; obtain ⟨m0, m1, m2⟩ := taL_cells hs11)
                  | (go_at_call 16; refine (Sep.call (L0 := [_]) hs9.sw (HAm.out _)).mono ?_; rintro e w10 ⟨_, ⟨rfl, rfl⟩, hs10'⟩; have hs10 := hs10'.sw; obtain ⟨i0, i1, i2⟩ := taL_cells hs10)
                  | (go_at_call 9; refine (Sep.call (L0 := [_]) HSd.out (HAd.out _ HSd.out.below)).mono ?_; rintro e w9 ⟨_, ⟨rfl, rfl⟩, hs9⟩; obtain ⟨j0, j1, j2⟩ := taL_cells hs9))
              all_goals
                have HS11 := hide hs11
                clear hs11 hs10 hs10' hs9 hb11 m0 m1 m2 i0 i1 i2 j0 j1 j2 HSd HSf HAd HAm HCo
                go_wp2_with fail
                go_meet
                case rel => exact ⟨d', Hd'.out, HS11.out⟩
            · have hb1 := kind_not hk1
              by_cases hk2 : xk = str kCut
              · have hb2 := kind_is hk2
                have HAd := hide (fun W (q : Below w.heap.size w W) => HT.out.cut (.pointer (some v)) d xn W Hn.out (HE.out _ q))
                have HAm := hide (fun W => rsetCut_ok p d xn W)
                have HCo := hide (fun W (q : Below w.heap.size w W) => codesA a W (d.cutE xn) (HSn.out _ (HE.out _ q)) (cutE_le d xn) W (Below.refl _ _))
                have Hd' := hide (Hd.out.set Hn.out)
                clear hk1 hk2 Hs
                generalize errA a (d.cutE xn) = ev at *
                generalize d.cutE xn = ec at *
                generalize d.set xn = d' at *
                generalize wr.alloc (.cells #[.string xk, .string xt, .int .i64 xn] 44) = wA at *
                have HSd := hide HSf.out.drew
                go_wp2_with fail
                go_region_held3 (fun w' => w'.cell? ⟨B, 2, none⟩ = some (.int .i64 xn))
                  (go_keep)
                  (first
                    | (go_at_call 15; refine (HCo.out _ hs10.below).mono ?_; rintro e w11 ⟨rfl, hb11⟩; have hs11 := hs10.keep hb11; obtain ⟨m0, m1, m2⟩ := taL_cells hs11)
                    | (go_at_call 17; refine (Sep.call (L0 := [_]) hs9.sw (HAm.out _)).mono ?_; rintro e w10 ⟨_, ⟨rfl, rfl⟩, hs10'⟩; have hs10 := hs10'.sw; obtain ⟨i0, i1, i2⟩ := taL_cells hs10)
                    | (go_at_call 8; refine (Sep.call (L0 := [_]) HSd.out (HAd.out _ HSd.out.below)).mono ?_; rintro e w9 ⟨_, ⟨rfl, rfl⟩, hs9⟩; obtain ⟨j0, j1, j2⟩ := taL_cells hs9))
                all_goals
                  have HS11 := hide hs11
                  clear hs11 hs10 hs10' hs9 hb11 m0 m1 m2 i0 i1 i2 j0 j1 j2 HSd HSf HAd HAm HCo
                  go_wp2_with fail
                  go_meet
                  case rel => exact ⟨d', Hd'.out, HS11.out⟩
              · have hb2 := kind_not hk2
                by_cases hk3 : xk = str kOn
                · have hb3 := kind_is hk3
                  have HAd := hide (fun W => HT.out.on (.pointer (some v)) d W)
                  have Hd' := hide Hd.out.on
                  clear hk1 hk2 hk3 Hs
                  go_wp2_with fail
                  refine (Sep.call (L0 := [_]) HSf.out (HAd.out _)).mono ?_
                  rintro e w9 ⟨_, ⟨rfl, rfl⟩, hs9⟩
                  obtain ⟨⟨c0, c1, c2⟩, f0, f1, f2⟩ := RTp.cells hs9.sw
                  have h10 := RTp.set1 hs9.sw false
                  obtain ⟨⟨e0, e1, e2⟩, g0, g1, g2⟩ := RTp.cells h10
                  have HS11 := hide (Sep.sw (RTp.set2 h10 (-1)))
                  clear hs9 h10 HSf HAd k0 k1 k2
                  go_wp2_with fail
                  go_meet
                  case rel => exact ⟨d.on, Hd'.out, HS11.out⟩
                · have hb3 := kind_not hk3
                  have HRe := hide (fun W (q : Below w.heap.size w W) => HT.out.go.recover (.pointer (some v)) d W Hd.out.1 (HE.out _ q))
                  have HRm := hide (fun L' W (k : Sep Foot.none w (RTp p d :: L') W) => rback_ok k (by have := Hd.out.1; omega))
                  have Hd' := hide Hd.out.back
                  have HSa : Hid (∀ u x W, Row1 strV W u (texts d.b) → Row1 strV W x (texts d.b) → Calls Tryd.prog 11 #[u, x] W fun r w' => r = .returned (.bool true) ∧ Below W.heap.size W w') := fun u x W h1 h2 => by
                    have hl2 : (texts d.b).length ≤ 1000000 := by
                      have := texts_len d.b
                      have := Hd.out.1
                      omega
                    have := sameTexts_ok u x (texts d.b) (texts d.b) W h1 h2 hl2 hl2
                    simpa using this
                  have hTx : (readT d.b.data.toList).1.map str = texts d.b := rfl
                  have HTx := hide (fun (W : World) (x : Value) (h : W.ownsRow 0 9 1 x (readT d.b.data.toList).1.length ((readT d.b.data.toList).1.map recV)) => show Row1 strV W x (texts d.b) from rowTexts h)
                  clear hk1 hk2 hk3 Hs hTx k0 k1 k2
                  generalize texts d.b = T at *
                  generalize (readT d.b.data.toList).1 = P at *
                  go_wp2_with fail
                  refine (Sep.call (L0 := [_]) HSf.out (HRe.out _ HSf.out.below)).mono ?_
                  rintro e w9 ⟨_, ⟨x, rfl, rfl⟩, hs9⟩
                  obtain ⟨xa, xc, rfl, -⟩ := hs9.rowForm
                  have HS9 := hide (Sep.third hs9)
                  clear hs9 HSf HRe
                  go_wp2_with fail
                  refine (HRm.out _ _ HS9.out).mono ?_
                  rintro e w10 ⟨v2, rfl, hs10⟩
                  have Hr2 := hide (HTx.out _ _ hs10.sw.own)
                  obtain ⟨va, vc, rfl, -⟩ := own_slice' hs10.sw.own
                  have Hr1 := hide (Sep.third hs10).row
                  have HS10 := hide hs10
                  have HSx := hide (HSa.out _ _ _ Hr1.out Hr2.out)
                  clear hs10 HS9 HRm Hr1 Hr2 HSa HTx
                  go_wp2_with fail
                  refine HSx.out.mono ?_
                  rintro e w11 ⟨rfl, hb11⟩
                  have x1 := HS10.out.keep hb11
                  have HS11 := hide (Sep.sw (Sep.drop (Sep.sw (Sep.drop (Sep.sw x1)))))
                  clear x1 hb11 HS10 HSx
                  go_wp2_with fail
                  go_meet
                  case rel => exact ⟨d.back, Hd'.out, HS11.out⟩
          case rest =>
            obtain ⟨d', Hd', Hs'⟩ := hcut
            obtain ⟨db, doff, dcut⟩ := d'
            have HBy := hide (fun W => HT.out.go.bytes (.pointer (some v)) ⟨db, doff, dcut⟩ W)
            have HPo := hide (fun W => HT.out.power (.pointer (some v)) ⟨db, doff, dcut⟩ W)
            obtain ⟨⟨c0, c1, c2⟩, -⟩ := RTp.cells Hs'.out.sw
            have HSd := hide Hs'.out.drew
            have hbs : (db.toList == db.toList) = true := by simp
            clear Hs Hd HSf Hs'
            have hpo : ((!doff) == doff) = false := by cases doff <;> rfl
            go_wp2_with fail
            go_region_held3 (fun w' => w'.cell? ⟨p, 0, none⟩ = some (.string db) ∧ w'.cell? ⟨p, 1, none⟩ = some (.bool doff))
              (go_keep)
              (first
                | (go_at_call 12; refine (Sep.call (L0 := [_]) hs9 (HPo.out _)).mono ?_; rintro e w10 ⟨_, ⟨rfl, rfl⟩, hs10⟩; obtain ⟨⟨i0, i1, i2⟩, -⟩ := RTp.cells (Sep.sw hs10))
                | (go_at_call 14; refine (Sep.call (L0 := [_]) HSd.out (HBy.out _)).mono ?_; rintro e w9 ⟨_, ⟨rfl, rfl⟩, hs9⟩; obtain ⟨⟨j0, j1, j2⟩, -⟩ := RTp.cells (Sep.sw hs9)))
            all_goals
              have HS11 := hide (Sep.drop (Sep.third hs10))
              clear hs10 hs9 i0 i1 i2 j0 j1 j2 HSd HBy HPo c0 c1 c2
              go_wp2_with fail
              go_roundw
              case rel => exact ⟨i + 1, _, by go_num, by have := Hlt.out; omega, Hd'.out, HS11.out⟩
              case measure => have := Hlt.out; simp [intOf]; omega
    · have hle : (l.length : Int) ≤ (i : Int) := by omega
      have HRd := hide (fun W (q : Below w.heap.size w W) => HT.out.read d.b W Hd.out.1 (HE.out _ q))
      have HRm := hide (fun L' W (k : Sep Foot.none w L' W) => rreadT_ok k d.b (by have := Hd.out.1; omega))
      have HSa : Hid (∀ u x W, Row1 strV W u (texts d.b) → Row1 strV W x (texts d.b) → Calls Tryd.prog 11 #[u, x] W fun r w' => r = .returned (.bool true) ∧ Below W.heap.size W w') := fun u x W h1 h2 => by
        have hl2 : (texts d.b).length ≤ 1000000 := by
          have := texts_len d.b
          have := Hd.out.1
          omega
        have := sameTexts_ok u x (texts d.b) (texts d.b) W h1 h2 hl2 hl2
        simpa using this
      have HTx := hide (fun (W : World) (x : Value) (h : W.ownsRow 0 9 1 x (readT d.b.data.toList).1.length ((readT d.b.data.toList).1.map recV)) => show Row1 strV W x (texts d.b) from rowTexts h)
      obtain ⟨⟨c0, c1, c2⟩, -⟩ := RTp.cells Hs.out.sw
      generalize texts d.b = T at *
      generalize readT d.b.data.toList = P at *
      clear HA
      go_wp2_with fail
      refine (Sep.call (L0 := []) Hs.out (HRd.out _ Hs.out.below)).mono ?_
      rintro e w9 ⟨_, ⟨x, rfl, rfl⟩, hs9⟩
      obtain ⟨xa, xc, rfl, -⟩ := hs9.rowForm
      obtain ⟨⟨e0, e1, e2⟩, -⟩ := RTp.cells (Sep.third hs9)
      have HS9 := hide hs9
      clear hs9 Hs HRd c0 c1 c2
      go_wp2_with fail
      refine (HRm.out _ _ HS9.out).mono ?_
      rintro e w10 ⟨v2, rfl, hs10⟩
      have Hr2 := hide (HTx.out _ _ hs10.own)
      obtain ⟨va, vc, rfl, -⟩ := own_slice' hs10.own
      have Hr1 := hide hs10.sw.row
      have HS10 := hide hs10
      have HSx := hide (HSa.out _ _ _ Hr1.out Hr2.out)
      clear hs10 HS9 HRm Hr1 Hr2 HSa HTx
      go_wp2_with fail
      refine HSx.out.mono ?_
      rintro e w11 ⟨rfl, hb11⟩
      have Hb := hide (HS10.out.keep hb11).below
      clear hb11 HS10 HSx
      go_wp2_with fail
      go_ret
      exact ⟨rfl, Hb.out⟩

set_option maxHeartbeats 1000000 in
set_option maxRecDepth 100000 in
theorem tacts_early {a : Nat → Addr} {Env : World → Prop} {D : Value → Tp → Fam} (hT : TapeAll a Env D) (b : ByteArray) (la : Option Addr) (lc : Nat) (l : List Writ) (w : World) (hE : Env w) (hl : 2000 < b.size ∨ b.size ≤ 2000 ∧ 50 < l.length) :
    Calls Tryd.prog 5 #[.string b, .slice la l.length lc] w fun r w' => r = .returned (.bool true) ∧ Below w.heap.size w w' := by
  have HM := hide (taped_ok hT.go w hE)
  clear hE
  have hl' : (2000 : Int) < b.size ∨ (b.size : Int) ≤ 2000 ∧ (50 : Int) < l.length := by omega
  clear hl
  rcases hl' with hl' | ⟨hl', hs'⟩
  all_goals
    go_enter Tryd.func5, Tryd.ntmps5
    go_wp2_with fail
    refine HM.out.mono ?_
    rintro r w1 ⟨rfl, hb1⟩
    have Hb1 := hide hb1
    clear hb1 HM
    go_wp2_with fail
    go_ret
    exact ⟨rfl, Hb1.out⟩
/-- TapeActs, whole. -/
theorem tacts_walk {a : Nat → Addr} {Env : World → Prop} {D : Value → Tp → Fam} (hT : TapeAll a Env D) (hSn : ∀ w, Env w → Sents w a) (b : ByteArray) (v : Value) (l : List Writ) (w : World) (hE : Env w) (hA : WrRow w v l ∧ ∀ x ∈ l, IntI x.n) :
    Calls Tryd.prog 5 #[.string b, v] w fun r w' => r = .returned (.bool true) ∧ Below w.heap.size w w' := by
  obtain ⟨hA, hW⟩ := hA
  have hA' := hA
  obtain ⟨la, lc, rfl, -⟩ := hA'
  by_cases hs : 2000 < b.size
  · exact tacts_early hT b la lc l w hE (.inl hs)
  · by_cases hl : 50 < l.length
    · exact tacts_early hT b la lc l w hE (.inr ⟨by omega, hl⟩)
    · exact tacts_main hT hSn b la lc l w hE hA hW (by omega) (by omega)
end Go.Proofs.YtledipmimfphdaaDoor
