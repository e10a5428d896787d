/-
  The walk of the law TapeCuts over the contracts.
-/
import Derived.Test.YtledipmimfphdaaDoorTapeAll
import Derived.Deep.AppendLies
import Derived.Deep.DeepCutAuto
namespace Go.Proofs.YtledipmimfphdaaDoor
open Go.RowKit
open Go.Tape

theorem Tryd.infoTc : (Tryd.prog.info? 9).map (fun i => (i.zero, i.size, i.bytes)) = some (some (.string ⟨#[]⟩), 1, 16) := by kernel_rfl
def moreT : ByteArray := ⟨#[111, 110, 101, 32, 109, 111, 114, 101]⟩
theorem rec1_small {s : ByteArray} (h : s.size ≤ 200) : (rec1 s).size ≤ 208 := by
  rw [rec1_len, recB_length, lenL]
  have := digits5 (n := s.size) (by omega)
  omega
theorem app_small (d : Tp) {s : ByteArray} (h : s.size ≤ 200) : (d.app s).b.size ≤ d.b.size + 208 := by
  have hr := rec1_small h
  unfold Tp.app
  split
  · omega
  · split
    · have : ((rec1 s).extract 0 d.cut.toNat).size ≤ (rec1 s).size := by
        rw [← lenL, ← lenL (rec1 s), extractL, List.length_take, List.length_drop]
        omega
      show (d.b ++ _).size ≤ _
      rw [ByteArray.size_append]
      omega
    · show (d.b ++ _).size ≤ _
      rw [ByteArray.size_append]
      omega
theorem back_small (d : Tp) : d.back.b.size ≤ d.b.size := by
  show (d.b.extract 0 _).size ≤ _
  rw [← lenL, ← lenL d.b, extractL, List.length_take, List.length_drop]
  omega
/-- A tape with power takes a text. -/
theorem app_on {d : Tp} {s : ByteArray} (h0 : d.off = false) (hc : d.cut < 0) (h1 : s.size ≤ 200) (h2 : d.b.size ≤ 1000000) : d.appE s = 0 ∧ (d.app s).off = false ∧ (d.app s).cut = d.cut := by
  have hr := rec1_small h1
  unfold Tp.appE Tp.app
  have hn : ¬ (20000 < s.size ∨ 1048576 < d.b.size + (rec1 s).size ∨ d.off = true) := by
    rw [h0]
    simp only [not_or]
    exact ⟨by omega, by omega, by simp⟩
  rw [if_neg (by omega), if_neg (by omega), if_neg (by rw [h0]; simp), if_neg (by omega), if_neg hn, if_neg (by omega)]
  exact ⟨rfl, rfl, by show (if 0 ≤ d.cut then _ else _) = _; rw [if_neg (by omega)]⟩
theorem list_back (l : List ByteArray) : (l.map fun x => x.data.toList).map str = l := by
  rw [List.map_map]
  conv => rhs; rw [← List.map_id l]
  apply List.map_congr_left
  intro x _
  exact ext_of_list (strL _)
/-- What TapeCuts asks at its end. -/
theorem cuts_end {d : Tp} {l : List ByteArray} (h : Holds d (l.map fun x => x.data.toList)) (hs : d.b.size ≤ 100000) :
    texts d.b = l ∧ d.back.off = false ∧ d.back.appE moreT = 0 ∧ texts (d.back.app moreT).b = l ++ [moreT] ∧ (readT (d.back.app moreT).b.data.toList).2 = (d.back.app moreT).b.size := by
  obtain ⟨h1, h2, h3⟩ := h.back
  have hb := back_small d
  obtain ⟨e1, e2, e3⟩ := app_on (d := d.back) (s := moreT) rfl (by show (-1 : Int) < 0; omega) (by decide) (by omega)
  have h4 := (h1.app moreT).1 e1
  have h5 := h4.read
  have h6 : (d.back.app moreT).b.data.toList = recsB ((l.map fun x => x.data.toList) ++ [moreT.data.toList]) := by
    obtain ⟨_, ⟨_, hb⟩ | ⟨ho, _⟩⟩ := h4
    · exact hb
    · rw [e2] at ho; cases ho
  refine ⟨?_, rfl, e1, ?_, ?_⟩
  · have : texts d.b = d.texts := rfl
    rw [this, h3, list_back]
  · unfold texts
    rw [h5]
    show ((l.map fun x => x.data.toList) ++ [moreT.data.toList]).map str = _
    rw [List.map_append, list_back]
    rfl
  · rw [h5, ← lenL, h6]

set_option maxHeartbeats 4000000 in
set_option maxRecDepth 100000 in
theorem tcuts_main {a : Nat → Addr} {Env : World → Prop} {D : Value → Tp → Fam} (hT : TapeAll a Env D) (ta : Option Addr) (tc : Nat) (T : List ByteArray) (n : Int) (w : World) (hE : Env w)
    (hA : Row1 strV w (.slice ta T.length tc) T) (hl : T.length ≤ 30) (hn : 0 ≤ n) (hm : n ≤ 9223372036854775807) :
    Calls Tryd.prog 3 #[.slice ta T.length tc, .int .i64 n] w fun r w' => r = .returned (.bool true) ∧ Below w.heap.size w w' := by
  obtain ⟨i0, hi0, hz0, hz1, hz2⟩ := info_parts Tryd.infoTc
  have HE := hide (fun W (k : Below w.heap.size w W) => hT.go.env hE k)
  have HT := hide hT
  have HA := hide (fun W (k : Below w.heap.size w W) => hA.below k)
  have HM := hide (taped_ok hT.go w hE)
  have HN := hide (fun W (q : Env W) => hT.go.new ⟨#[]⟩ W (by decide) q)
  have HCu := hide (fun v W (q : Env W) => hT.cut v ⟨⟨#[]⟩, false, -1⟩ n W hm q)
  have hcE : (Tp.mk ⟨#[]⟩ false (-1)).cutE n = 0 := by unfold Tp.cutE; rw [if_neg (by omega), if_neg (by simp)]
  have hcT : (Tp.mk ⟨#[]⟩ false (-1)).set n = ⟨⟨#[]⟩, false, n⟩ := by unfold Tp.set; rw [if_neg (by simp; omega)]
  rw [hcE, hcT] at HCu
  simp only [errA] at HCu
  have hl' : (T.length : Int) ≤ 30 := by omega
  clear hE hA hT hcE hcT
  go_enter Tryd.func3, Tryd.ntmps3
  go_wp2_with fail
  refine HM.out.mono ?_
  rintro r w1 ⟨rfl, hb1⟩
  have HS := hide ((Sep.start w).keep hb1)
  clear hb1 HM
  go_wp2_with fail
  refine (Sep.call (L0 := []) HS.out (HN.out _ (HE.out _ HS.out.below))).mono ?_
  rintro r w2 ⟨_, ⟨v, rfl, rfl⟩, hs2⟩
  have HS2 := hide hs2
  clear hs2 HS HN
  go_wp2_with fail
  refine (Sep.call (L0 := [_]) HS2.out (HCu.out _ _ (HE.out _ HS2.out.below))).mono ?_
  rintro r w3 ⟨_, ⟨rfl, rfl⟩, hs3⟩
  have HS3 : Hid (Sep Foot.none w [OwnF 9 1 (.slice none 0 0) ([] : List ByteArray).length (([] : List ByteArray).map strV), D (.pointer (some v)) ⟨⟨#[]⟩, false, n⟩] w3) := hs3.nil 9 1
  clear hs3 HS2 HCu
  go_wp2_with fail
  go_loopw [8, 9] (fun t8 t9 wr => ∃ (i : Nat) (d : Tp) (done : List ByteArray), t9 = .int .i64 i ∧ i ≤ T.length ∧ done.length ≤ i ∧ d.b.size ≤ 208 * i ∧ Hid (Holds d (done.map fun x => x.data.toList)) ∧ Hid (Sep Foot.none w [OwnF 9 1 t8 done.length (done.map strV), D (.pointer (some v)) d] wr)) (fun _ t9 _ => T.length - (intOf t9).toNat)
  case atStart => exact ⟨0, ⟨⟨#[]⟩, false, n⟩, [], rfl, Nat.zero_le _, Nat.zero_le _, Nat.zero_le _, Holds.start n, HS3.out⟩
  case round =>
    clear HS3
    obtain ⟨i, d, done, rfl, hi, hdl, hds, Hh, Hs⟩ := hrel
    by_cases hlt : i < T.length
    · have hlt' : (i : Int) < T.length := by omega
      have HTc : Hid (∃ tb o, ta = some ⟨tb, o, none⟩ ∧ ∀ W, Below w.heap.size w W → W.cell? ⟨tb, o + i, none⟩ = some (.string T[i])) := by
        obtain ⟨_, _, e, hrow⟩ := HA.out w (Below.refl _ _)
        cases e
        obtain ⟨tb, o, rfl, hc⟩ := hrow (by omega)
        exact ⟨tb, o, rfl, fun W k => (k.cell (World.block_lt_of_cell? _ _ (hc i hlt))).trans (hc i hlt)⟩
      obtain ⟨tb, o, rfl, htc⟩ := HTc.out
      have HTd := hide htc
      clear HTc htc
      generalize T[i] = s at *
      have Hlt := hide hlt
      clear hlt
      have c0 := HTd.out _ Hs.out.below
      by_cases hd : 200 < s.size
      · have hd' : (200 : Int) < s.size := by omega
        have Hb := hide Hs.out.below
        clear Hs Hh hd
        go_wp2_with fail
        go_ret
        exact ⟨rfl, Hb.out⟩
      · have hd' : (s.size : Int) ≤ 200 := by omega
        have HAd := hide (fun W (q : Below w.heap.size w W) => HT.out.go.append (.pointer (some v)) d s W (by omega) (by omega) (HE.out _ q))
        have hsm := app_small d (s := s) (by omega)
        obtain ⟨hh1, hh2⟩ := Hh.out.app s
        generalize hap : d.app s = d' at *
        cases he : d.appE s with
        | zero =>
          have Hh' : Hid (Holds d' ((done ++ [s]).map fun x => x.data.toList)) := by
            rw [List.map_append]
            exact hh1 he
          rw [he] at HAd
          simp only [errA] at HAd
          have Hn2 : Hid (∀ (v8 : Value) wz, Sep Foot.none w [OwnF 9 1 v8 (done.length + 1) (done.map strV ++ [.string s]), D (.pointer (some v)) d'] wz → Sep Foot.none w [OwnF 9 1 v8 (done ++ [s]).length ((done ++ [s]).map strV), D (.pointer (some v)) d'] wz) := fun v8 wz h => by
            rw [List.length_append, List.length_singleton, List.map_append, List.map_singleton, strV]
            exact h
          clear hh1 hh2 he hap hd Hh
          generalize done.map strV = xs at *
          go_wp2_with fail
          refine (Sep.call (L0 := [_]) Hs.out.sw (HAd.out _ Hs.out.below)).mono ?_
          rintro r w4 ⟨_, ⟨rfl, rfl⟩, hs4⟩
          have c4 := HTd.out _ hs4.below
          have Hs4 := hide hs4.sw
          have Ho := hide hs4.sw.own
          clear hs4 HAd c0 Hs
          go_wp2_with (at_builtin; refine wpList_append_lies _ rfl (.tmp 60) (.tmp 65) 22 rfl 0 9 i0 (.string ⟨#[]⟩) 1 16 Tryd.underlying22 hi0 hz0 hz1 hz2 rfl (by decide) u8 done.length xs rfl (Ho.out.alloc _) ⟨w4.heap.size, 0, none⟩ 1 1 [.string s] rfl rfl ?c1 ?c2 (by decide) ?b1 ?b2 (Nat.zero_le _) _ rfl ?next)
          try case c1 => exact news1 _ _ _ _ rfl
          case c2 => first | rfl | (intro u hu; simp at hu; subst hu; rfl)
          case b1 => unfold maxLen; omega
          case b2 => omega
          case next =>
            intro g5 k5 w5 own5 hg5 hat5 hlt5
            have Hs5 := hide (Hn2.out _ _ ((Hs4.out.alloc (.cells #[.string s] 9)).lies own5 hg5 hat5 (by simp)))
            clear own5 hg5 hat5 hlt5 Hs4 Ho Hn2 c4
            go_wp2_with fail
            go_roundw
            case rel => exact ⟨i + 1, d', done ++ [s], by go_num, Hlt.out, by simp; omega, by omega, Hh'.out, Hs5.out⟩
            case measure => have := Hlt.out; simp [intOf]; omega
        | succ c =>
          have Hh' : Hid (Holds d' (done.map fun x => x.data.toList)) := hh2 (by rw [he]; simp)
          rw [he] at HAd
          simp only [errA] at HAd
          clear hh1 hh2 he hap hd Hh
          go_wp2_with fail
          refine (Sep.call (L0 := [_]) Hs.out.sw (HAd.out _ Hs.out.below)).mono ?_
          rintro r w4 ⟨_, ⟨rfl, rfl⟩, hs4⟩
          have Hs4 := hide hs4.sw
          clear hs4 HAd c0 Hs
          go_wp2_with fail
          go_roundw
          case rel => exact ⟨i + 1, d', done, by go_num, Hlt.out, by omega, by omega, Hh'.out, Hs4.out⟩
          case measure => have := Hlt.out; simp [intOf]; omega
    · have hle : (T.length : Int) ≤ (i : Int) := by omega
      obtain ⟨h1, h2, h3, h4, h5⟩ := cuts_end Hh.out (by omega)
      have hb1 := back_small d
      have hb2 := app_small d.back (s := moreT) (by decide)
      have HRe := hide (fun W (q : Below w.heap.size w W) => HT.out.go.recover (.pointer (some v)) d W (by omega) (HE.out _ q))
      have HPo := hide (fun W => HT.out.power (.pointer (some v)) d.back W)
      have HAp := hide (fun W (q : Below w.heap.size w W) => HT.out.go.append (.pointer (some v)) d.back moreT W (by omega) (by decide) (HE.out _ q))
      have HBy := hide (fun W => HT.out.go.bytes (.pointer (some v)) (d.back.app moreT) W)
      have HRd := hide (fun W (q : Below w.heap.size w W) => HT.out.read (d.back.app moreT).b W (by omega) (HE.out _ q))
      rw [h1] at HRe
      rw [h2] at HPo
      rw [h3] at HAp
      rw [h4, h5] at HRd
      simp only [errA] at HAp
      have HSa : Hid (∀ u x W, Row1 strV W u done → Row1 strV W x done → Calls Tryd.prog 11 #[u, x] W fun r w' => r = .returned (.bool true) ∧ Below W.heap.size W w') := fun u x W q1 q2 => by
        have := sameTexts_ok u x done done W q1 q2 (by omega) (by omega)
        simpa using this
      have hml : (moreT.toList == [111, 110, 101, 32, 109, 111, 114, 101]) = true := by
        rw [ByteArray.toList_eq]
        rfl
      have HLast : Hid (∀ (W : World) (y : Value), Row1 strV W y (done ++ [moreT]) → ∃ yb yo yc, y = .slice (some ⟨yb, yo, none⟩) (done.length + 1) yc ∧ W.cell? ⟨yb, yo + done.length, none⟩ = some (.string moreT)) := fun W y h => by
        obtain ⟨ya, yc, rfl, hc⟩ := h
        obtain ⟨yb, yo, rfl, hcd⟩ := hc (by simp)
        refine ⟨yb, yo, yc, by simp, ?_⟩
        have := hcd done.length (by simp)
        simpa [strV] using this
      have hdi : (done.length : Int) ≤ 30 := by omega
      clear h1 h2 h3 h4 h5 hb1 hb2 Hh HA hds
      generalize d.back.app moreT = d2 at *
      generalize d.back = d1 at *
      obtain ⟨ga, gc, rfl, -⟩ := own_slice' Hs.out.own
      go_wp2_with fail
      refine (Sep.call (L0 := [_]) Hs.out.sw (HRe.out _ Hs.out.below)).mono ?_
      rintro r w4 ⟨_, ⟨x, rfl, rfl⟩, hs4⟩
      obtain ⟨xa, xc, rfl, -⟩ := hs4.rowForm
      have Hs4 := hide hs4
      have HSx := hide (HSa.out _ _ _ hs4.row (Row1.of_own (f := strV) hs4.third.own))
      clear hs4 Hs HRe HSa
      go_wp2_with fail
      refine HSx.out.mono ?_
      rintro r w5 ⟨rfl, hb5⟩
      have Hs5 := hide (Hs4.out.keep hb5).sw
      clear hb5 Hs4 HSx
      go_wp2_with fail
      refine (Sep.call (L0 := [_]) Hs5.out (HPo.out _)).mono ?_
      rintro r w6 ⟨_, ⟨rfl, rfl⟩, hs6⟩
      have Hs6 := hide hs6
      clear hs6 Hs5 HPo
      go_wp2_with fail
      refine (Sep.call (L0 := [_]) Hs6.out (HAp.out _ Hs6.out.below)).mono ?_
      rintro r w7 ⟨_, ⟨rfl, rfl⟩, hs7⟩
      have Hs7 := hide hs7
      clear hs7 Hs6 HAp
      go_wp2_with fail
      refine (Sep.call (L0 := [_]) Hs7.out (HBy.out _)).mono ?_
      rintro r w8 ⟨_, ⟨rfl, rfl⟩, hs8⟩
      have Hs8 := hide hs8
      clear hs8 Hs7
      go_wp2_with fail
      refine (Sep.call (L0 := []) Hs8.out (HRd.out _ Hs8.out.below)).mono ?_
      rintro r w9 ⟨_, ⟨y, rfl, rfl⟩, hs9⟩
      obtain ⟨yb, yo, yc, rfl, cy⟩ := HLast.out _ _ hs9.row
      have Hs9 := hide hs9
      clear Hs8 HRd hs9
      go_wp2_with fail
      refine (Sep.call (L0 := [_]) Hs9.out.sw (HBy.out _)).mono ?_
      rintro r w10 ⟨_, ⟨rfl, rfl⟩, hs10⟩
      obtain ⟨yb', yo', yc', e, cz⟩ := HLast.out _ _ hs10.sw.row
      cases e
      have Hb := hide hs10.below
      clear Hs9 HBy hs10 cy
      go_wp2_with fail
      go_ret
      exact ⟨rfl, Hb.out⟩

set_option maxHeartbeats 1000000 in
set_option maxRecDepth 100000 in
theorem tcuts_early {a : Nat → Addr} {Env : World → Prop} {D : Value → Tp → Fam} (hT : TapeAll a Env D) (ta : Option Addr) (tc : Nat) (T : List ByteArray) (n : Int) (w : World) (hE : Env w) (hl : 30 < T.length ∨ T.length ≤ 30 ∧ n < 0) :
    Calls Tryd.prog 3 #[.slice ta T.length tc, .int .i64 n] w fun r w' => r = .returned (.bool true) ∧ Below w.heap.size w w' := by
  have HM := hide (taped_ok hT.go w hE)
  clear hE
  have hl' : (30 : Int) < T.length ∨ (T.length : Int) ≤ 30 ∧ n < 0 := by omega
  clear hl
  rcases hl' with hl' | ⟨hl', hs'⟩
  all_goals
    go_enter Tryd.func3, Tryd.ntmps3
    go_wp2_with fail
    refine HM.out.mono ?_
    rintro r w1 ⟨rfl, hb1⟩
    have Hb1 := hide hb1
    clear hb1 HM
    go_wp2_with fail
    go_ret
    exact ⟨rfl, Hb1.out⟩
/-- TapeCuts, whole. -/
theorem tcuts_walk {a : Nat → Addr} {Env : World → Prop} {D : Value → Tp → Fam} (hT : TapeAll a Env D) (v : Value) (T : List ByteArray) (n : Int) (w : World) (hE : Env w) (hA : Row1 strV w v T) (hm : n ≤ 9223372036854775807) :
    Calls Tryd.prog 3 #[v, .int .i64 n] w fun r w' => r = .returned (.bool true) ∧ Below w.heap.size w w' := by
  have hA' := hA
  obtain ⟨ta, tc, rfl, -⟩ := hA'
  by_cases hl : 30 < T.length
  · exact tcuts_early hT ta tc T n w hE (.inl hl)
  · by_cases hn : n < 0
    · exact tcuts_early hT ta tc T n w hE (.inr ⟨by omega, hn⟩)
    · exact tcuts_main hT ta tc T n w hE hA (by omega) (by omega) hm
end Go.Proofs.YtledipmimfphdaaDoor
