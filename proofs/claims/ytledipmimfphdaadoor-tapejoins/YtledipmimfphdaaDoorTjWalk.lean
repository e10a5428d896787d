/-
  The walk of the law TapeJoins over the contracts.
-/
import Derived.Test.YtledipmimfphdaaDoorTcWalk
import Derived.Test.YtledipmimfphdaaDoorSepRow
namespace Go.Proofs.YtledipmimfphdaaDoor
open Go.RowKit
open Go.Tape

/-- What a tape with power holds. -/
theorem holds_bytes {d : Tp} {l : List (List UInt8)} (h : Holds d l) (ho : d.off = false) : d.b.data.toList = recsB l := by
  obtain ⟨_, ⟨_, hb⟩ | ⟨h1, _⟩⟩ := h
  · exact hb
  · rw [ho] at h1; cases h1
/-- What TapeJoins asks at its end. -/
theorem joins_end {d : Tp} {l : List ByteArray} (h : Holds d (l.map fun x => x.data.toList)) (ho : d.off = false) (b : ByteArray) :
    texts d.b = l ∧ (readT d.b.data.toList).2 = d.b.size ∧ texts (d.b ++ b) = l ++ texts b ∧ (readT (d.b ++ b).data.toList).2 = d.b.size + (readT b.data.toList).2 := by
  have hb := holds_bytes h ho
  have h1 := h.read
  have h2 := readT_recs (l.map fun x => x.data.toList) h.1 b.data.toList
  rw [← hb] at h2
  refine ⟨?_, ?_, ?_, ?_⟩
  · unfold texts; rw [h1, list_back]
  · rw [h1, ← lenL, hb]
  · unfold texts
    rw [appendL, h2, List.map_append, list_back]
  · rw [appendL, h2, ← lenL d.b, hb]

set_option maxHeartbeats 4000000 in
set_option maxRecDepth 100000 in
theorem tjoins_main {a : Nat → Addr} {Env : World → Prop} {D : Value → Tp → Fam} (hT : TapeAll a Env D) (ta : Option Addr) (tc : Nat) (T : List ByteArray) (b : ByteArray) (w : World) (hE : Env w)
    (hA : Row1 strV w (.slice ta T.length tc) T) (hl : T.length ≤ 20) (hbs : b.size ≤ 500) :
    Calls Tryd.prog 4 #[.slice ta T.length tc, .string b] w fun r w' => r = .returned (.bool true) ∧ Below w.heap.size w w' := by
  obtain ⟨i0, hi0, hz0, hz1, hz2⟩ := info_parts Tryd.infoTc
  have HE := hide (fun W (k : Below w.heap.size w W) => hT.go.env hE k)
  have HT := hide hT
  have HA := hide (fun W (k : Below w.heap.size w W) => hA.below k)
  have HM := hide (taped_ok hT.go w hE)
  have HN := hide (fun W (q : Env W) => hT.go.new ⟨#[]⟩ W (by decide) q)
  have hl' : (T.length : Int) ≤ 20 := by omega
  have hbs' : (b.size : Int) ≤ 500 := by omega
  clear hE hA hT
  go_enter Tryd.func4, Tryd.ntmps4
  go_wp2_with fail
  refine HM.out.mono ?_
  rintro r w1 ⟨rfl, hb1⟩
  have HS := hide ((Sep.start w).keep hb1)
  clear hb1 HM
  go_wp2_with fail
  refine (Sep.call (L0 := []) HS.out (HN.out _ (HE.out _ HS.out.below))).mono ?_
  rintro r w2 ⟨_, ⟨v, rfl, rfl⟩, hs2⟩
  have HS2 := hide hs2
  clear hs2 HS HN
  go_wp2_with fail
  go_loopw [8] (fun t8 wr => ∃ (i : Nat) (d : Tp), t8 = .int .i64 i ∧ i ≤ T.length ∧ d.b.size ≤ 208 * i ∧ d.off = false ∧ d.cut < 0 ∧ Hid (Holds d ((T.take i).map fun x => x.data.toList)) ∧ Hid (Sep Foot.none w [D (.pointer (some v)) d] wr)) (fun t8 _ => T.length - (intOf t8).toNat)
  case atStart => exact ⟨0, ⟨⟨#[]⟩, false, -1⟩, rfl, Nat.zero_le _, Nat.zero_le _, rfl, by show (-1 : Int) < 0; omega, Holds.start (-1), HS2.out⟩
  case round =>
    clear HS2
    obtain ⟨i, d, rfl, hi, hds, ho, hc, Hh, Hs⟩ := hrel
    by_cases hlt : i < T.length
    · have hlt' : (i : Int) < T.length := by omega
      have HTc : Hid (∃ tb o, ta = some ⟨tb, o, none⟩ ∧ ∀ W, Below w.heap.size w W → W.cell? ⟨tb, o + i, none⟩ = some (.string T[i])) := by
        obtain ⟨_, _, e, hrow⟩ := HA.out w (Below.refl _ _)
        cases e
        obtain ⟨tb, o, rfl, hc⟩ := hrow (by omega)
        exact ⟨tb, o, rfl, fun W k => (k.cell (World.block_lt_of_cell? _ _ (hc i hlt))).trans (hc i hlt)⟩
      obtain ⟨tb, o, rfl, htc⟩ := HTc.out
      have HTd := hide htc
      have HTk := hide (List.take_succ_eq_append_getElem hlt)
      clear HTc htc
      generalize T[i] = s at *
      have Hlt := hide hlt
      clear hlt
      have c0 := HTd.out _ Hs.out.below
      by_cases hd : 200 < s.size
      · have hd' : (200 : Int) < s.size := by omega
        have Hb := hide Hs.out.below
        clear Hs Hh hd ho hc
        go_wp2_with fail
        go_ret
        exact ⟨rfl, Hb.out⟩
      · have hd' : (s.size : Int) ≤ 200 := by omega
        have HAd := hide (fun W (q : Below w.heap.size w W) => HT.out.go.append (.pointer (some v)) d s W (by omega) (by omega) (HE.out _ q))
        have hsm := app_small d (s := s) (by omega)
        obtain ⟨e1, e2, e3⟩ := app_on (d := d) (s := s) ho hc (by omega) (by omega)
        have Hh' : Hid (Holds (d.app s) ((T.take (i + 1)).map fun x => x.data.toList)) := by
          rw [HTk.out, List.map_append]
          exact (Hh.out.app s).1 e1
        rw [e1] at HAd
        simp only [errA] at HAd
        have Ho := hide e2
        have Hc : Hid ((d.app s).cut < 0) := by rw [e3]; exact hc
        clear e1 e2 e3 hd Hh ho hc
        generalize d.app s = d' at *
        go_wp2_with fail
        refine (Sep.call (L0 := [_]) Hs.out (HAd.out _ Hs.out.below)).mono ?_
        rintro r w4 ⟨_, ⟨rfl, rfl⟩, hs4⟩
        have Hs4 := hide hs4
        clear hs4 HAd c0 Hs
        go_wp2_with fail
        go_roundw
        case rel => exact ⟨i + 1, d', by go_num, Hlt.out, by omega, Ho.out, Hc.out, Hh'.out, Hs4.out⟩
        case measure => have := Hlt.out; simp [intOf]; omega
    · have hle : (T.length : Int) ≤ (i : Int) := by omega
      obtain rfl : i = T.length := by omega
      have hh := Hh.out
      rw [List.take_length] at hh
      obtain ⟨h1, h2, h3, h4⟩ := joins_end hh ho b
      have hbl : (texts b).length ≤ 500 := by have := texts_len b; omega
      have hrb : (readT b.data.toList).2 ≤ 500 := by have := readT_le b.data.toList; rw [lenL] at this; omega
      have HBy := hide (fun W => HT.out.go.bytes (.pointer (some v)) d W)
      have HR1 := hide (fun W (q : Below w.heap.size w W) => HT.out.read d.b W (by omega) (HE.out _ q))
      have HR2 := hide (fun W (q : Below w.heap.size w W) => HT.out.read b W (by omega) (HE.out _ q))
      have HR3 := hide (fun W (q : Below w.heap.size w W) => HT.out.read (d.b ++ b) W (by rw [ByteArray.size_append]; omega) (HE.out _ q))
      rw [h1, h2] at HR1
      rw [h3, h4] at HR3
      have HSa : Hid (∀ (X : List ByteArray) u x W, X.length ≤ 1000 → Row1 strV W u X → Row1 strV W x X → Calls Tryd.prog 11 #[u, x] W fun r w' => r = .returned (.bool true) ∧ Below W.heap.size W w') := fun X u x W q0 q1 q2 => by
        have := sameTexts_ok u x X X W q1 q2 (by omega) (by omega)
        simpa using this
      have p1 := fun W => run_string_add_sum (P := Tryd.prog) W d.b b (by omega)
      have hdb : (d.b.size : Int) ≤ 10000 := by omega
      have hnr : ((readT b.data.toList).2 : Int) ≤ 500 := by omega
      clear h1 h2 h3 h4 hh Hh ho hc
      generalize texts b = Y at *
      generalize (readT b.data.toList).2 = m at *
      go_wp2_with fail
      refine (Sep.call (L0 := [_]) Hs.out (HBy.out _)).mono ?_
      rintro r w4 ⟨_, ⟨rfl, rfl⟩, hs4⟩
      have Hs4 := hide hs4
      clear hs4 Hs
      go_wp2_with fail
      refine (Sep.call (L0 := []) Hs4.out (HR1.out _ Hs4.out.below)).mono ?_
      rintro r w5 ⟨_, ⟨x, rfl, rfl⟩, hs5⟩
      obtain ⟨xa, xc, rfl, hxn⟩ := hs5.rowForm
      have Hxn := hide hxn
      have Hs5 := hide hs5
      clear hs5 Hs4 HR1 hxn
      go_wp2_with fail
      refine (Sep.call (L0 := []) Hs5.out (HR2.out _ Hs5.out.below)).mono ?_
      rintro r w6 ⟨_, ⟨y, rfl, rfl⟩, hs6⟩
      obtain ⟨ya, yc, rfl, hyn⟩ := hs6.rowForm
      have Hyn := hide hyn
      have Hs6 := hide hs6.third
      clear hs6 Hs5 HR2 hyn
      go_wp2_with fail
      refine (Sep.call (L0 := [_]) Hs6.out (HBy.out _)).mono ?_
      rintro r w7 ⟨_, ⟨rfl, rfl⟩, hs7⟩
      have Hs7 := hide hs7
      clear hs7 Hs6
      go_wp2_with fail
      refine (Sep.call (L0 := []) Hs7.out (HR3.out _ Hs7.out.below)).mono ?_
      rintro r w8 ⟨_, ⟨z, rfl, rfl⟩, hs8⟩
      obtain ⟨za, zc, rfl, -⟩ := hs8.rowForm
      have Hs8 : Hid (Sep Foot.none w [OwnF 9 1 (.slice none 0 0) 0 [], RowF strV (.slice za (T ++ Y).length zc) (T ++ Y), D (.pointer (some v)) d, RowF strV (.slice ya Y.length yc) Y, RowF strV (.slice xa T.length xc) T] w8) := hs8.nil 9 1
      clear hs8 Hs7 HR3
      have hTl : T.length ≤ 20 := by omega
      have Hr8 := hide (Sep.swap (L1 := [_, _, _, _]) Hs8.out).row
      have hwk : IntKind.i64.wrap ((d.b.size : Int) + (m : Int)) = (d.b.size : Int) + (m : Int) := iwrap_id _ (by omega) (by omega)
      go_wp2_with (at_builtin; refine wpList_append_row rfl (.tmp 78) (.tmp 79) 22 rfl 9 i0 (.string ⟨#[]⟩) 16 Tryd.underlying22 hi0 hz0 hz1 hz2 rfl (.slice none 0 0) 0 [] rfl Hs8.out (.slice xa T.length xc) T rfl Hr8.out ?n1 (fun _ => rfl) ?b1 ?b2 ?next1)
      case n1 => intro j c e; simp only [Value.slice.injEq] at e; obtain ⟨e1, _, e3⟩ := e; rw [← e3]; exact Hxn.out e1
      case b1 => unfold maxLen; omega
      case b2 => omega
      case next1 =>
        intro ga gc w9 hs9
        (try simp only [Nat.zero_add, List.nil_append] at hs9)
        have Hs9 := hide hs9
        have Hr9 := hide (Sep.swap (L1 := [_, _, _]) hs9).row
        clear hs9 Hs8 Hr8
        go_wp2_with (at_builtin; refine wpList_append_row rfl (.tmp 81) (.tmp 82) 22 rfl 9 i0 (.string ⟨#[]⟩) 16 Tryd.underlying22 hi0 hz0 hz1 hz2 rfl (.slice ga T.length gc) T.length (T.map strV) rfl Hs9.out (.slice ya Y.length yc) Y rfl Hr9.out ?n2 (fun _ => rfl) ?b3 ?b4 ?next2)
        case n2 => intro j c e; simp only [Value.slice.injEq] at e; obtain ⟨e1, _, e3⟩ := e; rw [← e3]; exact Hyn.out e1
        case b3 => unfold maxLen; omega
        case b4 => omega
        case next2 =>
          intro gb gd w10 hs10
          have Hs10 := hide hs10
          have HSx := hide (HSa.out T _ _ _ (by omega) (Sep.swap (L1 := [_, _, _, _]) hs10).row (HA.out _ hs10.below))
          clear hs10 Hs9 Hr9
          go_wp2_with fail
          refine HSx.out.mono ?_
          rintro r w11 ⟨rfl, hb11⟩
          have Hs11 := hide (Hs10.out.keep hb11).third
          clear hb11 Hs10 HSx
          go_wp2_with fail
          refine (Sep.call (L0 := [_]) Hs11.out (HBy.out _)).mono ?_
          rintro r w12 ⟨_, ⟨rfl, rfl⟩, hs12⟩
          have hown : w12.ownsRow 0 9 1 (.slice gb (T.length + Y.length) gd) (T.length + Y.length) ((T ++ Y).map strV) := by
            have := hs12.sw.own
            rwa [← List.map_append] at this
          have HSz := hide (HSa.out (T ++ Y) _ _ _ (by rw [List.length_append]; omega) hs12.third.row (Row1.of_own (f := strV) hown))
          have Hs12 := hide hs12
          clear hs12 Hs11 HBy hown
          (try rw [List.length_append] at HSz)
          go_wp2_with fail
          refine HSz.out.mono ?_
          rintro r w13 ⟨rfl, hb13⟩
          have Hb := hide (Hs12.out.keep hb13).below
          clear hb13 Hs12 HSz
          go_wp2_with fail
          go_ret
          exact ⟨rfl, Hb.out⟩

set_option maxHeartbeats 1000000 in
set_option maxRecDepth 100000 in
theorem tjoins_early {a : Nat → Addr} {Env : World → Prop} {D : Value → Tp → Fam} (hT : TapeAll a Env D) (ta : Option Addr) (tc : Nat) (T : List ByteArray) (b : ByteArray) (w : World) (hE : Env w) (hl : 20 < T.length ∨ T.length ≤ 20 ∧ 500 < b.size) :
    Calls Tryd.prog 4 #[.slice ta T.length tc, .string b] w fun r w' => r = .returned (.bool true) ∧ Below w.heap.size w w' := by
  have HM := hide (taped_ok hT.go w hE)
  clear hE
  have hl' : (20 : Int) < T.length ∨ (T.length : Int) ≤ 20 ∧ (500 : Int) < b.size := by omega
  clear hl
  rcases hl' with hl' | ⟨hl', hs'⟩
  all_goals
    go_enter Tryd.func4, Tryd.ntmps4
    go_wp2_with fail
    refine HM.out.mono ?_
    rintro r w1 ⟨rfl, hb1⟩
    have Hb1 := hide hb1
    clear hb1 HM
    go_wp2_with fail
    go_ret
    exact ⟨rfl, Hb1.out⟩
/-- TapeJoins, whole. -/
theorem tjoins_walk {a : Nat → Addr} {Env : World → Prop} {D : Value → Tp → Fam} (hT : TapeAll a Env D) (v : Value) (T : List ByteArray) (b : ByteArray) (w : World) (hE : Env w) (hA : Row1 strV w v T) :
    Calls Tryd.prog 4 #[v, .string b] w fun r w' => r = .returned (.bool true) ∧ Below w.heap.size w w' := by
  have hA' := hA
  obtain ⟨ta, tc, rfl, -⟩ := hA'
  by_cases hl : 20 < T.length
  · exact tjoins_early hT ta tc T b w hE (.inl hl)
  · by_cases hn : 500 < b.size
    · exact tjoins_early hT ta tc T b w hE (.inr ⟨by omega, hn⟩)
    · exact tjoins_main hT ta tc T b w hE hA (by omega) (by omega)
end Go.Proofs.YtledipmimfphdaaDoor
