/-
  Contract of the writer's Text over this dump.
  Contract of frame.write over this dump.
  Contracts of frame.unsealed, Encode over this dump.
  What a number that is read comes to. No program, no walk.
  The errors that packages sign and delta meet: what their variables hold, and an error by its number.
-/
import Derived.Test.YtlmampcdflbifaeDoorJoin04
import Derived.Test.YtlmampcdflbifaeDoorJoin06
import Derived.Test.YtlmampcdflbifaeDoorJoin02
import Derived.BigQuiet
import Derived.Deep.QuietTactic
import Derived.Deep.RegionHeld3
import Derived.Laws.Cover1
import Derived.Test.YtlmampcdflbifaeDoorJoin01
namespace Go.Proofs.YtlmampcdflbifaeDoor
open Go.RowKit

theorem WrAt.moreStr {p : Nat} {wr w2 : World} {cur : List UInt8} {v v2 : Value} (h : WrAt p wr cur v) (s : ByteArray) (hb2 : Below (p + 1) wr w2)
    (hown : w2.ownsRow (p + 1) 5 1 v2 (cur.length + s.size) (cur.map cellOf ++ Go.Lib.strCells s)) : WrAt p (w2.setCell ⟨p, 0, none⟩ v2) (cur ++ s.data.toList) v2 := by
  have k0 := (hb2.cell (p := ⟨p, 0, none⟩) (by simp)).trans h.c0
  have k1 := (hb2.cell (p := ⟨p, 1, none⟩) (by simp)).trans h.c1
  have e0 := (hb2.frozen (p := ⟨p, 0, none⟩) (by simp)).trans h.f0
  have e1 := (hb2.frozen (p := ⟨p, 1, none⟩) (by simp)).trans h.f1
  have hz := hb2.size
  have hl := h.lt
  refine ⟨World.cell?_setCell_same _ _ _ k0, by rw [World.cell?_setCell_other _ _ _ _ (by simp)]; exact k1, by simpa using e0, by simpa using e1, by simp; omega, ?_⟩
  have := ownsRow_setCell_below hown (a := ⟨p, 0, none⟩) (by simp) v2
  have e : (cur ++ s.data.toList).length = cur.length + s.size := by rw [List.length_append, Array.length_toList]; rfl
  rw [e, List.map_append]
  exact this

theorem KeptT.stepS {p n : Nat} {wr w2 : World} {v v2 : Value} {xs : List Value} (own : wr.ownsRow (p + 1) 5 1 v n xs) (hg : wr.grownBy w2 v.ownBlock) : KeptT p wr (w2.setCell ⟨p, 0, none⟩ v2) := by
  intro g c t f hp ht h
  have hlt : g < wr.heap.size := (Array.getElem?_eq_some_iff.1 h).1
  have hne : some g ≠ v.ownBlock := by
    intro e
    rcases own.2 with ⟨rfl, _⟩ | ⟨g', cap, cur, rfl, _, hh, _⟩
    · cases e
    · simp only [Value.ownBlock, Option.some.injEq] at e
      subst e
      rw [hh] at h
      cases h
      exact ht rfl
  rw [Below.heap_setCell _ _ _ _ hp, hg.block g hlt hne]
  exact h

set_option maxHeartbeats 400000 in
set_option maxRecDepth 100000 in
theorem text_ok4 (p : Nat) (s : ByteArray) (v : Value) (bs : List UInt8) (w : World) (hs : s.size ≤ 20000) (hb : bs.length ≤ 900000) (h : WrAt p w bs v) :
    Calls Tryd.prog 18 #[.pointer (some ⟨p, 0, none⟩), .string s] w fun e w' => e = .returned (.tuple #[]) ∧ (∃ v', WrAt p w' (bs ++ Go.Num.enc s.size ++ s.data.toList) v') ∧ Below p w w' ∧ KeptT p w w' := by
  obtain ⟨i0, hi, hz0, hz1, hz2⟩ := info_parts Tryd.info5
  have H := hide h
  clear h
  have hs' : (s.size : Int) ≤ 20000 := by omega
  have hlen := Go.Num.enc_length_le s.size
  go_enter Tryd.func18, Tryd.ntmps18
  go_wp2_with fail
  refine (num_ok4 p s.size bs v _ (by omega) (by omega) H.out).mono ?_
  rintro e w1 ⟨rfl, ⟨v1, h1⟩, hb1, hk1⟩
  have Hk1 := hide hk1
  clear hk1
  have H1 := hide h1
  have Hb1 := hide hb1
  generalize hcur : bs ++ Go.Num.enc s.size = cur at h1 H1
  have hcl : cur.length ≤ 900006 := by rw [← hcur]; simp; omega
  have Hcur := hide hcur
  clear hcur H hb1
  obtain ⟨c0, c1, f0, f1, lt, own⟩ := h1
  go_wp2_with (at_builtin; refine Go.Lib.wpList_append_own_string _ rfl (.tmp 23) (.tmp 24) 32 9 rfl (p + 1) 5 i0 Tryd.underlying32 Tryd.underlying9 hi hz0 hz1 hz2 v1 cur.length (cur.map cellOf) rfl ?own s rfl ?b1 ?b2 ?b3 ?next)
  case own => exact own
  case b1 => unfold maxLen; omega
  case b2 => omega
  case b3 => omega
  case next =>
    intro v2 w2 hown hgrow _
    have hb2 : Below (p + 1) w1 w2 := (Below.refl _ _).grown hgrow (by omega) (fun k hk => (own.lt k hk).1)
    have hfin := H1.out.moreStr s hb2 hown
    have k0 := (hb2.cell (p := ⟨p, 0, none⟩) (by simp)).trans c0
    have e0 := (hb2.frozen (p := ⟨p, 0, none⟩) (by simp)).trans f0
    have Hk2 := hide (Hk1.out.trans (KeptT.stepS (v2 := v2) own hgrow))
    rcases own_forms hown with ⟨rfl, _⟩ | ⟨g, c', rfl⟩
    all_goals
      have Hfin := hide hfin
      have Hb2 := hide hb2
      clear hfin hb2 hown hgrow
      go_wp2
      go_end0
      refine ⟨rfl, ?_, (Hb1.out.trans (Hb2.out.mono (by omega))).setCell (by simp) _, Hk2.out⟩
      first | rw [← List.append_assoc, Hcur.out] | rw [Hcur.out]
      exact ⟨_, Hfin.out⟩

theorem text_ok (p : Nat) (s : ByteArray) (v : Value) (bs : List UInt8) (w : World) (hs : s.size ≤ 20000) (hb : bs.length ≤ 900000) (h : WrAt p w bs v) :
    Calls Tryd.prog 18 #[.pointer (some ⟨p, 0, none⟩), .string s] w fun e w' => e = .returned (.tuple #[]) ∧ (∃ v', WrAt p w' (bs ++ Go.Num.enc s.size ++ s.data.toList) v') ∧ Below p w w' :=
  (text_ok4 p s v bs w hs hb h).mono fun _ _ ⟨h1, h2, h3, _⟩ => ⟨h1, h2, h3⟩
end Go.Proofs.YtlmampcdflbifaeDoor

namespace Go.Proofs.YtlmampcdflbifaeDoor
open Go.RowKit
open Go.Frame (Fr frErr bodyF)

theorem FrAt.kept {q p : Nat} {w w' : World} {f : Fr} (h : FrAt q w f) (hb : Below p w w') (hq : q < p) : FrAt q w' f := h.below hb hq

set_option maxHeartbeats 2000000 in
set_option maxRecDepth 100000 in
theorem fwrite_ok (f : Fr) (w : World) (hf : frErr f = 0) : Calls Tryd.prog 10 #[frV f] w fun r w' => r = .returned (.tuple #[.string (str (bodyF f)), .nilIface]) ∧ Below w.heap.size w w' := by
  obtain ⟨hk, he, hq, hd⟩ := Go.Frame.frErr_zero hf
  obtain ⟨k, e, q, d⟩ := f
  simp only at hk he hq hd
  obtain ⟨e, rfl⟩ := Int.eq_ofNat_of_zero_le he.1
  obtain ⟨q, rfl⟩ := Int.eq_ofNat_of_zero_le hq.1
  have hb : Below w.heap.size w (w.alloc (.cells #[.int .u8 k.toNat, .int .i64 (e : Int), .int .i64 (q : Int), .string d] 25)) := (Below.refl _ _).alloc (Nat.le_refl _) _
  have ha : FrAt w.heap.size (w.alloc (.cells #[.int .u8 k.toNat, .int .i64 (e : Int), .int .i64 (q : Int), .string d] 25)) ⟨k, (e : Int), (q : Int), d⟩ := FrAt.fresh w ⟨k, (e : Int), (q : Int), d⟩ _
  have hz : (w.alloc (.cells #[.int .u8 k.toNat, .int .i64 (e : Int), .int .i64 (q : Int), .string d] 25)).heap.size = w.heap.size + 1 := by simp
  have Hb := hide hb
  have Ha := hide ha
  have Hz := hide hz
  have le := Go.Num.enc_length_le e
  have lq := Go.Num.enc_length_le q
  have Hbody : Hid (bodyF ⟨k, (e : Int), (q : Int), d⟩ = [] ++ [k] ++ Go.Num.enc e ++ Go.Num.enc q ++ Go.Num.enc d.size ++ d.data.toList) := by
    show _ = _
    simp [bodyF]
  have hsz : ((str (bodyF ⟨k, (e : Int), (q : Int), d⟩)).size : Int) ≤ 40000 := by
    have h3 := Go.Num.enc_length_le d.size
    rw [str_len, Hbody.out]
    simp
    omega
  clear hb ha hz hf hk
  simp only [frV]
  go_enter Tryd.func10, Tryd.ntmps10
  go_wp2_with fail
  generalize w.alloc (.cells #[.int .u8 k.toNat, .int .i64 (e : Int), .int .i64 (q : Int), .string d] 25) = w0 at *
  refine (new_ok _).mono ?_
  rintro r w1 ⟨rfl, h1⟩
  have hf1 := WrAt.fresh w0
  have hb1 : Below w0.heap.size w0 (w0.alloc (.cells #[.slice none 0 0, .nilIface] 64)) := (Below.refl _ _).alloc (Nat.le_refl _) _
  rw [h1] at hf1 hb1
  have hlt : w.heap.size < w0.heap.size := by rw [Hz.out]; omega
  have Hlt := hide hlt
  have hq1 := Ha.out.below hb1 hlt
  have Hf1 := hide hf1
  have Hb1 := hide (bthen Hb.out hb1)
  have Hq1 := hide hq1
  clear hf1 hb1 h1 Ha Hb hlt
  obtain ⟨c0, c1, c2, c3, _, _, _, _, _⟩ := hq1
  simp only at c0 c1 c2 c3
  go_wp2_with fail
  refine (byteW_ok w0.heap.size k [] _ _ (by simp) Hf1.out).mono ?_
  rintro r w2 ⟨rfl, ⟨v2, h2⟩, hb2, _⟩
  have H2 := hide h2
  have hq2 := Hq1.out.below hb2 Hlt.out
  have Hb2 := hide (Hb1.out.trans (hb2.mono (Nat.le_of_lt Hlt.out)))
  have Hq2 := hide hq2
  clear h2 hb2 c0 c1 c2 c3 Hq1 Hb1 Hf1
  obtain ⟨c0, c1, c2, c3, _, _, _, _, _⟩ := hq2
  simp only at c0 c1 c2 c3
  go_wp2_with fail
  refine (num_ok w0.heap.size e _ v2 _ (by omega) (by simp) H2.out).mono ?_
  rintro r w3 ⟨rfl, ⟨v3, h3⟩, hb3⟩
  have H3 := hide h3
  have hq3 := Hq2.out.below hb3 Hlt.out
  have Hb3 := hide (Hb2.out.trans (hb3.mono (Nat.le_of_lt Hlt.out)))
  have Hq3 := hide hq3
  clear h3 hb3 c0 c1 c2 c3 Hq2 Hb2 H2
  obtain ⟨c0, c1, c2, c3, _, _, _, _, _⟩ := hq3
  simp only at c0 c1 c2 c3
  go_wp2_with fail
  refine (num_ok w0.heap.size q _ v3 _ (by omega) (by simp; omega) H3.out).mono ?_
  rintro r w4 ⟨rfl, ⟨v4, h4⟩, hb4⟩
  have H4 := hide h4
  have hq4 := Hq3.out.below hb4 Hlt.out
  have Hb4 := hide (Hb3.out.trans (hb4.mono (Nat.le_of_lt Hlt.out)))
  clear h4 hb4 c0 c1 c2 c3 Hq3 Hb3 H3
  obtain ⟨c0, c1, c2, c3, _, _, _, _, _⟩ := hq4
  simp only at c0 c1 c2 c3
  go_wp2_with fail
  refine (text_ok w0.heap.size d v4 _ _ hd (by simp; omega) H4.out).mono ?_
  rintro r w5 ⟨rfl, ⟨v5, h5⟩, hb5⟩
  rw [← Hbody.out] at h5
  have Hb5 := hide (Hb4.out.trans (hb5.mono (Nat.le_of_lt Hlt.out)))
  have HD := hide (done_ok _ _ _ w5 h5)
  clear h5 hb5 c0 c1 c2 c3 Hb4 H4 Hbody
  generalize hE : str (bodyF ⟨k, (e : Int), (q : Int), d⟩) = E at *
  have HX := hide hE
  clear hE
  go_wp2_with fail
  refine (HD.out).mono ?_
  rintro r w6 ⟨rfl, rfl⟩
  go_wp2
  go_ret2
  exact ⟨by rw [HX.out]; rfl, Hb5.out⟩
end Go.Proofs.YtlmampcdflbifaeDoor

namespace Go.Proofs.YtlmampcdflbifaeDoor
open Go.RowKit
open Go.Frame (Fr frErr low4 bodyF encF encOut)

set_option maxHeartbeats 1000000 in
set_option maxRecDepth 100000 in
theorem unsealed_short (e : FrVs) (s : ByteArray) (w : World) (hs : s.size < 4) (hE : FrEr e w) :
    Calls Tryd.prog 12 #[.string s] w fun r w' => r = .returned (.tuple #[.string ⟨#[]⟩, .iface e.tT e.xT]) ∧ Below w.heap.size w w' := by
  have hs' : (s.size : Int) < 4 := by omega
  have hw4 : IntKind.i64.wrap ((s.size : Int) - 4) = (s.size : Int) - 4 := iwrap_id _ (by omega) (by omega)
  have hn : (s.size : Int) - 4 < 0 := by omega
  have hT := hE.text
  clear hE hs
  go_enter Tryd.func12, Tryd.ntmps12
  go_wp2_with fail
  go_quiet (fail)
  go_wp2_with fail
  go_ret2
  exact ⟨rfl, (Below.refl _ _).trans ⟨rfl, rfl, rfl, Nat.le_refl _, fun _ _ => rfl⟩⟩

set_option maxHeartbeats 1000000 in
set_option maxRecDepth 100000 in
theorem unsealed_sum (e : FrVs) (s : ByteArray) (w : World) (hs : 4 ≤ s.size) (hm : s.size ≤ 1000000) (hE : FrEr e w) (hne : low4 (Go.Crc.crc 0 (s.data.toList.take (s.data.toList.length - 4))) ≠ s.data.toList.drop (s.data.toList.length - 4)) :
    Calls Tryd.prog 12 #[.string s] w fun r w' => r = .returned (.tuple #[.string ⟨#[]⟩, .iface e.tS e.xS]) ∧ Below w.heap.size w w' := by
  have HS := hide (fun W => seal_ok (s.extract 0 (s.size - 4)) W (by rw [ByteArray.size_extract]; omega))
  rw [body_list] at HS
  have hcmp : ((str (low4 (Go.Crc.crc 0 (s.data.toList.take (s.data.toList.length - 4))))).toList == (s.extract (s.size - 4) s.size).toList) = false := by
    rw [eqb_list, strL, tail_list]; simpa using hne
  have hs' : (4 : Int) ≤ s.size := by omega
  have hm' : (s.size : Int) ≤ 1000000 := by omega
  have hw4 : IntKind.i64.wrap ((s.size : Int) - 4) = (s.size : Int) - 4 := iwrap_id _ (by omega) (by omega)
  have ht4 : ((s.size : Int) - 4).toNat = s.size - 4 := by omega
  have i0 : (0 : Int) ≤ (s.size : Int) - 4 := by omega
  have i1 : (s.size : Int) - 4 ≤ (s.size : Int) := by omega
  have Hb : Hid (Below w.heap.size w w) := Below.refl _ _
  have HE := hide hE
  clear hs hm hne hE
  generalize str (low4 (Go.Crc.crc 0 (s.data.toList.take (s.data.toList.length - 4)))) = L at *
  go_enter Tryd.func12, Tryd.ntmps12
  go_wp2_with fail
  go_region_held3 (fun w' => Hid (Below w.heap.size w w')) (first | exact Hb3 | exact Hb.out.drew)
    (first
      | (go_at_call 11; refine (HS.out _).mono ?_; rintro r w3 ⟨rfl, hb3⟩; have Hb3 := hide (bthen Hb.out.drew hb3); clear hb3))
  all_goals
    have hS := (HE.out.below Hb3.out).sum
    go_wp2_with fail
    go_quiet (fail)
    go_wp2_with fail
    go_ret2
    exact ⟨rfl, Hb3.out.trans ⟨rfl, rfl, rfl, Nat.le_refl _, fun _ _ => rfl⟩⟩

set_option maxHeartbeats 1000000 in
set_option maxRecDepth 100000 in
theorem unsealed_ok (s : ByteArray) (w : World) (hs : 4 ≤ s.size) (hm : s.size ≤ 1000000) (heq : low4 (Go.Crc.crc 0 (s.data.toList.take (s.data.toList.length - 4))) = s.data.toList.drop (s.data.toList.length - 4)) :
    Calls Tryd.prog 12 #[.string s] w fun r w' => r = .returned (.tuple #[.string (s.extract 0 (s.size - 4)), .nilIface]) ∧ Below w.heap.size w w' := by
  have HS := hide (fun W => seal_ok (s.extract 0 (s.size - 4)) W (by rw [ByteArray.size_extract]; omega))
  rw [body_list] at HS
  have hcmp : ((str (low4 (Go.Crc.crc 0 (s.data.toList.take (s.data.toList.length - 4))))).toList == (s.extract (s.size - 4) s.size).toList) = true := by
    rw [eqb_list, strL, tail_list]; simpa using heq
  have hs' : (4 : Int) ≤ s.size := by omega
  have hm' : (s.size : Int) ≤ 1000000 := by omega
  have hw4 : IntKind.i64.wrap ((s.size : Int) - 4) = (s.size : Int) - 4 := iwrap_id _ (by omega) (by omega)
  have ht4 : ((s.size : Int) - 4).toNat = s.size - 4 := by omega
  have i0 : (0 : Int) ≤ (s.size : Int) - 4 := by omega
  have i1 : (s.size : Int) - 4 ≤ (s.size : Int) := by omega
  have Hb : Hid (Below w.heap.size w w) := Below.refl _ _
  clear hs hm heq
  generalize str (low4 (Go.Crc.crc 0 (s.data.toList.take (s.data.toList.length - 4)))) = L at *
  go_enter Tryd.func12, Tryd.ntmps12
  go_wp2_with fail
  go_region_held3 (fun w' => Hid (Below w.heap.size w w')) (first | exact Hb3 | exact Hb.out.drew)
    (first
      | (go_at_call 11; refine (HS.out _).mono ?_; rintro r w3 ⟨rfl, hb3⟩; have Hb3 := hide (bthen Hb.out.drew hb3); clear hb3))
  all_goals
    go_wp2_with fail
    go_ret2
    exact ⟨rfl, Hb3.out⟩

set_option maxHeartbeats 1000000 in
set_option maxRecDepth 100000 in
theorem fencode_ok (v : FrVs) (f : Fr) (w : World) (hs : f.data.size ≤ 1000000) (hE : FrEr v w) :
    Calls Tryd.prog 6 #[frV f] w fun r w' => r = .returned (.tuple #[.string (str (encOut f)), errG v (frErr f)]) ∧ Below w.heap.size w w' := by
  have HC := hide (fun W (h : FrEr v W) => fcheck_ok v f W hs h)
  have HW := hide (fun W (h : frErr f = 0) => fwrite_ok f W h)
  have Ho : Hid (encOut f = if frErr f = 0 then encF f else []) := rfl
  have hb : Below w.heap.size w (w.alloc (.cells #[.int .u8 f.kind.toNat, .int .i64 f.epoch, .int .i64 f.seq, .string f.data] 25)) := (Below.refl _ _).alloc (Nat.le_refl _) _
  have ha : FrAt w.heap.size (w.alloc (.cells #[.int .u8 f.kind.toNat, .int .i64 f.epoch, .int .i64 f.seq, .string f.data] 25)) f := FrAt.fresh w f _
  have Hb := hide hb
  have Ha := hide ha
  have HE := hide hE
  clear hE
  by_cases h0 : frErr f = 0
  · have Ho2 := hide (Ho.out.trans (if_pos h0))
    have hg : errG v (frErr f) = .nilIface := by rw [h0]; rfl
    rw [hg] at HC
    have Hg := hide hg
    have hbl : (bodyF f).length ≤ 20019 := by
      obtain ⟨_, _, _, hd⟩ := Go.Frame.frErr_zero h0
      have e1 := Go.Num.enc_length_le f.epoch.toNat
      have e2 := Go.Num.enc_length_le f.seq.toNat
      have e3 := Go.Num.enc_length_le f.data.size
      simp only [bodyF, List.length_cons, List.length_append, lenL]
      omega
    have HS := hide (fun W => seal_ok (str (bodyF f)) W (by rw [str_len]; omega))
    rw [strL] at HS
    have Hen : Hid (str (bodyF f) ++ str (low4 (Go.Crc.crc 0 (bodyF f))) = str (encF f)) := str_app _ _
    have p1 := fun W => run_string_add_sum (P := Tryd.prog) W (str (bodyF f)) (str (low4 (Go.Crc.crc 0 (bodyF f)))) (by rw [str_len, str_len, Go.Frame.low4_length]; omega)
    have Hfin : Hid (str (bodyF f) ++ str (low4 (Go.Crc.crc 0 (bodyF f))) = str (encOut f)) := by show _ = _; rw [Ho2.out]; exact Hen.out
    have hW : ∀ W, Calls Tryd.prog 10 #[frV f] W fun r w' => r = .returned (.tuple #[.string (str (bodyF f)), .nilIface]) ∧ Below W.heap.size W w' := fun W => HW.out W h0
    have HW' := hide hW
    clear h0 hg Ho Ho2 hs Hen hW HW hbl hb ha
    generalize str (low4 (Go.Crc.crc 0 (bodyF f))) = L at *
    generalize str (bodyF f) = B at *
    simp only [frV] at HC HW' ⊢
    go_enter Tryd.func6, Tryd.ntmps6
    go_wp2_with fail
    generalize w.alloc (.cells #[.int .u8 f.kind.toNat, .int .i64 f.epoch, .int .i64 f.seq, .string f.data] 25) = w0 at *
    refine (HC.out _ (HE.out.below Hb.out)).mono ?_
    rintro r w1 ⟨rfl, hb1⟩
    have hq1 := Ha.out.below hb1 Ha.out.lt
    have Hb1 := hide (bthen Hb.out hb1)
    clear hb1 Ha Hb HC
    obtain ⟨c0, c1, c2, c3, _, _, _, _, _⟩ := hq1
    go_wp2_with fail
    refine (HW'.out _).mono ?_
    rintro r w2 ⟨rfl, hb2⟩
    have Hb2 := hide (bthen Hb1.out hb2)
    clear hb2 Hb1 c0 c1 c2 c3
    go_wp2_with fail
    refine (HS.out _).mono ?_
    rintro r w3 ⟨rfl, hb3⟩
    have Hb3 := hide (bthen Hb2.out hb3)
    clear hb3 Hb2
    go_wp2_with fail
    go_ret2
    exact ⟨by rw [← Hfin.out, Hg.out]; rfl, Hb3.out⟩
  · have Ho2 := hide (Ho.out.trans (if_neg h0))
    obtain ⟨t, x, ev⟩ := errG_form v _ h0
    have Hev := hide ev
    simp only [frV] at HC ⊢
    rw [ev] at HC
    clear h0 Ho hs hb ha ev HW
    go_enter Tryd.func6, Tryd.ntmps6
    go_wp2_with fail
    generalize w.alloc (.cells #[.int .u8 f.kind.toNat, .int .i64 f.epoch, .int .i64 f.seq, .string f.data] 25) = w0 at *
    refine (HC.out _ (HE.out.below Hb.out)).mono ?_
    rintro r w1 ⟨rfl, hb1⟩
    have Hb1 := hide (bthen Hb.out hb1)
    clear hb1 Ha Hb HC
    go_wp2_with fail
    go_ret2
    exact ⟨by rw [Ho2.out, Hev.out]; rfl, Hb1.out⟩
end Go.Proofs.YtlmampcdflbifaeDoor

namespace Go.Proofs.YtlmampcdflbifaeDoor
open Go.RowKit

theorem dec_num {s : List UInt8} {n k : Nat} (h : Go.Num.dec s = .ok (n, k)) : n ≤ 1099511627776 ∧ 1 ≤ k ∧ k ≤ s.length := by
  have hs : ∀ (f : Nat) (l : List UInt8) (acc i n j : Nat), Go.Num.scan f l acc i = some (n, j) → j < i + l.length := by
    intro f
    induction f with
    | zero => intro l acc i n j h; cases h
    | succ f ih =>
      intro l acc i n j h
      cases l with
      | nil => cases h
      | cons b r =>
        rw [Go.Num.scan] at h
        split at h
        · cases h; simp
        · have := ih _ _ _ _ _ h; simp; omega
  unfold Go.Num.dec at h
  split at h
  · cases h
  · rename_i n' i hsc
    split at h
    · cases h
    · split at h
      · cases h
      · cases h
        have := hs _ _ _ _ _ _ hsc
        omega
end Go.Proofs.YtlmampcdflbifaeDoor

namespace Go.Proofs.YtlmampcdflbifaeDoor
open Go.RowKit

/-- The three errors that are met: what their variables hold. -/
structure EV where
  tT : TypeId
  xT : Value
  tB : TypeId
  xB : Value
  tF : TypeId
  xF : Value
/-- An error by its number. -/
def errV (e : EV) : Nat → Value
  | 0 => .nilIface
  | 1 => .iface e.tT e.xT
  | 2 => .iface e.tB e.xB
  | _ => .iface e.tF e.xF
theorem errV_form (e : EV) (c : Nat) (h : c ≠ 0) : ∃ t x, errV e c = .iface t x := by
  match c, h with
  | 1, _ => exact ⟨_, _, rfl⟩
  | 2, _ => exact ⟨_, _, rfl⟩
  | c + 3, _ => exact ⟨_, _, rfl⟩
end Go.Proofs.YtlmampcdflbifaeDoor
