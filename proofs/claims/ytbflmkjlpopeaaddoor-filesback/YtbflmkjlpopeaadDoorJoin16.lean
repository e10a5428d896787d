/-
  Package files meets what the laws ask of Put, List and Plan where it is asked no more than whether there is an error.
  Contracts of the writer's methods over this dump.
  Contracts of Done, NewWriter over this dump.
  Contract of the writer's Text over this dump.
  Contracts of files.write, Text over this dump.
-/
import Derived.Test.YtbflmkjlpopeaadDoorJoin05
import Derived.Test.YtbflmkjlpopeaadDoorJoin11
import Derived.Test.YtbflmkjlpopeaadDoorJoin12
import Derived.Test.YtbflmkjlpopeaadDoorFPlans
import Derived.Test.YtbflmkjlpopeaadDoorJoin01
import Derived.Test.YtbflmkjlpopeaadDoorJoin04
import Derived.Lib.AppendStr
import Derived.Laws.BytesArg
import Derived.Test.YtbflmkjlpopeaadDoorLChecks
namespace Go.Proofs.YtbflmkjlpopeaadDoor
open Go.RowKit
open Go.Files (Well keyL planM faultF)

theorem filesAll (e : FV) (Env : World → Prop) (hE : ∀ w, Env w → FEr e w) : FilesAll Env where
  put := fun v l a d W hv hf ha _ hS => (put_ok v l a d e W hv hf.1 (fun x hx => (hf.2 x hx).1) ha (hE W hS)).mono fun _ _ ⟨⟨u, x, h, hu, hx⟩, hb⟩ => ⟨⟨u, x, h, hu, hx.nilOr⟩, hb⟩
  list := fun v l W hv hf hS => (list_ok v l e W hv hf (hE W hS)).mono fun _ _ ⟨⟨u, x, h, hu, hx⟩, hb⟩ => ⟨⟨u, x, h, hu, hx.nilOr⟩, hb⟩
theorem planOut_well {F T : List Go.Files.Ln} (hF : Well (F.map keyL)) (hT : Well (T.map keyL)) : planOut F T = (planM F T, 0, -1) := by
  unfold planOut
  rw [if_pos (Go.Files.faultF_zero.2 hF), if_pos (Go.Files.faultF_zero.2 hT)]
theorem linesPlan (e : FV) (Env : World → Prop) (hE : ∀ w, Env w → FEr e w) : LinesPlan Env where
  plan := fun u v F T W hu hv hwF hwT hfF hfT hS => by
    have h1 := hwF.len
    have h2 := hwT.len
    rw [List.length_map] at h1 h2
    have h := plan_ok u v F T e W hu hv (by omega) (by omega) (fun x hx => by have := (hfF x hx).1; omega) (fun x hx => by have := (hfT x hx).1; omega) (hE W hS)
    rw [planOut_well hwF hwT] at h
    refine h.mono ?_
    rintro r w' ⟨⟨p, x, rfl, hp, hx⟩, hb⟩
    obtain rfl := hx.nilOr.none rfl
    exact ⟨⟨p, rfl, hp⟩, hb⟩
end Go.Proofs.YtbflmkjlpopeaadDoor

namespace Go.Proofs.YtbflmkjlpopeaadDoor
open Go.RowKit

theorem Tryd.info5 : (Tryd.prog.info? 5).map (fun i => (i.zero, i.size, i.bytes)) = some (some (.int .u8 0), 1, 1) := by kernel_rfl

def cellOf (b : UInt8) : Value := .int .u8 b.toNat

/-- The writer at block p, with no error, holds the bytes bs. -/
structure WrAt (p : Nat) (w : World) (bs : List UInt8) (v : Value) : Prop where
  c0 : w.cell? ⟨p, 0, none⟩ = some v
  c1 : w.cell? ⟨p, 1, none⟩ = some .nilIface
  f0 : w.frozen? ⟨p, 0, none⟩ = false
  f1 : w.frozen? ⟨p, 1, none⟩ = false
  lt : p < w.heap.size
  own : w.ownsRow (p + 1) 5 1 v bs.length (bs.map cellOf)

/-- A byte more: the new slice stored into the writer. -/
theorem WrAt.more {p : Nat} {wr w2 : World} {cur : List UInt8} {v v2 : Value} {x : Int} (h : WrAt p wr cur v) (b : UInt8) (hx : x = b.toNat) (hb2 : Below (p + 1) wr w2)
    (hown : w2.ownsRow (p + 1) 5 1 v2 (cur.length + 1) (cur.map cellOf ++ [.int .u8 x])) : WrAt p (w2.setCell ⟨p, 0, none⟩ v2) (cur ++ [b]) v2 := by
  have k0 := (hb2.cell (p := ⟨p, 0, none⟩) (by simp)).trans h.c0
  have k1 := (hb2.cell (p := ⟨p, 1, none⟩) (by simp)).trans h.c1
  have e0 := (hb2.frozen (p := ⟨p, 0, none⟩) (by simp)).trans h.f0
  have e1 := (hb2.frozen (p := ⟨p, 1, none⟩) (by simp)).trans h.f1
  have hz := hb2.size
  have hl := h.lt
  refine ⟨World.cell?_setCell_same _ _ _ k0, by rw [World.cell?_setCell_other _ _ _ _ (by simp)]; exact k1, by simpa using e0, by simpa using e1, by simp; omega, ?_⟩
  subst hx
  have := ownsRow_setCell_below hown (a := ⟨p, 0, none⟩) (by simp) v2
  simpa [cellOf] using this

/-- Every block but p that holds no bytes stays as it was. -/
def KeptT (p : Nat) (w w' : World) : Prop := ∀ g c t f, g ≠ p → t ≠ 5 → w.heap[g]? = some (.cells c t f) → w'.heap[g]? = some (.cells c t f)
theorem KeptT.refl (p : Nat) (w : World) : KeptT p w w := fun _ _ _ _ _ _ h => h
theorem KeptT.trans {p : Nat} {a b c : World} (h : KeptT p a b) (k : KeptT p b c) : KeptT p a c := fun g x t f h1 h2 h3 => k g x t f h1 h2 (h g x t f h1 h2 h3)
theorem KeptT.step {p n : Nat} {wr w2 : World} {v v2 : Value} {xs : List Value} {o : Obj} (own : wr.ownsRow (p + 1) 5 1 v n xs) (hg : (wr.alloc o).grownBy w2 v.ownBlock) : KeptT p wr (w2.setCell ⟨p, 0, none⟩ v2) := by
  intro g c t f hp ht h
  have hlt : g < wr.heap.size := (Array.getElem?_eq_some_iff.1 h).1
  have hne : some g ≠ v.ownBlock := by
    intro e
    rcases own.2 with ⟨rfl, _⟩ | ⟨g', cap, cur, rfl, _, hh, _⟩
    · cases e
    · simp only [Value.ownBlock, Option.some.injEq] at e
      subst e
      rw [hh] at h
      cases h
      exact ht rfl
  rw [Below.heap_setCell _ _ _ _ hp, hg.block g (by simp; omega) hne, Below.heap_alloc _ _ _ hlt]
  exact h

set_option maxHeartbeats 400000 in
set_option maxRecDepth 100000 in
theorem num_ok4 (p n : Nat) (bs : List UInt8) (v : Value) (w : World) (hn : n ≤ 1099511627776) (hb : bs.length ≤ 1000000) (h : WrAt p w bs v) :
    Calls Tryd.prog 75 #[.pointer (some ⟨p, 0, none⟩), .int .i64 n] w fun e w' => e = .returned (.tuple #[]) ∧ (∃ v', WrAt p w' (bs ++ Go.Num.enc n) v') ∧ Below p w w' ∧ KeptT p w w' := by
  obtain ⟨i0, hi, hz0, hz1, hz2⟩ := info_parts Tryd.info5
  have HW : Hid (WrAt p w bs v) := h
  obtain ⟨c0, c1, f0, f1, lt, own⟩ := h
  have hn0 : 0 ≤ (n : Int) := by omega
  have hn1 : (n : Int) ≤ 1099511627776 := by omega
  have hd0 : decide ((n : Int) < 0) = false := by simp
  have hd1 : decide ((1099511627776 : Int) < n) = false := by simp; omega
  have hlen := Go.Num.enc_length_le n
  go_enter Tryd.func75, Tryd.ntmps75
  go_wp2_with fail
  go_loopw [1] (fun t wr => ∃ (k m : Nat) (cur : List UInt8) (v' : Value), t = .int .i64 m ∧ m ≤ 1099511627776 ∧ m < 128 ^ (k + 1) ∧ Hid (cur ++ Go.Num.encF k m = bs ++ Go.Num.enc n) ∧ WrAt p wr cur v' ∧ Below p w wr ∧ Hid (KeptT p w wr)) (fun t _ => (intOf t).toNat)
  case atStart => exact ⟨5, n, bs, v, rfl, hn, by omega, rfl, HW.out, Below.refl _ _, KeptT.refl _ _⟩
  case round =>
    obtain ⟨k, m, cur, v', rfl, hm, hmk, He, hat, hbel, Hkt⟩ := hrel
    have HW' : Hid (WrAt p wr cur v') := hat
    have Hbel : Hid (Below p w wr) := hbel
    have hcur : cur.length ≤ 1000006 := by
      have := congrArg List.length He.out
      simp at this; omega
    clear hbel HW c0 c1 f0 f1 lt own
    obtain ⟨c0, c1, f0, f1, lt, own⟩ := hat
    by_cases hlt : 128 ≤ m
    · have hlt' : (128 : Int) ≤ m := by omega
      have hm1 : (m : Int) ≤ 1099511627776 := by omega
      go_wp2_with (at_builtin; refine wpList_append_own _ rfl (.tmp 24) (.tmp 29) 72 rfl (p + 1) 5 i0 (.int .u8 0) 1 1 Tryd.underlying72 hi hz0 hz1 hz2 rfl (by decide) v' cur.length (cur.map cellOf) rfl ?own ⟨wr.heap.size, 0, none⟩ 1 1 [.int .u8 ((m : Int) % 128 + 128)] rfl rfl ?c1 ?c2 ?b1 ?b2 ?b3 ?next)
      case own => exact own.alloc _
      case c1 => intro j u hj; match j, hj with | 0, hj => simp at hj; subst hj; simp [Addr.add]
      case c2 => intro u hu; simp at hu; subst hu; rfl
      case b1 => unfold maxLen; omega
      case b2 => omega
      case b3 => simp; omega
      case next =>
        intro v2 w2 hown hgrow _
        have hb2 : Below (p + 1) wr w2 := ((Below.refl _ _).alloc (by omega) _).grown hgrow (by simp; omega) (fun k hk => (own.lt k hk).1)
        have hfin := HW'.out.more (UInt8.ofNat (m % 128 + 128)) (by rw [Go.Num.toNat_ofNat _ (by omega)]; simp) hb2 hown
        have k0 := (hb2.cell (p := ⟨p, 0, none⟩) (by simp)).trans c0
        have e0 := (hb2.frozen (p := ⟨p, 0, none⟩) (by simp)).trans f0
        have Hk2 := hide (Hkt.out.trans (KeptT.step (v2 := v2) own hgrow))
        obtain ⟨g, c', rfl⟩ := own_form hown
        have Hfin := hide hfin
        have Hb2 := hide hb2
        clear hfin hb2 hown hgrow
        go_wp2
        go_roundw
        case rel =>
          match k with
          | 0 => simp at hmk; omega
          | k + 1 =>
            refine ⟨k, m / 128, _, _, by go_num, by omega, ?_, ?_, Hfin.out, (Hbel.out.trans (Hb2.out.mono (by omega))).setCell (by simp) _, Hk2.out⟩
            · rw [Nat.div_lt_iff_lt_mul (by omega)]
              rw [Nat.pow_succ] at hmk; exact hmk
            · have := He.out
              rw [Go.Num.encF_big _ _ hlt] at this
              simpa [Hid] using this
        case measure => simp [intOf]; omega
    · have hm1 : (m : Int) < 128 := by omega
      go_wp2_with (at_builtin; refine wpList_append_own _ rfl (.tmp 39) (.tmp 42) 72 rfl (p + 1) 5 i0 (.int .u8 0) 1 1 Tryd.underlying72 hi hz0 hz1 hz2 rfl (by decide) v' cur.length (cur.map cellOf) rfl ?own ⟨wr.heap.size, 0, none⟩ 1 1 [.int .u8 (m : Int)] rfl rfl ?c1 ?c2 ?b1 ?b2 ?b3 ?next)
      case own => exact own.alloc _
      case c1 => intro j u hj; match j, hj with | 0, hj => simp at hj; subst hj; simp [Addr.add]
      case c2 => intro u hu; simp at hu; subst hu; rfl
      case b1 => unfold maxLen; omega
      case b2 => omega
      case b3 => simp; omega
      case next =>
        intro v2 w2 hown hgrow _
        have hb2 : Below (p + 1) wr w2 := ((Below.refl _ _).alloc (by omega) _).grown hgrow (by simp; omega) (fun k hk => (own.lt k hk).1)
        have hfin := HW'.out.more (UInt8.ofNat m) (by rw [Go.Num.toNat_ofNat _ (by omega)]) hb2 hown
        have k0 := (hb2.cell (p := ⟨p, 0, none⟩) (by simp)).trans c0
        have e0 := (hb2.frozen (p := ⟨p, 0, none⟩) (by simp)).trans f0
        have Hk2 := hide (Hkt.out.trans (KeptT.step (v2 := v2) own hgrow))
        obtain ⟨g, c', rfl⟩ := own_form hown
        have Hfin := hide hfin
        have Hb2 := hide hb2
        clear hfin hb2 hown hgrow
        go_wp2
        go_end0
        have he := He.out
        rw [Go.Num.encF_small _ _ (by omega)] at he
        rw [← he]
        exact ⟨rfl, ⟨_, Hfin.out⟩, (Hbel.out.trans (Hb2.out.mono (by omega))).setCell (by simp) _, Hk2.out⟩

theorem num_ok (p n : Nat) (bs : List UInt8) (v : Value) (w : World) (hn : n ≤ 1099511627776) (hb : bs.length ≤ 1000000) (h : WrAt p w bs v) :
    Calls Tryd.prog 75 #[.pointer (some ⟨p, 0, none⟩), .int .i64 n] w fun e w' => e = .returned (.tuple #[]) ∧ (∃ v', WrAt p w' (bs ++ Go.Num.enc n) v') ∧ Below p w w' :=
  (num_ok4 p n bs v w hn hb h).mono fun _ _ ⟨h1, h2, h3, _⟩ => ⟨h1, h2, h3⟩
end Go.Proofs.YtbflmkjlpopeaadDoor

namespace Go.Proofs.YtbflmkjlpopeaadDoor
open Go.RowKit

theorem strOfNums_str (bs : List UInt8) : strOfNums (bs.map fun b => (b.toNat : Int)) = str bs := by
  have : (bs.map fun b => (b.toNat : Int)).map (fun n => UInt8.ofNat n.toNat) = bs := by
    rw [List.map_map]
    conv => rhs; rw [← List.map_id bs]
    apply List.map_congr_left
    intro b _
    simp
  unfold strOfNums
  rw [this]
  rfl

theorem WrAt.conv {p : Nat} {w : World} {bs : List UInt8} {v : Value} (h : WrAt p w bs v) : (convert 72 9 v).run Tryd.prog w = .ok (.string (str bs)) w := by
  rcases h.own.2 with ⟨rfl, hl⟩ | ⟨g, cap, cur, rfl, _, hg, hn, _, hs, ht⟩
  · have hb : bs = [] := List.length_eq_zero_iff.1 hl
    subst hb
    exact run_convert_bytes_nil w 72 5 Tryd.underlying72 Tryd.underlying5 0 0 9 Tryd.underlying9
  · have := run_convert_bytes_arg (P := Tryd.prog) w 72 5 Tryd.underlying72 Tryd.underlying5 g 0 bs.length cap (bs.map fun b => (b.toNat : Int)) (by simp) (fun i hi => by
      have := h.own.cells (g := g) rfl i (.int .u8 (bs[i]).toNat) (by simp [cellOf, hi])
      rw [Addr.add_lit] at this
      simpa [List.getD, hi] using this) 9 Tryd.underlying9
    rw [this, strOfNums_str]

set_option maxHeartbeats 400000 in
theorem done_ok (p : Nat) (bs : List UInt8) (v : Value) (w : World) (h : WrAt p w bs v) :
    Calls Tryd.prog 77 #[.pointer (some ⟨p, 0, none⟩)] w fun e w' => e = .returned (.tuple #[.string (str bs), .nilIface]) ∧ w' = w := by
  have hcv := h.conv
  obtain ⟨c0, c1, f0, f1, lt, own⟩ := h
  clear own
  go_enter Tryd.func77, Tryd.ntmps77
  go_wp2
  go_ret2
  exact ⟨rfl, rfl⟩

theorem new_ok (w : World) : Calls Tryd.prog 74 #[] w fun e w' => e = .returned (.pointer (some ⟨w.heap.size, 0, none⟩)) ∧ w.alloc (.cells #[.slice none 0 0, .nilIface] 156) = w' := by
  go_enter Tryd.func74, Tryd.ntmps74
  go_wp2
  go_ret
  exact ⟨rfl, rfl⟩

theorem WrAt.fresh (w : World) : WrAt w.heap.size (w.alloc (.cells #[.slice none 0 0, .nilIface] 156)) [] (.slice none 0 0) :=
  ⟨by simp, by simp, by simp, by simp, by simp, by simpa using World.ownsRow_nil _ _ _ _⟩
end Go.Proofs.YtbflmkjlpopeaadDoor

namespace Go.Proofs.YtbflmkjlpopeaadDoor
open Go.RowKit

theorem WrAt.moreStr {p : Nat} {wr w2 : World} {cur : List UInt8} {v v2 : Value} (h : WrAt p wr cur v) (s : ByteArray) (hb2 : Below (p + 1) wr w2)
    (hown : w2.ownsRow (p + 1) 5 1 v2 (cur.length + s.size) (cur.map cellOf ++ Go.Lib.strCells s)) : WrAt p (w2.setCell ⟨p, 0, none⟩ v2) (cur ++ s.data.toList) v2 := by
  have k0 := (hb2.cell (p := ⟨p, 0, none⟩) (by simp)).trans h.c0
  have k1 := (hb2.cell (p := ⟨p, 1, none⟩) (by simp)).trans h.c1
  have e0 := (hb2.frozen (p := ⟨p, 0, none⟩) (by simp)).trans h.f0
  have e1 := (hb2.frozen (p := ⟨p, 1, none⟩) (by simp)).trans h.f1
  have hz := hb2.size
  have hl := h.lt
  refine ⟨World.cell?_setCell_same _ _ _ k0, by rw [World.cell?_setCell_other _ _ _ _ (by simp)]; exact k1, by simpa using e0, by simpa using e1, by simp; omega, ?_⟩
  have := ownsRow_setCell_below hown (a := ⟨p, 0, none⟩) (by simp) v2
  have e : (cur ++ s.data.toList).length = cur.length + s.size := by rw [List.length_append, Array.length_toList]; rfl
  rw [e, List.map_append]
  exact this

theorem KeptT.stepS {p n : Nat} {wr w2 : World} {v v2 : Value} {xs : List Value} (own : wr.ownsRow (p + 1) 5 1 v n xs) (hg : wr.grownBy w2 v.ownBlock) : KeptT p wr (w2.setCell ⟨p, 0, none⟩ v2) := by
  intro g c t f hp ht h
  have hlt : g < wr.heap.size := (Array.getElem?_eq_some_iff.1 h).1
  have hne : some g ≠ v.ownBlock := by
    intro e
    rcases own.2 with ⟨rfl, _⟩ | ⟨g', cap, cur, rfl, _, hh, _⟩
    · cases e
    · simp only [Value.ownBlock, Option.some.injEq] at e
      subst e
      rw [hh] at h
      cases h
      exact ht rfl
  rw [Below.heap_setCell _ _ _ _ hp, hg.block g hlt hne]
  exact h

set_option maxHeartbeats 400000 in
set_option maxRecDepth 100000 in
theorem text_ok4 (p : Nat) (s : ByteArray) (v : Value) (bs : List UInt8) (w : World) (hs : s.size ≤ 20000) (hb : bs.length ≤ 900000) (h : WrAt p w bs v) :
    Calls Tryd.prog 76 #[.pointer (some ⟨p, 0, none⟩), .string s] w fun e w' => e = .returned (.tuple #[]) ∧ (∃ v', WrAt p w' (bs ++ Go.Num.enc s.size ++ s.data.toList) v') ∧ Below p w w' ∧ KeptT p w w' := by
  obtain ⟨i0, hi, hz0, hz1, hz2⟩ := info_parts Tryd.info5
  have H := hide h
  clear h
  have hs' : (s.size : Int) ≤ 20000 := by omega
  have hlen := Go.Num.enc_length_le s.size
  go_enter Tryd.func76, Tryd.ntmps76
  go_wp2_with fail
  refine (num_ok4 p s.size bs v _ (by omega) (by omega) H.out).mono ?_
  rintro e w1 ⟨rfl, ⟨v1, h1⟩, hb1, hk1⟩
  have Hk1 := hide hk1
  clear hk1
  have H1 := hide h1
  have Hb1 := hide hb1
  generalize hcur : bs ++ Go.Num.enc s.size = cur at h1 H1
  have hcl : cur.length ≤ 900006 := by rw [← hcur]; simp; omega
  have Hcur := hide hcur
  clear hcur H hb1
  obtain ⟨c0, c1, f0, f1, lt, own⟩ := h1
  go_wp2_with (at_builtin; refine Go.Lib.wpList_append_own_string _ rfl (.tmp 23) (.tmp 24) 72 9 rfl (p + 1) 5 i0 Tryd.underlying72 Tryd.underlying9 hi hz0 hz1 hz2 v1 cur.length (cur.map cellOf) rfl ?own s rfl ?b1 ?b2 ?b3 ?next)
  case own => exact own
  case b1 => unfold maxLen; omega
  case b2 => omega
  case b3 => omega
  case next =>
    intro v2 w2 hown hgrow _
    have hb2 : Below (p + 1) w1 w2 := (Below.refl _ _).grown hgrow (by omega) (fun k hk => (own.lt k hk).1)
    have hfin := H1.out.moreStr s hb2 hown
    have k0 := (hb2.cell (p := ⟨p, 0, none⟩) (by simp)).trans c0
    have e0 := (hb2.frozen (p := ⟨p, 0, none⟩) (by simp)).trans f0
    have Hk2 := hide (Hk1.out.trans (KeptT.stepS (v2 := v2) own hgrow))
    rcases own_forms hown with ⟨rfl, _⟩ | ⟨g, c', rfl⟩
    all_goals
      have Hfin := hide hfin
      have Hb2 := hide hb2
      clear hfin hb2 hown hgrow
      go_wp2
      go_end0
      refine ⟨rfl, ?_, (Hb1.out.trans (Hb2.out.mono (by omega))).setCell (by simp) _, Hk2.out⟩
      first | rw [← List.append_assoc, Hcur.out] | rw [Hcur.out]
      exact ⟨_, Hfin.out⟩

theorem text_ok (p : Nat) (s : ByteArray) (v : Value) (bs : List UInt8) (w : World) (hs : s.size ≤ 20000) (hb : bs.length ≤ 900000) (h : WrAt p w bs v) :
    Calls Tryd.prog 76 #[.pointer (some ⟨p, 0, none⟩), .string s] w fun e w' => e = .returned (.tuple #[]) ∧ (∃ v', WrAt p w' (bs ++ Go.Num.enc s.size ++ s.data.toList) v') ∧ Below p w w' :=
  (text_ok4 p s v bs w hs hb h).mono fun _ _ ⟨h1, h2, h3, _⟩ => ⟨h1, h2, h3⟩
end Go.Proofs.YtbflmkjlpopeaadDoor

namespace Go.Proofs.YtbflmkjlpopeaadDoor
open Go.RowKit
open Go.Files (Ln FineL encN encNs encL encNs_snoc encNs_length faultF keyL)

theorem WrAt.belowL {p : Nat} {w w' : World} {bs : List UInt8} {v : Value} (h : WrAt p w bs v) (hb : Below w.heap.size w w') : WrAt p w' bs v :=
  ⟨(hb.cell (p := ⟨p, 0, none⟩) h.lt).trans h.c0, (hb.cell (p := ⟨p, 1, none⟩) h.lt).trans h.c1, (hb.frozen (p := ⟨p, 0, none⟩) h.lt).trans h.f0, (hb.frozen (p := ⟨p, 1, none⟩) h.lt).trans h.f1, Nat.lt_of_lt_of_le h.lt hb.size, own_below h.own hb⟩
/-- A line as an object of the memory. -/
def LnObj (q : Nat) (w : World) (x : Ln) : Prop := w.heap[q]? = some (.cells #[.string x.name, .int .i64 x.n, .int .u32 x.sum] 65 (0, 0))
theorem LnObj.fresh (w : World) (x : Ln) : LnObj w.heap.size (w.alloc (.cells #[.string x.name, .int .i64 x.n, .int .u32 x.sum] 65)) x := by
  unfold LnObj
  show (w.heap.push _)[w.heap.size]? = _
  simp
theorem LnObj.kept {q p : Nat} {w w' : World} {x : Ln} (h : LnObj q w x) (hk : KeptT p w w') (hq : q ≠ p) : LnObj q w' x := hk _ _ _ _ hq (by decide) h
theorem LnObj.cells {q : Nat} {w : World} {x : Ln} (h : LnObj q w x) : w.cell? ⟨q, 0, none⟩ = some (.string x.name) ∧ w.cell? ⟨q, 1, none⟩ = some (.int .i64 x.n) ∧ w.cell? ⟨q, 2, none⟩ = some (.int .u32 x.sum) := by
  unfold LnObj at h
  simp [World.cell?, h]

set_option maxHeartbeats 2000000 in
set_option maxRecDepth 100000 in
theorem lwrite_ok (v : Value) (l : List Ln) (w : World) (hv : LRow w v l) (hl : l.length ≤ 1000) (hw : ∀ x ∈ l, FineL x) :
    Calls Tryd.prog 52 #[v] w fun r w' => r = .returned (.tuple #[.string (str (encL l)), .nilIface]) ∧ Below w.heap.size w w' := by
  obtain ⟨a, c, rfl, hv⟩ := hv
  generalize l.length + c = cap
  have HV := hide hv
  have HW := hide hw
  have hl' : (l.length : Int) ≤ 1000 := by omega
  have hlen2 := Go.Num.enc_length_le l.length
  have Hlt : Hid (∀ j, (encNs (l.take j)).length ≤ 30000) := by
    intro j
    have h1 := encNs_length (l := l.take j) (fun x hx => hw x (List.mem_of_mem_take hx))
    have h3 : (l.take j).length ≤ l.length := by rw [List.length_take]; omega
    omega
  have hsz : ((str (encL l)).size : Int) ≤ 40000 := by
    have h1 := encNs_length hw
    rw [str_len, encL, List.length_append]
    omega
  have Hsz := hide hsz
  clear hv hw hsz
  go_enter Tryd.func52, Tryd.ntmps52
  go_wp2_with fail
  refine (new_ok _).mono ?_
  rintro e w1 ⟨rfl, h1⟩
  have hf := WrAt.fresh w
  have hb : Below w.heap.size w (w.alloc (.cells #[.slice none 0 0, .nilIface] 156)) := (Below.refl _ _).alloc (Nat.le_refl _) _
  rw [h1] at hf hb
  have Hf := hide hf
  have Hb := hide hb
  clear hf hb h1
  go_wp2_with fail
  refine (num_ok w.heap.size l.length [] _ _ (by omega) (by simp) Hf.out).mono ?_
  rintro e w3 ⟨rfl, ⟨v3, h3⟩, hb3⟩
  have H3 := hide h3
  have Hb3 := hide (Hb.out.trans hb3)
  clear h3 hb3 Hf Hb
  go_wp2_with fail
  go_loopw [6, 14] (fun _ t wr => ∃ j : Nat, t = .int .i64 j ∧ j ≤ l.length ∧ Hid (∃ v', WrAt w.heap.size wr (Go.Num.enc l.length ++ encNs (l.take j)) v') ∧ Hid (Below w.heap.size w wr)) (fun _ t _ => l.length - (intOf t).toNat)
  case atStart => exact ⟨0, rfl, by omega, ⟨v3, by simpa [encNs] using H3.out⟩, Hb3.out⟩
  case round =>
    clear H3 Hb3
    obtain ⟨j, rfl, hj, Hw, Hb⟩ := hrel
    by_cases hlt : j < l.length
    · have hlt' : (j : Int) < l.length := by omega
      obtain ⟨b, o, rfl, hc⟩ := HV.out (by omega)
      obtain ⟨c0, c1, c2⟩ := hc j hlt
      have d0 := (Hb.out.cell (World.block_lt_of_cell? _ _ c0)).trans c0
      have d1 := (Hb.out.cell (World.block_lt_of_cell? _ _ c1)).trans c1
      have d2 := (Hb.out.cell (World.block_lt_of_cell? _ _ c2)).trans c2
      clear hc c0 c1 c2
      have hok := HW.out l[j] (List.getElem_mem hlt)
      have Hsn := hide (List.take_succ_eq_append_getElem hlt)
      have hbl := Hlt.out j
      generalize l[j] = x at *
      obtain ⟨v', hw4⟩ := Hw.out
      generalize hcur : Go.Num.enc l.length ++ encNs (l.take j) = cur at hw4
      have hcl : cur.length ≤ 40000 := by rw [← hcur]; simp at hbl ⊢; omega
      have Hcur := hide hcur
      have Hen : Hid (encN x = Go.Num.enc x.name.size ++ x.name.data.toList ++ Go.Num.enc x.n.toNat ++ Go.Num.enc x.sum.toNat) := rfl
      obtain ⟨xn, xb, xs⟩ := x
      obtain ⟨k1, k2, k3, k4, k5⟩ := hok
      simp only at k1 k2 k3 k4 k5 d0 d1 d2 Hen
      obtain ⟨nb, rfl⟩ := Int.eq_ofNat_of_zero_le k2
      obtain ⟨ns, rfl⟩ := Int.eq_ofNat_of_zero_le k4
      simp only [Int.toNat_natCast] at Hen
      have e1 := Go.Num.enc_length_le xn.size
      have e2 := Go.Num.enc_length_le nb
      have Hob : Hid (LnObj wr.heap.size (wr.alloc (.cells #[.string xn, .int .i64 (nb : Int), .int .u32 (ns : Int)] 65)) ⟨xn, nb, ns⟩) := LnObj.fresh wr ⟨xn, nb, ns⟩
      have Hwa := hide (hw4.belowL ((Below.refl wr.heap.size wr).alloc (Nat.le_refl _) (.cells #[.string xn, .int .i64 (nb : Int), .int .u32 (ns : Int)] 65)))
      have Hba := hide (Hb.out.alloc Hb.out.size (.cells #[.string xn, .int .i64 (nb : Int), .int .u32 (ns : Int)] 65))
      have hqp : wr.heap.size ≠ w.heap.size := by have := hw4.lt; omega
      have hnl : xn.data.toList.length = xn.size := lenL xn
      clear hcur hw4 Hw Hb HV HW hbl Hlt
      go_wp2_with fail
      refine (text_ok4 w.heap.size xn _ cur _ (by omega) (by omega) Hwa.out).mono ?_
      rintro e w6 ⟨rfl, ⟨v6, h6⟩, hb6, hk6⟩
      have Hb6 := hide (Hba.out.trans hb6)
      have H6 := hide h6
      have ho6 := Hob.out.kept hk6 hqp
      have Ho6 := hide ho6
      obtain ⟨q0, q1, q2⟩ := ho6.cells
      simp only at q0 q1 q2
      clear h6 hb6 hk6 Hba Hwa Hob ho6 d0 d1 d2
      go_wp2_with fail
      refine (num_ok4 w.heap.size nb _ v6 _ (by omega) (by simp [hnl]; omega) H6.out).mono ?_
      rintro e w7 ⟨rfl, ⟨v7, h7⟩, hb7, hk7⟩
      have Hb7 := hide (Hb6.out.trans hb7)
      have H7 := hide h7
      have ho7 := Ho6.out.kept hk7 hqp
      clear q0 q1 q2
      obtain ⟨q0, q1, q2⟩ := ho7.cells
      simp only at q0 q1 q2
      clear h7 hb7 hk7 Hb6 H6 Ho6 ho7
      have hws : IntKind.i64.wrap (ns : Int) = (ns : Int) := iwrap_id _ (by omega) (by omega)
      go_wp2_with fail
      refine (num_ok w.heap.size ns _ v7 _ (by omega) (by simp [hnl]; omega) H7.out).mono ?_
      rintro e w8 ⟨rfl, ⟨v8, h8⟩, hb8⟩
      have Hb8 := hide (Hb7.out.trans hb8)
      have H8 := hide h8
      clear h8 hb8 Hb7 H7 q0 q1 q2
      go_wp2_with fail
      go_roundw
      case rel =>
        refine ⟨j + 1, by go_num, by omega, ⟨v8, ?_⟩, Hb8.out⟩
        have h := H8.out
        rw [← Hcur.out] at h
        rw [Hsn.out, encNs_snoc, Hen.out]
        simpa [List.append_assoc] using h
      case measure => simp [intOf]; omega
    · have hle : (l.length : Int) ≤ (j : Int) := by omega
      obtain ⟨v', hw'⟩ := Hw.out
      rw [List.take_of_length_le (by omega)] at hw'
      have Hw' := hide hw'
      have hE : str (Go.Num.enc l.length ++ encNs l) = str (encL l) := rfl
      have HD := hide (done_ok _ _ _ wr Hw'.out)
      rw [hE] at HD
      have hsz := Hsz.out
      clear hw' hE
      generalize hE2 : str (encL l) = E at HD hsz
      have HE := hide hE2
      clear hE2
      go_wp2_with fail
      refine (HD.out).mono ?_
      rintro e w4 ⟨rfl, rfl⟩
      go_wp2
      go_ret2
      exact ⟨by rw [HE.out]; rfl, Hb.out⟩

set_option maxHeartbeats 1000000 in
set_option maxRecDepth 100000 in
theorem ltext_ok (v : Value) (l : List Ln) (e : FV) (w : World) (hv : LRow w v l) (hl : l.length ≤ 1000) (hs : ∀ x ∈ l, x.name.size ≤ 1000000) (hw : (faultF (l.map keyL)).1 = 0 → ∀ x ∈ l, FineL x) (he : FEr e w) :
    Calls Tryd.prog 31 #[v] w fun r w' => (∃ x, r = .returned (.tuple #[.string (str (if (faultF (l.map keyL)).1 = 0 then encL l else [])), x]) ∧ FX e w' x (faultF (l.map keyL))) ∧ Below w.heap.size w w' := by
  have HC := hide (lcheck_ok v l e w hv (by omega) hs he)
  have HW := hide (fun W (h : Below w.heap.size w W) (k : ∀ x ∈ l, FineL x) => lwrite_ok v l W (hv.below h) hl k)
  have Hw := hide hw
  obtain ⟨a, c, rfl, _⟩ := hv
  generalize l.length + c = cap at *
  generalize faultF (l.map keyL) = f at *
  clear hs hw he
  by_cases h0 : f.1 = 0
  · rw [if_pos h0]
    have HW2 := hide (fun W (h : Below w.heap.size w W) => HW.out W h (Hw.out h0))
    have H0 := hide h0
    clear HW Hw h0
    generalize str (encL l) = E at *
    go_enter Tryd.func31, Tryd.ntmps31
    go_wp2_with fail
    refine HC.out.mono ?_
    rintro r w1 ⟨⟨x1, rfl, hx1⟩, hb1⟩
    obtain rfl := hx1.nilOr.none H0.out
    have Hb1 := hide hb1
    clear hx1 hb1 HC
    go_wp2_with fail
    refine (HW2.out _ Hb1.out).mono ?_
    rintro r w2 ⟨rfl, hb2⟩
    have Hb2 := hide (bthen Hb1.out hb2)
    clear hb2 HW2
    go_wp2
    go_ret2
    exact ⟨⟨_, rfl, Or.inl ⟨H0.out, rfl⟩⟩, Hb2.out⟩
  · rw [if_neg h0]
    have H0 := hide h0
    clear HW Hw h0
    go_enter Tryd.func31, Tryd.ntmps31
    go_wp2_with fail
    refine HC.out.mono ?_
    rintro r w1 ⟨⟨x1, rfl, hx1⟩, hb1⟩
    have Hx1 := hide hx1
    obtain ⟨t, y, rfl⟩ := hx1.nilOr.some H0.out
    have Hb1 := hide hb1
    clear hx1 hb1 HC
    go_wp2
    go_ret2
    exact ⟨⟨_, rfl, Hx1.out⟩, Hb1.out⟩
end Go.Proofs.YtbflmkjlpopeaadDoor
