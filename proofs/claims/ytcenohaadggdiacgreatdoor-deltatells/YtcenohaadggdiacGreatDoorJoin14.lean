/-
  The closed fact 'made' over this dump.
  Contracts of the writer's methods over this dump.
  Contracts of Done, NewWriter over this dump.
  Contract of the writer's Text over this dump.
  Contracts of delta.writeOp, write, Text over this dump.
-/
import Derived.Test.YtcenohaadggdiacGreatDoorMakeOps
import Derived.Test.YtcenohaadggdiacGreatDoorJoin01
import Derived.Test.YtcenohaadggdiacGreatDoorJoin02
import Derived.Lib.AppendStr
import Derived.Laws.BytesArg
import Derived.Test.YtcenohaadggdiacGreatDoorJoin06
import Derived.Test.YtcenohaadggdiacGreatDoorJoin07
namespace Go.Proofs.YtcenohaadggdiacGreatDoor
open Go.RowKit
open Go.Sign (Blk)
open Go.Delta (Opx gd dataOp copyOp addCopy addByte)

theorem sig_abcdef : sigL (⟨#[97, 98, 99, 100, 101, 102]⟩ : ByteArray).data.toList 3 = [blk [97, 98, 99], blk [100, 101, 102]] := rfl
theorem find_new : findW [blk [97, 98, 99], blk [100, 101, 102]] [120, 97, 98] = -1 := by
  unfold findW findOut
  rw [findFrom, if_neg (by intro h; have := congrArg Blk.weak h; revert this; decide), findFrom, if_neg (by intro h; have := congrArg Blk.weak h; revert this; decide), findFrom]
theorem find_abc : findW [blk [97, 98, 99], blk [100, 101, 102]] [97, 98, 99] = 0 := by
  unfold findW findOut
  rw [findFrom, if_pos rfl]
  rfl
theorem find_def : findW [blk [97, 98, 99], blk [100, 101, 102]] [100, 101, 102] = 1 := by
  unfold findW findOut
  rw [findFrom, if_neg (by intro h; have := congrArg Blk.weak h; revert this; decide), findFrom, if_pos rfl]
  rfl
theorem made_x : dmake [blk [97, 98, 99], blk [100, 101, 102]] 3 (⟨#[120, 97, 98, 99, 100, 101, 102]⟩ : ByteArray).data.toList = [⟨⟨#[100, 97, 116, 97]⟩, 0, 0, ⟨#[120]⟩⟩, ⟨⟨#[99, 111, 112, 121]⟩, 0, 2, ⟨#[]⟩⟩] := by
  unfold dmake
  show gd _ 3 [120, 97, 98, 99, 100, 101, 102] [] = _
  rw [gd, show List.take 3 [(120 : UInt8), 97, 98, 99, 100, 101, 102] = [120, 97, 98] from rfl, find_new, if_neg (by decide)]
  rw [gd, show List.take 3 [(97 : UInt8), 98, 99, 100, 101, 102] = [97, 98, 99] from rfl, find_abc, if_pos (by decide), show List.drop (3 - 1) [(98 : UInt8), 99, 100, 101, 102] = [100, 101, 102] from rfl]
  rw [gd, show List.take 3 [(100 : UInt8), 101, 102] = [100, 101, 102] from rfl, find_def, if_pos (by decide), show List.drop (3 - 1) [(101 : UInt8), 102] = [] from rfl, gd]
  rfl

theorem Tryz.opGuard : Tryz.prog.eqGuardType Tryz.prog.depth 44 = false := by kernel_rfl
theorem eql_data (w : World) : (binOp .eql 44 (.agg #[.string ⟨#[100, 97, 116, 97]⟩, .int .i64 0, .int .i64 0, .string ⟨#[120]⟩]) (.agg #[.string ⟨#[100, 97, 116, 97]⟩, .int .i64 0, .int .i64 0, .string ⟨#[120]⟩])).run Tryz.prog w = .ok (.bool true) w := by kernel_rfl
theorem eql_copy (w : World) : (binOp .eql 44 (.agg #[.string ⟨#[99, 111, 112, 121]⟩, .int .i64 0, .int .i64 2, .string ⟨#[]⟩]) (.agg #[.string ⟨#[99, 111, 112, 121]⟩, .int .i64 0, .int .i64 2, .string ⟨#[]⟩])).run Tryz.prog w = .ok (.bool true) w := by kernel_rfl

set_option maxHeartbeats 1000000 in
set_option maxRecDepth 100000 in
theorem madeFact_ok (e : EV) (w : World) (he : Er2 e w) : Calls Tryz.prog 4 #[] w fun r w' => r = .returned (.bool true) ∧ Below w.heap.size w w' := by
  have HO := hide (fun W => of_ok ⟨#[97, 98, 99, 100, 101, 102]⟩ 3 W (by decide) (by decide) (by decide))
  rw [sig_abcdef] at HO
  have hf : Go.Sign.fault [blk [97, 98, 99], blk [100, 101, 102]] 3 = (0, -1) := by
    rw [← sig_abcdef]
    exact fault_sig _ 3 (by decide) (by decide) (by decide)
  have HM := hide (fun v W (h : RowIn W v [blk [97, 98, 99], blk [100, 101, 102]]) (k : Er2 e W) => make_right v _ 3 ⟨#[120, 97, 98, 99, 100, 101, 102]⟩ e W h (by decide) (by decide) (by rw [show ((3 : Nat) : Int) = 3 from rfl, hf]) k)
  rw [made_x] at HM
  have hE := eql_data
  have hE2 := eql_copy
  have hG := Tryz.opGuard
  have HE := hide he
  clear he hf
  go_enter Tryz.func4, Tryz.ntmps4
  go_wp2_with fail
  refine (HO.out _).mono ?_
  rintro r w1 ⟨v, rfl, hown, hb1⟩
  have hr := RowIn.of_own hown
  have Hr := hide hr
  have Hb1 := hide hb1
  obtain ⟨a, c, rfl, hc⟩ := hr
  clear hown hb1 HO hc
  go_wp2_with fail
  refine (HM.out _ _ Hr.out (HE.out.below Hb1.out)).mono ?_
  rintro r w2 ⟨hm, hb2⟩
  obtain ⟨u, rfl, hown⟩ := hm
  have hr2 := ORow.of_own hown
  have Hb2 := hide (bthen Hb1.out hb2)
  obtain ⟨a2, c2, rfl, hc2⟩ := hr2
  obtain ⟨g, o, rfl, hd⟩ := hc2 (by decide)
  obtain ⟨p0, p1, p2, p3⟩ := hd 0 (by decide)
  obtain ⟨q0, q1, q2, q3⟩ := hd 1 (by decide)
  simp only [List.getElem_cons_zero, List.getElem_cons_succ, Nat.zero_mul, Nat.one_mul, Nat.add_zero] at p0 p1 p2 p3 q0 q1 q2 q3
  simp only [List.length_cons, List.length_nil]
  clear hown hb2 hc2 hd HM
  go_wp2_with fail
  go_ret
  exact ⟨rfl, Hb2.out⟩
end Go.Proofs.YtcenohaadggdiacGreatDoor

namespace Go.Proofs.YtcenohaadggdiacGreatDoor
open Go.RowKit

theorem Tryz.info5 : (Tryz.prog.info? 5).map (fun i => (i.zero, i.size, i.bytes)) = some (some (.int .u8 0), 1, 1) := by kernel_rfl

def cellOf (b : UInt8) : Value := .int .u8 b.toNat

/-- The writer at block p, with no error, holds the bytes bs. -/
structure WrAt (p : Nat) (w : World) (bs : List UInt8) (v : Value) : Prop where
  c0 : w.cell? ⟨p, 0, none⟩ = some v
  c1 : w.cell? ⟨p, 1, none⟩ = some .nilIface
  f0 : w.frozen? ⟨p, 0, none⟩ = false
  f1 : w.frozen? ⟨p, 1, none⟩ = false
  lt : p < w.heap.size
  own : w.ownsRow (p + 1) 5 1 v bs.length (bs.map cellOf)

/-- A byte more: the new slice stored into the writer. -/
theorem WrAt.more {p : Nat} {wr w2 : World} {cur : List UInt8} {v v2 : Value} {x : Int} (h : WrAt p wr cur v) (b : UInt8) (hx : x = b.toNat) (hb2 : Below (p + 1) wr w2)
    (hown : w2.ownsRow (p + 1) 5 1 v2 (cur.length + 1) (cur.map cellOf ++ [.int .u8 x])) : WrAt p (w2.setCell ⟨p, 0, none⟩ v2) (cur ++ [b]) v2 := by
  have k0 := (hb2.cell (p := ⟨p, 0, none⟩) (by simp)).trans h.c0
  have k1 := (hb2.cell (p := ⟨p, 1, none⟩) (by simp)).trans h.c1
  have e0 := (hb2.frozen (p := ⟨p, 0, none⟩) (by simp)).trans h.f0
  have e1 := (hb2.frozen (p := ⟨p, 1, none⟩) (by simp)).trans h.f1
  have hz := hb2.size
  have hl := h.lt
  refine ⟨World.cell?_setCell_same _ _ _ k0, by rw [World.cell?_setCell_other _ _ _ _ (by simp)]; exact k1, by simpa using e0, by simpa using e1, by simp; omega, ?_⟩
  subst hx
  have := ownsRow_setCell_below hown (a := ⟨p, 0, none⟩) (by simp) v2
  simpa [cellOf] using this

/-- Every block but p that holds no bytes stays as it was. -/
def KeptT (p : Nat) (w w' : World) : Prop := ∀ g c t f, g ≠ p → t ≠ 5 → w.heap[g]? = some (.cells c t f) → w'.heap[g]? = some (.cells c t f)
theorem KeptT.refl (p : Nat) (w : World) : KeptT p w w := fun _ _ _ _ _ _ h => h
theorem KeptT.trans {p : Nat} {a b c : World} (h : KeptT p a b) (k : KeptT p b c) : KeptT p a c := fun g x t f h1 h2 h3 => k g x t f h1 h2 (h g x t f h1 h2 h3)
theorem KeptT.step {p n : Nat} {wr w2 : World} {v v2 : Value} {xs : List Value} {o : Obj} (own : wr.ownsRow (p + 1) 5 1 v n xs) (hg : (wr.alloc o).grownBy w2 v.ownBlock) : KeptT p wr (w2.setCell ⟨p, 0, none⟩ v2) := by
  intro g c t f hp ht h
  have hlt : g < wr.heap.size := (Array.getElem?_eq_some_iff.1 h).1
  have hne : some g ≠ v.ownBlock := by
    intro e
    rcases own.2 with ⟨rfl, _⟩ | ⟨g', cap, cur, rfl, _, hh, _⟩
    · cases e
    · simp only [Value.ownBlock, Option.some.injEq] at e
      subst e
      rw [hh] at h
      cases h
      exact ht rfl
  rw [Below.heap_setCell _ _ _ _ hp, hg.block g (by simp; omega) hne, Below.heap_alloc _ _ _ hlt]
  exact h

set_option maxHeartbeats 400000 in
set_option maxRecDepth 100000 in
theorem num_ok4 (p n : Nat) (bs : List UInt8) (v : Value) (w : World) (hn : n ≤ 1099511627776) (hb : bs.length ≤ 1000000) (h : WrAt p w bs v) :
    Calls Tryz.prog 46 #[.pointer (some ⟨p, 0, none⟩), .int .i64 n] w fun e w' => e = .returned (.tuple #[]) ∧ (∃ v', WrAt p w' (bs ++ Go.Num.enc n) v') ∧ Below p w w' ∧ KeptT p w w' := by
  obtain ⟨i0, hi, hz0, hz1, hz2⟩ := info_parts Tryz.info5
  have HW : Hid (WrAt p w bs v) := h
  obtain ⟨c0, c1, f0, f1, lt, own⟩ := h
  have hn0 : 0 ≤ (n : Int) := by omega
  have hn1 : (n : Int) ≤ 1099511627776 := by omega
  have hd0 : decide ((n : Int) < 0) = false := by simp
  have hd1 : decide ((1099511627776 : Int) < n) = false := by simp; omega
  have hlen := Go.Num.enc_length_le n
  go_enter Tryz.func46, Tryz.ntmps46
  go_wp2_with fail
  go_loopw [1] (fun t wr => ∃ (k m : Nat) (cur : List UInt8) (v' : Value), t = .int .i64 m ∧ m ≤ 1099511627776 ∧ m < 128 ^ (k + 1) ∧ Hid (cur ++ Go.Num.encF k m = bs ++ Go.Num.enc n) ∧ WrAt p wr cur v' ∧ Below p w wr ∧ Hid (KeptT p w wr)) (fun t _ => (intOf t).toNat)
  case atStart => exact ⟨5, n, bs, v, rfl, hn, by omega, rfl, HW.out, Below.refl _ _, KeptT.refl _ _⟩
  case round =>
    obtain ⟨k, m, cur, v', rfl, hm, hmk, He, hat, hbel, Hkt⟩ := hrel
    have HW' : Hid (WrAt p wr cur v') := hat
    have Hbel : Hid (Below p w wr) := hbel
    have hcur : cur.length ≤ 1000006 := by
      have := congrArg List.length He.out
      simp at this; omega
    clear hbel HW c0 c1 f0 f1 lt own
    obtain ⟨c0, c1, f0, f1, lt, own⟩ := hat
    by_cases hlt : 128 ≤ m
    · have hlt' : (128 : Int) ≤ m := by omega
      have hm1 : (m : Int) ≤ 1099511627776 := by omega
      go_wp2_with (at_builtin; refine wpList_append_own _ rfl (.tmp 24) (.tmp 29) 125 rfl (p + 1) 5 i0 (.int .u8 0) 1 1 Tryz.underlying125 hi hz0 hz1 hz2 rfl (by decide) v' cur.length (cur.map cellOf) rfl ?own ⟨wr.heap.size, 0, none⟩ 1 1 [.int .u8 ((m : Int) % 128 + 128)] rfl rfl ?c1 ?c2 ?b1 ?b2 ?b3 ?next)
      case own => exact own.alloc _
      case c1 => intro j u hj; match j, hj with | 0, hj => simp at hj; subst hj; simp [Addr.add]
      case c2 => intro u hu; simp at hu; subst hu; rfl
      case b1 => unfold maxLen; omega
      case b2 => omega
      case b3 => simp; omega
      case next =>
        intro v2 w2 hown hgrow _
        have hb2 : Below (p + 1) wr w2 := ((Below.refl _ _).alloc (by omega) _).grown hgrow (by simp; omega) (fun k hk => (own.lt k hk).1)
        have hfin := HW'.out.more (UInt8.ofNat (m % 128 + 128)) (by rw [Go.Num.toNat_ofNat _ (by omega)]; simp) hb2 hown
        have k0 := (hb2.cell (p := ⟨p, 0, none⟩) (by simp)).trans c0
        have e0 := (hb2.frozen (p := ⟨p, 0, none⟩) (by simp)).trans f0
        have Hk2 := hide (Hkt.out.trans (KeptT.step (v2 := v2) own hgrow))
        obtain ⟨g, c', rfl⟩ := own_form hown
        have Hfin := hide hfin
        have Hb2 := hide hb2
        clear hfin hb2 hown hgrow
        go_wp2
        go_roundw
        case rel =>
          match k with
          | 0 => simp at hmk; omega
          | k + 1 =>
            refine ⟨k, m / 128, _, _, by go_num, by omega, ?_, ?_, Hfin.out, (Hbel.out.trans (Hb2.out.mono (by omega))).setCell (by simp) _, Hk2.out⟩
            · rw [Nat.div_lt_iff_lt_mul (by omega)]
              rw [Nat.pow_succ] at hmk; exact hmk
            · have := He.out
              rw [Go.Num.encF_big _ _ hlt] at this
              simpa [Hid] using this
        case measure => simp [intOf]; omega
    · have hm1 : (m : Int) < 128 := by omega
      go_wp2_with (at_builtin; refine wpList_append_own _ rfl (.tmp 39) (.tmp 42) 125 rfl (p + 1) 5 i0 (.int .u8 0) 1 1 Tryz.underlying125 hi hz0 hz1 hz2 rfl (by decide) v' cur.length (cur.map cellOf) rfl ?own ⟨wr.heap.size, 0, none⟩ 1 1 [.int .u8 (m : Int)] rfl rfl ?c1 ?c2 ?b1 ?b2 ?b3 ?next)
      case own => exact own.alloc _
      case c1 => intro j u hj; match j, hj with | 0, hj => simp at hj; subst hj; simp [Addr.add]
      case c2 => intro u hu; simp at hu; subst hu; rfl
      case b1 => unfold maxLen; omega
      case b2 => omega
      case b3 => simp; omega
      case next =>
        intro v2 w2 hown hgrow _
        have hb2 : Below (p + 1) wr w2 := ((Below.refl _ _).alloc (by omega) _).grown hgrow (by simp; omega) (fun k hk => (own.lt k hk).1)
        have hfin := HW'.out.more (UInt8.ofNat m) (by rw [Go.Num.toNat_ofNat _ (by omega)]) hb2 hown
        have k0 := (hb2.cell (p := ⟨p, 0, none⟩) (by simp)).trans c0
        have e0 := (hb2.frozen (p := ⟨p, 0, none⟩) (by simp)).trans f0
        have Hk2 := hide (Hkt.out.trans (KeptT.step (v2 := v2) own hgrow))
        obtain ⟨g, c', rfl⟩ := own_form hown
        have Hfin := hide hfin
        have Hb2 := hide hb2
        clear hfin hb2 hown hgrow
        go_wp2
        go_end0
        have he := He.out
        rw [Go.Num.encF_small _ _ (by omega)] at he
        rw [← he]
        exact ⟨rfl, ⟨_, Hfin.out⟩, (Hbel.out.trans (Hb2.out.mono (by omega))).setCell (by simp) _, Hk2.out⟩

theorem num_ok (p n : Nat) (bs : List UInt8) (v : Value) (w : World) (hn : n ≤ 1099511627776) (hb : bs.length ≤ 1000000) (h : WrAt p w bs v) :
    Calls Tryz.prog 46 #[.pointer (some ⟨p, 0, none⟩), .int .i64 n] w fun e w' => e = .returned (.tuple #[]) ∧ (∃ v', WrAt p w' (bs ++ Go.Num.enc n) v') ∧ Below p w w' :=
  (num_ok4 p n bs v w hn hb h).mono fun _ _ ⟨h1, h2, h3, _⟩ => ⟨h1, h2, h3⟩
end Go.Proofs.YtcenohaadggdiacGreatDoor

namespace Go.Proofs.YtcenohaadggdiacGreatDoor
open Go.RowKit

theorem strOfNums_str (bs : List UInt8) : strOfNums (bs.map fun b => (b.toNat : Int)) = str bs := by
  have : (bs.map fun b => (b.toNat : Int)).map (fun n => UInt8.ofNat n.toNat) = bs := by
    rw [List.map_map]
    conv => rhs; rw [← List.map_id bs]
    apply List.map_congr_left
    intro b _
    simp
  unfold strOfNums
  rw [this]
  rfl

theorem WrAt.conv {p : Nat} {w : World} {bs : List UInt8} {v : Value} (h : WrAt p w bs v) : (convert 125 9 v).run Tryz.prog w = .ok (.string (str bs)) w := by
  rcases h.own.2 with ⟨rfl, hl⟩ | ⟨g, cap, cur, rfl, _, hg, hn, _, hs, ht⟩
  · have hb : bs = [] := List.length_eq_zero_iff.1 hl
    subst hb
    exact run_convert_bytes_nil w 125 5 Tryz.underlying125 Tryz.underlying5 0 0 9 Tryz.underlying9
  · have := run_convert_bytes_arg (P := Tryz.prog) w 125 5 Tryz.underlying125 Tryz.underlying5 g 0 bs.length cap (bs.map fun b => (b.toNat : Int)) (by simp) (fun i hi => by
      have := h.own.cells (g := g) rfl i (.int .u8 (bs[i]).toNat) (by simp [cellOf, hi])
      rw [Addr.add_lit] at this
      simpa [List.getD, hi] using this) 9 Tryz.underlying9
    rw [this, strOfNums_str]

set_option maxHeartbeats 400000 in
theorem done_ok (p : Nat) (bs : List UInt8) (v : Value) (w : World) (h : WrAt p w bs v) :
    Calls Tryz.prog 48 #[.pointer (some ⟨p, 0, none⟩)] w fun e w' => e = .returned (.tuple #[.string (str bs), .nilIface]) ∧ w' = w := by
  have hcv := h.conv
  obtain ⟨c0, c1, f0, f1, lt, own⟩ := h
  clear own
  go_enter Tryz.func48, Tryz.ntmps48
  go_wp2
  go_ret2
  exact ⟨rfl, rfl⟩

theorem new_ok (w : World) : Calls Tryz.prog 45 #[] w fun e w' => e = .returned (.pointer (some ⟨w.heap.size, 0, none⟩)) ∧ w.alloc (.cells #[.slice none 0 0, .nilIface] 127) = w' := by
  go_enter Tryz.func45, Tryz.ntmps45
  go_wp2
  go_ret
  exact ⟨rfl, rfl⟩

theorem WrAt.fresh (w : World) : WrAt w.heap.size (w.alloc (.cells #[.slice none 0 0, .nilIface] 127)) [] (.slice none 0 0) :=
  ⟨by simp, by simp, by simp, by simp, by simp, by simpa using World.ownsRow_nil _ _ _ _⟩
end Go.Proofs.YtcenohaadggdiacGreatDoor

namespace Go.Proofs.YtcenohaadggdiacGreatDoor
open Go.RowKit

theorem WrAt.moreStr {p : Nat} {wr w2 : World} {cur : List UInt8} {v v2 : Value} (h : WrAt p wr cur v) (s : ByteArray) (hb2 : Below (p + 1) wr w2)
    (hown : w2.ownsRow (p + 1) 5 1 v2 (cur.length + s.size) (cur.map cellOf ++ Go.Lib.strCells s)) : WrAt p (w2.setCell ⟨p, 0, none⟩ v2) (cur ++ s.data.toList) v2 := by
  have k0 := (hb2.cell (p := ⟨p, 0, none⟩) (by simp)).trans h.c0
  have k1 := (hb2.cell (p := ⟨p, 1, none⟩) (by simp)).trans h.c1
  have e0 := (hb2.frozen (p := ⟨p, 0, none⟩) (by simp)).trans h.f0
  have e1 := (hb2.frozen (p := ⟨p, 1, none⟩) (by simp)).trans h.f1
  have hz := hb2.size
  have hl := h.lt
  refine ⟨World.cell?_setCell_same _ _ _ k0, by rw [World.cell?_setCell_other _ _ _ _ (by simp)]; exact k1, by simpa using e0, by simpa using e1, by simp; omega, ?_⟩
  have := ownsRow_setCell_below hown (a := ⟨p, 0, none⟩) (by simp) v2
  have e : (cur ++ s.data.toList).length = cur.length + s.size := by rw [List.length_append, Array.length_toList]; rfl
  rw [e, List.map_append]
  exact this

set_option maxHeartbeats 400000 in
set_option maxRecDepth 100000 in
theorem text_ok (p : Nat) (s : ByteArray) (v : Value) (bs : List UInt8) (w : World) (hs : s.size ≤ 20000) (hb : bs.length ≤ 900000) (h : WrAt p w bs v) :
    Calls Tryz.prog 75 #[.pointer (some ⟨p, 0, none⟩), .string s] w fun e w' => e = .returned (.tuple #[]) ∧ (∃ v', WrAt p w' (bs ++ Go.Num.enc s.size ++ s.data.toList) v') ∧ Below p w w' := by
  obtain ⟨i0, hi, hz0, hz1, hz2⟩ := info_parts Tryz.info5
  have H := hide h
  clear h
  have hs' : (s.size : Int) ≤ 20000 := by omega
  have hlen := Go.Num.enc_length_le s.size
  go_enter Tryz.func75, Tryz.ntmps75
  go_wp2_with fail
  refine (num_ok p s.size bs v _ (by omega) (by omega) H.out).mono ?_
  rintro e w1 ⟨rfl, ⟨v1, h1⟩, hb1⟩
  have H1 := hide h1
  have Hb1 := hide hb1
  generalize hcur : bs ++ Go.Num.enc s.size = cur at h1 H1
  have hcl : cur.length ≤ 900006 := by rw [← hcur]; simp; omega
  have Hcur := hide hcur
  clear hcur H hb1
  obtain ⟨c0, c1, f0, f1, lt, own⟩ := h1
  go_wp2_with (at_builtin; refine Go.Lib.wpList_append_own_string _ rfl (.tmp 23) (.tmp 24) 125 9 rfl (p + 1) 5 i0 Tryz.underlying125 Tryz.underlying9 hi hz0 hz1 hz2 v1 cur.length (cur.map cellOf) rfl ?own s rfl ?b1 ?b2 ?b3 ?next)
  case own => exact own
  case b1 => unfold maxLen; omega
  case b2 => omega
  case b3 => omega
  case next =>
    intro v2 w2 hown hgrow _
    have hb2 : Below (p + 1) w1 w2 := (Below.refl _ _).grown hgrow (by omega) (fun k hk => (own.lt k hk).1)
    have hfin := H1.out.moreStr s hb2 hown
    have k0 := (hb2.cell (p := ⟨p, 0, none⟩) (by simp)).trans c0
    have e0 := (hb2.frozen (p := ⟨p, 0, none⟩) (by simp)).trans f0
    rcases own_forms hown with ⟨rfl, _⟩ | ⟨g, c', rfl⟩
    all_goals
      have Hfin := hide hfin
      have Hb2 := hide hb2
      clear hfin hb2 hown hgrow
      go_wp2
      go_end0
      refine ⟨rfl, ?_, (Hb1.out.trans (Hb2.out.mono (by omega))).setCell (by simp) _⟩
      first | rw [← List.append_assoc, Hcur.out] | rw [Hcur.out]
      exact ⟨_, Hfin.out⟩

end Go.Proofs.YtcenohaadggdiacGreatDoor

namespace Go.Proofs.YtcenohaadggdiacGreatDoor
open Go.RowKit
open Go.Delta (Opx copyOp dataOp kCopy kData)

theorem WrAt.belowD {p : Nat} {w w' : World} {bs : List UInt8} {v : Value} (h : WrAt p w bs v) (hb : Below w.heap.size w w') : WrAt p w' bs v :=
  ⟨(hb.cell (p := ⟨p, 0, none⟩) h.lt).trans h.c0, (hb.cell (p := ⟨p, 1, none⟩) h.lt).trans h.c1, (hb.frozen (p := ⟨p, 0, none⟩) h.lt).trans h.f0, (hb.frozen (p := ⟨p, 1, none⟩) h.lt).trans h.f1, Nat.lt_of_lt_of_le h.lt hb.size, own_below h.own hb⟩
/-- An op as an object of the memory. -/
def OpObj (q : Nat) (w : World) (o : Opx) : Prop := w.heap[q]? = some (.cells #[.string o.kind, .int .i64 o.at_, .int .i64 o.n, .string o.data] 44 (0, 0))
theorem OpObj.fresh (w : World) (o : Opx) : OpObj w.heap.size (w.alloc (.cells #[.string o.kind, .int .i64 o.at_, .int .i64 o.n, .string o.data] 44)) o := by
  unfold OpObj
  show (w.heap.push _)[w.heap.size]? = _
  simp
theorem OpObj.kept {q p : Nat} {w w' : World} {o : Opx} (h : OpObj q w o) (hk : KeptT p w w') (hq : q ≠ p) : OpObj q w' o := hk _ _ _ _ hq (by decide) h
theorem OpObj.cells {q : Nat} {w : World} {o : Opx} (h : OpObj q w o) : w.cell? ⟨q, 0, none⟩ = some (.string o.kind) ∧ w.cell? ⟨q, 1, none⟩ = some (.int .i64 o.at_) ∧ w.cell? ⟨q, 2, none⟩ = some (.int .i64 o.n) ∧ w.cell? ⟨q, 3, none⟩ = some (.string o.data) := by
  unfold OpObj at h
  simp [World.cell?, h]

set_option maxHeartbeats 2000000 in
set_option maxRecDepth 100000 in
theorem writeCopy_ok (p a n : Nat) (bs : List UInt8) (v : Value) (w : World) (ha : a ≤ 4000) (hn : n ≤ 4000) (hb : bs.length ≤ 800000) (h : WrAt p w bs v) :
    Calls Tryz.prog 47 #[.pointer (some ⟨p, 0, none⟩), oval (copyOp a n)] w fun r w' => r = .returned (.tuple #[]) ∧ (∃ v', WrAt p w' (bs ++ Go.Delta.encO (copyOp a n)) v') ∧ Below p w w' := by
  have hlp := h.lt
  have hq := OpObj.fresh w (copyOp a n)
  have hwa := h.belowD ((Below.refl w.heap.size w).alloc (Nat.le_refl _) (.cells #[.string (copyOp a n).kind, .int .i64 (copyOp a n).at_, .int .i64 (copyOp a n).n, .string (copyOp a n).data] 44))
  have hba : Below p w (w.alloc (.cells #[.string (copyOp a n).kind, .int .i64 (copyOp a n).at_, .int .i64 (copyOp a n).n, .string (copyOp a n).data] 44)) := (Below.refl p w).alloc (by omega) _
  have hqp : w.heap.size ≠ p := by omega
  rw [Go.Delta.encO_copy]
  unfold oval
  simp only [copyOp, kCopy, Go.Delta.noBytes] at hwa hba hq ⊢
  have Hq := hide hq
  have Hwa := hide hwa
  have Hba := hide hba
  have h0 := Go.Num.enc_length_le 0
  have h1 := Go.Num.enc_length_le a
  clear h hq hwa hba
  go_enter Tryz.func47, Tryz.ntmps47
  go_wp2_with fail
  refine (num_ok4 p 0 bs v _ (by omega) (by omega) Hwa.out).mono ?_
  rintro e w4 ⟨rfl, ⟨v4, h4⟩, hb4, hk4⟩
  have hq4 := Hq.out.kept hk4 hqp
  have Hq4 := hide hq4
  have Hb4 := hide (Hba.out.trans hb4)
  have H4 := hide h4
  obtain ⟨q0, q1, q2, q3⟩ := hq4.cells
  simp only at q0 q1 q2 q3
  clear hq4 h4 hb4 hk4 Hq Hba Hwa
  go_wp2_with fail
  refine (num_ok4 p a _ v4 _ (by omega) (by simp; omega) H4.out).mono ?_
  rintro e w5 ⟨rfl, ⟨v5, h5⟩, hb5, hk5⟩
  have hq5 := Hq4.out.kept hk5 hqp
  have Hb5 := hide (Hb4.out.trans hb5)
  have H5 := hide h5
  clear q0 q1 q2 q3
  obtain ⟨q0, q1, q2, q3⟩ := hq5.cells
  simp only at q0 q1 q2 q3
  clear hq5 h5 hb5 hk5 Hq4 Hb4 H4
  go_wp2_with fail
  refine (num_ok p n _ v5 _ (by omega) (by simp; omega) H5.out).mono ?_
  rintro e w6 ⟨rfl, ⟨v6, h6⟩, hb6⟩
  have Hb6 := hide (Hb5.out.trans hb6)
  have H6 := hide h6
  clear q0 q1 q2 q3 h6 hb6 Hb5 H5
  go_wp2_with fail
  go_end0
  exact ⟨rfl, ⟨v6, by simpa [List.append_assoc] using H6.out⟩, Hb6.out⟩

set_option maxHeartbeats 2000000 in
set_option maxRecDepth 100000 in
theorem writeData_ok (p : Nat) (d bs : List UInt8) (v : Value) (w : World) (hd : d.length ≤ 4000) (hb : bs.length ≤ 800000) (h : WrAt p w bs v) :
    Calls Tryz.prog 47 #[.pointer (some ⟨p, 0, none⟩), oval (dataOp d)] w fun r w' => r = .returned (.tuple #[]) ∧ (∃ v', WrAt p w' (bs ++ Go.Delta.encO (dataOp d)) v') ∧ Below p w w' := by
  have hlp := h.lt
  have hq := OpObj.fresh w (dataOp d)
  have hwa := h.belowD ((Below.refl w.heap.size w).alloc (Nat.le_refl _) (.cells #[.string (dataOp d).kind, .int .i64 (dataOp d).at_, .int .i64 (dataOp d).n, .string (dataOp d).data] 44))
  have hba : Below p w (w.alloc (.cells #[.string (dataOp d).kind, .int .i64 (dataOp d).at_, .int .i64 (dataOp d).n, .string (dataOp d).data] 44)) := (Below.refl p w).alloc (by omega) _
  have hqp : w.heap.size ≠ p := by omega
  rw [Go.Delta.encO_data]
  unfold oval
  simp only [dataOp, kData] at hwa hba hq ⊢
  have HT := hide (fun W bs v (k : bs.length ≤ 900000) (h : WrAt p W bs v) => text_ok p (str d) v bs W (by rw [str_len]; omega) k h)
  have ed : (str d).data.toList = d := strL d
  rw [ed, str_len] at HT
  generalize str d = D at *
  have Hq := hide hq
  have Hwa := hide hwa
  have Hba := hide hba
  have h0 := Go.Num.enc_length_le 1
  clear h hq hwa hba ed
  go_enter Tryz.func47, Tryz.ntmps47
  go_wp2_with fail
  refine (num_ok4 p 1 bs v _ (by omega) (by omega) Hwa.out).mono ?_
  rintro e w4 ⟨rfl, ⟨v4, h4⟩, hb4, hk4⟩
  have hq4 := Hq.out.kept hk4 hqp
  have Hb4 := hide (Hba.out.trans hb4)
  have H4 := hide h4
  obtain ⟨q0, q1, q2, q3⟩ := hq4.cells
  simp only at q0 q1 q2 q3
  clear hq4 h4 hb4 hk4 Hq Hba Hwa
  go_wp2_with fail
  refine (HT.out _ _ _ (by simp; omega) H4.out).mono ?_
  rintro e w5 ⟨rfl, ⟨v5, h5⟩, hb5⟩
  have Hb5 := hide (Hb4.out.trans hb5)
  have H5 := hide h5
  clear q0 q1 q2 q3 h5 hb5 H4 Hb4
  go_wp2_with fail
  refine bodyPost_ret (results_none rfl _ _ _) rfl ?_
  exact ⟨rfl, ⟨v5, by simpa [List.append_assoc] using H5.out⟩, Hb5.out⟩

theorem writeOp_ok (p : Nat) (o : Opx) (bs : List UInt8) (v : Value) (w : World) (ho : Go.Delta.opFault o = 0) (hb : bs.length ≤ 800000) (h : WrAt p w bs v) :
    Calls Tryz.prog 47 #[.pointer (some ⟨p, 0, none⟩), oval o] w fun r w' => r = .returned (.tuple #[]) ∧ (∃ v', WrAt p w' (bs ++ Go.Delta.encO o) v') ∧ Below p w w' := by
  rcases Go.Delta.op_right ho with ⟨a, n, rfl, h1, h2, h3⟩ | ⟨l, rfl, h1, h2⟩
  · exact writeCopy_ok p a n bs v w h1 h3 hb h
  · exact writeData_ok p l bs v w h2 hb h

set_option maxHeartbeats 2000000 in
set_option maxRecDepth 100000 in
theorem owrite_ok (v : Value) (l : List Opx) (w : World) (hv : ORow w v l) (hl : l.length ≤ 1000) (hw : ∀ o ∈ l, Go.Delta.opFault o = 0) (hc : Go.Delta.cost l ≤ 100000) (he : (Go.Delta.encD l).length ≤ 20000) :
    Calls Tryz.prog 28 #[v] w fun r w' => r = .returned (.tuple #[.string (str (Go.Delta.encD l)), .nilIface]) ∧ Below w.heap.size w w' := by
  obtain ⟨a, c, rfl, hv⟩ := hv
  have HV := hide hv
  have HW := hide hw
  have hl' : (l.length : Int) ≤ 1000 := by omega
  have hsz : ((str (Go.Delta.encD l)).size : Int) ≤ 20000 := by rw [str_len]; omega
  have Hsz := hide hsz
  clear hv hw hsz he
  have hlen2 := Go.Num.enc_length_le l.length
  have Hlt : Hid (∀ j, (Go.Delta.encOs (l.take j)).length ≤ 120000) := by
    intro j
    have h1 := Go.Delta.encOs_length (l.take j)
    have h2 : Go.Delta.cost (l.take j) ≤ Go.Delta.cost l := by
      conv => rhs; rw [← List.take_append_drop j l, Go.Delta.cost_append]
      omega
    have h3 : (l.take j).length ≤ l.length := by rw [List.length_take]; omega
    omega
  go_enter Tryz.func28, Tryz.ntmps28
  go_wp2_with fail
  refine (new_ok _).mono ?_
  rintro e w1 ⟨rfl, h1⟩
  have hf := WrAt.fresh w
  have hb : Below w.heap.size w (w.alloc (.cells #[.slice none 0 0, .nilIface] 127)) := (Below.refl _ _).alloc (Nat.le_refl _) _
  rw [h1] at hf hb
  have Hf := hide hf
  have Hb := hide hb
  clear hf hb h1
  go_wp2_with fail
  refine (num_ok w.heap.size l.length [] _ _ (by omega) (by simp) Hf.out).mono ?_
  rintro e w3 ⟨rfl, ⟨v3, h3⟩, hb3⟩
  have H3 := hide h3
  have Hb3 := hide (Hb.out.trans hb3)
  clear h3 hb3 Hf Hb
  go_wp2_with fail
  go_loopw [16] (fun t wr => ∃ j : Nat, t = .int .i64 j ∧ j ≤ l.length ∧ Hid (∃ v', WrAt w.heap.size wr (Go.Num.enc l.length ++ Go.Delta.encOs (l.take j)) v') ∧ Hid (Below w.heap.size w wr)) (fun t _ => l.length - (intOf t).toNat)
  case atStart => exact ⟨0, rfl, by omega, ⟨v3, by simpa [Go.Delta.encOs] using H3.out⟩, Hb3.out⟩
  case round =>
    clear H3 Hb3
    obtain ⟨j, rfl, hj, Hw, Hb⟩ := hrel
    by_cases hlt : j < l.length
    · have hlt' : (j : Int) < l.length := by omega
      obtain ⟨b, o, rfl, hc⟩ := HV.out (by omega)
      obtain ⟨c0, c1, c2, c3⟩ := hc j hlt
      have d0 := (Hb.out.cell (World.block_lt_of_cell? _ _ c0)).trans c0
      have d1 := (Hb.out.cell (World.block_lt_of_cell? _ _ c1)).trans c1
      have d2 := (Hb.out.cell (World.block_lt_of_cell? _ _ c2)).trans c2
      have d3 := (Hb.out.cell (World.block_lt_of_cell? _ _ c3)).trans c3
      clear hc c0 c1 c2 c3
      have hok := HW.out l[j] (List.getElem_mem hlt)
      have Hsn := hide (List.take_succ_eq_append_getElem hlt)
      have hbl := Hlt.out j
      generalize l[j] = op at *
      obtain ⟨v', hw4⟩ := Hw.out
      generalize hcur : Go.Num.enc l.length ++ Go.Delta.encOs (l.take j) = cur at hw4
      have hcl : cur.length ≤ 200000 := by rw [← hcur]; simp at hbl ⊢; omega
      have Hcur := hide hcur
      have HO := hide (fun W (k : WrAt w.heap.size W cur v') => writeOp_ok w.heap.size op cur v' W hok (by omega) k)
      unfold oval at HO
      have Hwa := hide (hw4.belowD ((Below.refl wr.heap.size wr).alloc (Nat.le_refl _) (.cells #[.string op.kind, .int .i64 op.at_, .int .i64 op.n, .string op.data] 44)))
      have Hba := hide (Hb.out.alloc Hb.out.size (.cells #[.string op.kind, .int .i64 op.at_, .int .i64 op.n, .string op.data] 44))
      clear hcur hw4 Hw Hb HV HW hbl hok Hlt
      go_wp2_with fail
      refine (HO.out _ Hwa.out).mono ?_
      rintro e w6 ⟨rfl, ⟨v6, h6⟩, hb6⟩
      have Hb6 := hide (Hba.out.trans hb6)
      have H6 := hide h6
      clear h6 hb6 Hba Hwa
      go_wp2_with fail
      go_roundw
      case rel =>
        refine ⟨j + 1, by go_num, by omega, ⟨v6, ?_⟩, Hb6.out⟩
        have h := H6.out
        rw [← Hcur.out] at h
        rw [Hsn.out, Go.Delta.encOs_snoc]
        simpa [List.append_assoc] using h
      case measure => simp [intOf]; omega
    · have hle : (l.length : Int) ≤ (j : Int) := by omega
      obtain ⟨v', hw'⟩ := Hw.out
      rw [List.take_of_length_le (by omega)] at hw'
      have Hw' := hide hw'
      have hE : str (Go.Num.enc l.length ++ Go.Delta.encOs l) = str (Go.Delta.encD l) := rfl
      have HD := hide (done_ok _ _ _ wr Hw'.out)
      rw [hE] at HD
      have hsz := Hsz.out
      clear hw' hE
      generalize hE2 : str (Go.Delta.encD l) = E at HD hsz
      have HE := hide hE2
      clear hE2
      go_wp2_with fail
      refine (HD.out).mono ?_
      rintro e w4 ⟨rfl, rfl⟩
      go_wp2
      go_ret2
      exact ⟨by rw [HE.out]; rfl, Hb.out⟩

section
variable (a : Option Addr) (n c : Nat) (w : World)
set_option maxHeartbeats 1000000 in
set_option maxRecDepth 100000 in
theorem otext_err (P : TypeId → Value → World → Prop) (h : Calls Tryz.prog 14 #[.slice a n c] w fun r w' => (∃ t x, r = .returned (.iface t x) ∧ P t x w') ∧ Below w.heap.size w w') :
    Calls Tryz.prog 12 #[.slice a n c] w fun r w' => (∃ t x, r = .returned (.tuple #[.string ByteArray.empty, .iface t x]) ∧ P t x w') ∧ Below w.heap.size w w' := by
  have HW := hide h
  clear h
  go_enter Tryz.func12, Tryz.ntmps12
  go_wp2_with fail
  refine HW.out.mono ?_
  rintro e1 w1 ⟨⟨t, x, rfl, hp⟩, hb1⟩
  have Hp := hide hp
  have Hb1 := hide hb1
  clear hb1 hp
  go_wp2
  go_ret2
  exact ⟨⟨t, x, rfl, Hp.out⟩, Hb1.out⟩
set_option maxHeartbeats 1000000 in
set_option maxRecDepth 100000 in
theorem otext_fine (E : ByteArray) (h : Calls Tryz.prog 14 #[.slice a n c] w fun r w' => r = .returned .nilIface ∧ Below w.heap.size w w')
    (h2 : ∀ W, Below w.heap.size w W → Calls Tryz.prog 28 #[.slice a n c] W fun r w' => r = .returned (.tuple #[.string E, .nilIface]) ∧ Below W.heap.size W w') :
    Calls Tryz.prog 12 #[.slice a n c] w fun r w' => r = .returned (.tuple #[.string E, .nilIface]) ∧ Below w.heap.size w w' := by
  have HW := hide h
  have H2 := hide h2
  clear h h2
  go_enter Tryz.func12, Tryz.ntmps12
  go_wp2_with fail
  refine HW.out.mono ?_
  rintro e1 w1 ⟨rfl, hb1⟩
  have Hb1 := hide hb1
  clear hb1
  go_wp2_with fail
  refine (H2.out _ Hb1.out).mono ?_
  rintro e2 w2 ⟨rfl, hb2⟩
  have Hb2 := hide (bthen Hb1.out hb2)
  clear hb2 Hb1
  go_wp2
  go_ret2
  exact ⟨rfl, Hb2.out⟩
end

/-- Text of right ops. -/
theorem otext_ok (v : Value) (l : List Opx) (e : OV) (w : World) (hv : ORow w v l) (hl : l.length ≤ 1000) (hw : ∀ o ∈ l, Go.Delta.opFault o = 0) (hs : Short l) (hc : Go.Delta.cost l ≤ 100000) (he : (Go.Delta.encD l).length ≤ 20000) (hE : OEr e w) :
    Calls Tryz.prog 12 #[v] w fun r w' => r = .returned (.tuple #[.string (str (Go.Delta.encD l)), .nilIface]) ∧ Below w.heap.size w w' := by
  have HC := ocheck_ok v l e w hv (by omega) hs hE
  rw [Go.Delta.faultO_of hw] at HC
  have hv' := hv
  obtain ⟨a, cap, rfl, _⟩ := hv'
  refine otext_fine _ _ _ _ _ (HC.mono ?_) fun W hb => owrite_ok _ l W (hv.below hb) hl hw hc he
  rintro r w' ⟨hr, hb⟩
  rw [OCheckRes, if_pos rfl] at hr
  exact ⟨hr, hb⟩
end Go.Proofs.YtcenohaadggdiacGreatDoor
