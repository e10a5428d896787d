/-
  The four errors that package frame meets; what is left to show of package frame (FrameGo), and that it gives all that the laws ask.
  Contract of the laws' coded at nil and at the twelve errors, over this dump.
  An error by its number alone, as the laws of packhorselaw2 ask it.
  The contracts of package frame that FrameTells and FrameBits ask for.
  Contracts of the writer's methods over this dump.
-/
import Derived.Test.YtlmampcdflbifaeDoorJoin03
import Derived.Test.YtlmampcdflbifaeDoorJoin01
import Derived.Test.YtlmampcdflbifaeDoorJoin02
import Derived.Lib.AppendStr
import Derived.Laws.BytesArg
namespace Go.Proofs.YtlmampcdflbifaeDoor
open Go.RowKit
open Go.Frame (Fr frErr encF encOut rdOut rdF)

structure FrVs where
  tT : TypeId
  xT : Value
  tB : TypeId
  xB : Value
  tK : TypeId
  xK : Value
  tS : TypeId
  xS : Value
/-- An error by its number. -/
def errG (e : FrVs) : Nat → Value
  | 0 => .nilIface
  | 1 => .iface e.tT e.xT
  | 2 => .iface e.tB e.xB
  | 4 => .iface e.tK e.xK
  | _ => .iface e.tS e.xS
structure FrEr (e : FrVs) (w : World) : Prop where
  text : w.cell? ⟨2, 0, none⟩ = some (.iface e.tT e.xT)
  bound : w.cell? ⟨1, 0, none⟩ = some (.iface e.tB e.xB)
  kind : w.cell? ⟨0, 0, none⟩ = some (.iface e.tK e.xK)
  sum : w.cell? ⟨3, 0, none⟩ = some (.iface e.tS e.xS)
theorem FrEr.below {e : FrVs} {w w' : World} (h : FrEr e w) (hb : Below w.heap.size w w') : FrEr e w' :=
  ⟨(hb.cell (World.block_lt_of_cell? _ _ h.text)).trans h.text, (hb.cell (World.block_lt_of_cell? _ _ h.bound)).trans h.bound, (hb.cell (World.block_lt_of_cell? _ _ h.kind)).trans h.kind, (hb.cell (World.block_lt_of_cell? _ _ h.sum)).trans h.sum⟩
theorem errG_form (e : FrVs) (c : Nat) (h : c ≠ 0) : ∃ t x, errG e c = .iface t x := by
  unfold errG
  split
  · exact absurd rfl h
  all_goals exact ⟨_, _, rfl⟩
theorem errG_nilOr (e : FrVs) (c : Nat) : NilOr (errG e c) c := ⟨fun h => by rw [h]; rfl, errG_form e c⟩
/-- What is to be shown over the program's own text. -/
structure FrameGo (e : FrVs) : Prop where
  check : ∀ f W, f.data.size ≤ 1000000 → FrEr e W → Calls Tryd.prog 9 #[frV f] W fun r w' => r = .returned (errG e (frErr f)) ∧ Below W.heap.size W w'
  encode : ∀ f W, f.data.size ≤ 1000000 → FrEr e W → Calls Tryd.prog 6 #[frV f] W fun r w' => r = .returned (.tuple #[.string (str (encOut f)), errG e (frErr f)]) ∧ Below W.heap.size W w'
  decode : ∀ s W, s.size ≤ 1000000 → FrEr e W → Calls Tryd.prog 7 #[.string s] W fun r w' => r = .returned (.tuple #[frV (rdOut s.data.toList).1, errG e (rdOut s.data.toList).2]) ∧ Below W.heap.size W w'
theorem FrameGo.all {e : FrVs} (h : FrameGo e) : FrameAll fun W => FrEr e W where
  encode := fun f W hf hE => (h.encode f W hf hE).mono fun _ _ ⟨h1, hb⟩ => ⟨⟨_, h1, errG_nilOr e _⟩, hb⟩
  decode := fun s W hs hE => (h.decode s W hs hE).mono fun _ _ ⟨h1, hb⟩ => ⟨⟨_, h1, errG_nilOr e _⟩, hb⟩
end Go.Proofs.YtlmampcdflbifaeDoor

namespace Go.Proofs.YtlmampcdflbifaeDoor
open Go.RowKit

set_option maxHeartbeats 400000 in
theorem coded_nil (c : Int) (w : World) : Calls Tryd.prog 8 #[.nilIface, .int .i64 c] w fun r w' => r = .returned (.bool (c == 0)) ∧ w' = w := by
  by_cases hc : c = 0
  · subst hc
    go_enter Tryd.func8, Tryd.ntmps8
    go_wp2_with fail
    refine (code_nil _).mono ?_
    rintro e w1 ⟨rfl, rfl⟩
    go_wp2
    go_ret
    exact ⟨rfl, rfl⟩
  · have hb : ((0 : Int) == c) = false := by simp; omega
    have hb2 : Hid ((c == 0) = false) := by simp [Hid]; omega
    clear hc
    go_enter Tryd.func8, Tryd.ntmps8
    go_wp2_with fail
    refine (code_nil _).mono ?_
    rintro e w1 ⟨rfl, rfl⟩
    go_wp2
    go_ret
    exact ⟨by rw [hb2.out]; rfl, rfl⟩

set_option maxHeartbeats 400000 in
set_option maxRecDepth 100000 in
theorem coded_sent (k : Nat) (hk : k < 12) (a : Nat → Addr) (c : Int) (w : World) (h : Sents w a) :
    Calls Tryd.prog 8 #[.iface 99 (.pointer (some (a k))), .int .i64 c] w fun r w' => r = .returned (.bool (c == (k : Int) + 1)) ∧ Below w.heap.size w w' := by
  have H := hide h
  clear h
  by_cases hc : c = (k : Int) + 1
  · subst hc
    have hb : ((k : Int) + 1 == (k : Int) + 1) = true := by simp
    go_enter Tryd.func8, Tryd.ntmps8
    go_wp2_with fail
    refine (code_sent k hk a _ H.out).mono ?_
    rintro e w1 ⟨rfl, hb1⟩
    have Hb1 := hide hb1
    clear hb1
    go_wp2
    go_ret
    exact ⟨by rw [hb]; rfl, Hb1.out⟩
  · have hb : ((k : Int) + 1 == c) = false := by simp; omega
    have hb2 : Hid ((c == (k : Int) + 1) = false) := by simp [Hid]; omega
    clear hc
    go_enter Tryd.func8, Tryd.ntmps8
    go_wp2_with fail
    refine (code_sent k hk a _ H.out).mono ?_
    rintro e w1 ⟨rfl, hb1⟩
    have Hb1 := hide hb1
    clear hb1
    go_wp2
    go_ret
    exact ⟨by rw [hb2.out]; rfl, Hb1.out⟩
end Go.Proofs.YtlmampcdflbifaeDoor

namespace Go.Proofs.YtlmampcdflbifaeDoor
open Go.RowKit

/-- An error by its number alone, behind whatever happens. -/
def Codes (w' : World) (x : Value) (c : Nat) : Prop :=
  ∀ W, Below w'.heap.size w' W → Calls Tryd.prog 8 #[x, .int .i64 c] W fun r W' => r = .returned (.bool true) ∧ Below W.heap.size W W'
theorem codes_nil (w : World) : Codes w .nilIface 0 := fun W _ => (coded_nil 0 W).mono fun _ _ ⟨h1, h2⟩ => ⟨by rw [h1]; rfl, by rw [h2]; exact Below.refl _ _⟩
theorem codes_bare (w : World) (a : Nat → Addr) (hS : Sents w a) (j : Nat) (hj : j < 12) : Codes w (.iface 99 (.pointer (some (a j)))) (j + 1) := fun W hW => by
  rw [show ((j + 1 : Nat) : Int) = (j : Int) + 1 by omega]
  exact (coded_sent j hj a _ W (hS.below hW)).mono fun _ _ ⟨h1, h2⟩ => ⟨by rw [h1]; simp, h2⟩
theorem Codes.below {w w' : World} {x : Value} {c : Nat} (h : Codes w x c) (hb : Below w.heap.size w w') : Codes w' x c := fun W hW => h W (bthen hb hW)
end Go.Proofs.YtlmampcdflbifaeDoor

namespace Go.Proofs.YtlmampcdflbifaeDoor
open Go.RowKit
open Go.Frame (Fr frErr encF encOut rdOut rdF)

/-- The contracts of package frame that FrameTells and FrameBits ask for. -/
structure FrameTell (a : Nat → Addr) : Prop where
  check : ∀ f W, f.data.size ≤ 1000000 → Sents W a → Calls Tryd.prog 9 #[frV f] W fun r w' => (∃ x, r = .returned x ∧ Codes w' x (frErr f)) ∧ Below W.heap.size W w'
  encode : ∀ f W, f.data.size ≤ 1000000 → Sents W a → Calls Tryd.prog 6 #[frV f] W fun r w' => (∃ x, r = .returned (.tuple #[.string (str (encOut f)), x]) ∧ NilOr x (frErr f) ∧ Codes w' x (frErr f)) ∧ Below W.heap.size W w'
  decode : ∀ s W, s.size ≤ 1000000 → Sents W a → Calls Tryd.prog 7 #[.string s] W fun r w' => (∃ x, r = .returned (.tuple #[frV (rdOut s.data.toList).1, x]) ∧ NilOr x (rdOut s.data.toList).2 ∧ Codes w' x (rdOut s.data.toList).2) ∧ Below W.heap.size W w'
theorem FrameTell.all {a : Nat → Addr} (h : FrameTell a) : FrameAll fun W => Sents W a where
  encode := fun f W hf hS => (h.encode f W hf hS).mono fun _ _ ⟨⟨x, e, hx, _⟩, hb⟩ => ⟨⟨x, e, hx⟩, hb⟩
  decode := fun s W hs hS => (h.decode s W hs hS).mono fun _ _ ⟨⟨x, e, hx, _⟩, hb⟩ => ⟨⟨x, e, hx⟩, hb⟩

/-- What FrameBits asks besides: the error of a false sum is the bare one. -/
def FrameSum (a : Nat → Addr) : Prop := ∀ s W, s.size ≤ 1000000 → Sents W a → (rdOut s.data.toList).2 = 10 → Calls Tryd.prog 7 #[.string s] W fun r w' =>
  r = .returned (.tuple #[frV zeroF, .iface 99 (.pointer (some (a 9)))]) ∧ Below W.heap.size W w'
end Go.Proofs.YtlmampcdflbifaeDoor

namespace Go.Proofs.YtlmampcdflbifaeDoor
open Go.RowKit

theorem Tryd.info5 : (Tryd.prog.info? 5).map (fun i => (i.zero, i.size, i.bytes)) = some (some (.int .u8 0), 1, 1) := by kernel_rfl

def cellOf (b : UInt8) : Value := .int .u8 b.toNat

/-- The writer at block p, with no error, holds the bytes bs. -/
structure WrAt (p : Nat) (w : World) (bs : List UInt8) (v : Value) : Prop where
  c0 : w.cell? ⟨p, 0, none⟩ = some v
  c1 : w.cell? ⟨p, 1, none⟩ = some .nilIface
  f0 : w.frozen? ⟨p, 0, none⟩ = false
  f1 : w.frozen? ⟨p, 1, none⟩ = false
  lt : p < w.heap.size
  own : w.ownsRow (p + 1) 5 1 v bs.length (bs.map cellOf)

/-- A byte more: the new slice stored into the writer. -/
theorem WrAt.more {p : Nat} {wr w2 : World} {cur : List UInt8} {v v2 : Value} {x : Int} (h : WrAt p wr cur v) (b : UInt8) (hx : x = b.toNat) (hb2 : Below (p + 1) wr w2)
    (hown : w2.ownsRow (p + 1) 5 1 v2 (cur.length + 1) (cur.map cellOf ++ [.int .u8 x])) : WrAt p (w2.setCell ⟨p, 0, none⟩ v2) (cur ++ [b]) v2 := by
  have k0 := (hb2.cell (p := ⟨p, 0, none⟩) (by simp)).trans h.c0
  have k1 := (hb2.cell (p := ⟨p, 1, none⟩) (by simp)).trans h.c1
  have e0 := (hb2.frozen (p := ⟨p, 0, none⟩) (by simp)).trans h.f0
  have e1 := (hb2.frozen (p := ⟨p, 1, none⟩) (by simp)).trans h.f1
  have hz := hb2.size
  have hl := h.lt
  refine ⟨World.cell?_setCell_same _ _ _ k0, by rw [World.cell?_setCell_other _ _ _ _ (by simp)]; exact k1, by simpa using e0, by simpa using e1, by simp; omega, ?_⟩
  subst hx
  have := ownsRow_setCell_below hown (a := ⟨p, 0, none⟩) (by simp) v2
  simpa [cellOf] using this

/-- Every block but p that holds no bytes stays as it was. -/
def KeptT (p : Nat) (w w' : World) : Prop := ∀ g c t f, g ≠ p → t ≠ 5 → w.heap[g]? = some (.cells c t f) → w'.heap[g]? = some (.cells c t f)
theorem KeptT.refl (p : Nat) (w : World) : KeptT p w w := fun _ _ _ _ _ _ h => h
theorem KeptT.trans {p : Nat} {a b c : World} (h : KeptT p a b) (k : KeptT p b c) : KeptT p a c := fun g x t f h1 h2 h3 => k g x t f h1 h2 (h g x t f h1 h2 h3)
theorem KeptT.step {p n : Nat} {wr w2 : World} {v v2 : Value} {xs : List Value} {o : Obj} (own : wr.ownsRow (p + 1) 5 1 v n xs) (hg : (wr.alloc o).grownBy w2 v.ownBlock) : KeptT p wr (w2.setCell ⟨p, 0, none⟩ v2) := by
  intro g c t f hp ht h
  have hlt : g < wr.heap.size := (Array.getElem?_eq_some_iff.1 h).1
  have hne : some g ≠ v.ownBlock := by
    intro e
    rcases own.2 with ⟨rfl, _⟩ | ⟨g', cap, cur, rfl, _, hh, _⟩
    · cases e
    · simp only [Value.ownBlock, Option.some.injEq] at e
      subst e
      rw [hh] at h
      cases h
      exact ht rfl
  rw [Below.heap_setCell _ _ _ _ hp, hg.block g (by simp; omega) hne, Below.heap_alloc _ _ _ hlt]
  exact h

set_option maxHeartbeats 400000 in
set_option maxRecDepth 100000 in
theorem num_ok4 (p n : Nat) (bs : List UInt8) (v : Value) (w : World) (hn : n ≤ 1099511627776) (hb : bs.length ≤ 1000000) (h : WrAt p w bs v) :
    Calls Tryd.prog 17 #[.pointer (some ⟨p, 0, none⟩), .int .i64 n] w fun e w' => e = .returned (.tuple #[]) ∧ (∃ v', WrAt p w' (bs ++ Go.Num.enc n) v') ∧ Below p w w' ∧ KeptT p w w' := by
  obtain ⟨i0, hi, hz0, hz1, hz2⟩ := info_parts Tryd.info5
  have HW : Hid (WrAt p w bs v) := h
  obtain ⟨c0, c1, f0, f1, lt, own⟩ := h
  have hn0 : 0 ≤ (n : Int) := by omega
  have hn1 : (n : Int) ≤ 1099511627776 := by omega
  have hd0 : decide ((n : Int) < 0) = false := by simp
  have hd1 : decide ((1099511627776 : Int) < n) = false := by simp; omega
  have hlen := Go.Num.enc_length_le n
  go_enter Tryd.func17, Tryd.ntmps17
  go_wp2_with fail
  go_loopw [1] (fun t wr => ∃ (k m : Nat) (cur : List UInt8) (v' : Value), t = .int .i64 m ∧ m ≤ 1099511627776 ∧ m < 128 ^ (k + 1) ∧ Hid (cur ++ Go.Num.encF k m = bs ++ Go.Num.enc n) ∧ WrAt p wr cur v' ∧ Below p w wr ∧ Hid (KeptT p w wr)) (fun t _ => (intOf t).toNat)
  case atStart => exact ⟨5, n, bs, v, rfl, hn, by omega, rfl, HW.out, Below.refl _ _, KeptT.refl _ _⟩
  case round =>
    obtain ⟨k, m, cur, v', rfl, hm, hmk, He, hat, hbel, Hkt⟩ := hrel
    have HW' : Hid (WrAt p wr cur v') := hat
    have Hbel : Hid (Below p w wr) := hbel
    have hcur : cur.length ≤ 1000006 := by
      have := congrArg List.length He.out
      simp at this; omega
    clear hbel HW c0 c1 f0 f1 lt own
    obtain ⟨c0, c1, f0, f1, lt, own⟩ := hat
    by_cases hlt : 128 ≤ m
    · have hlt' : (128 : Int) ≤ m := by omega
      have hm1 : (m : Int) ≤ 1099511627776 := by omega
      go_wp2_with (at_builtin; refine wpList_append_own _ rfl (.tmp 24) (.tmp 29) 32 rfl (p + 1) 5 i0 (.int .u8 0) 1 1 Tryd.underlying32 hi hz0 hz1 hz2 rfl (by decide) v' cur.length (cur.map cellOf) rfl ?own ⟨wr.heap.size, 0, none⟩ 1 1 [.int .u8 ((m : Int) % 128 + 128)] rfl rfl ?c1 ?c2 ?b1 ?b2 ?b3 ?next)
      case own => exact own.alloc _
      case c1 => intro j u hj; match j, hj with | 0, hj => simp at hj; subst hj; simp [Addr.add]
      case c2 => intro u hu; simp at hu; subst hu; rfl
      case b1 => unfold maxLen; omega
      case b2 => omega
      case b3 => simp; omega
      case next =>
        intro v2 w2 hown hgrow _
        have hb2 : Below (p + 1) wr w2 := ((Below.refl _ _).alloc (by omega) _).grown hgrow (by simp; omega) (fun k hk => (own.lt k hk).1)
        have hfin := HW'.out.more (UInt8.ofNat (m % 128 + 128)) (by rw [Go.Num.toNat_ofNat _ (by omega)]; simp) hb2 hown
        have k0 := (hb2.cell (p := ⟨p, 0, none⟩) (by simp)).trans c0
        have e0 := (hb2.frozen (p := ⟨p, 0, none⟩) (by simp)).trans f0
        have Hk2 := hide (Hkt.out.trans (KeptT.step (v2 := v2) own hgrow))
        obtain ⟨g, c', rfl⟩ := own_form hown
        have Hfin := hide hfin
        have Hb2 := hide hb2
        clear hfin hb2 hown hgrow
        go_wp2
        go_roundw
        case rel =>
          match k with
          | 0 => simp at hmk; omega
          | k + 1 =>
            refine ⟨k, m / 128, _, _, by go_num, by omega, ?_, ?_, Hfin.out, (Hbel.out.trans (Hb2.out.mono (by omega))).setCell (by simp) _, Hk2.out⟩
            · rw [Nat.div_lt_iff_lt_mul (by omega)]
              rw [Nat.pow_succ] at hmk; exact hmk
            · have := He.out
              rw [Go.Num.encF_big _ _ hlt] at this
              simpa [Hid] using this
        case measure => simp [intOf]; omega
    · have hm1 : (m : Int) < 128 := by omega
      go_wp2_with (at_builtin; refine wpList_append_own _ rfl (.tmp 39) (.tmp 42) 32 rfl (p + 1) 5 i0 (.int .u8 0) 1 1 Tryd.underlying32 hi hz0 hz1 hz2 rfl (by decide) v' cur.length (cur.map cellOf) rfl ?own ⟨wr.heap.size, 0, none⟩ 1 1 [.int .u8 (m : Int)] rfl rfl ?c1 ?c2 ?b1 ?b2 ?b3 ?next)
      case own => exact own.alloc _
      case c1 => intro j u hj; match j, hj with | 0, hj => simp at hj; subst hj; simp [Addr.add]
      case c2 => intro u hu; simp at hu; subst hu; rfl
      case b1 => unfold maxLen; omega
      case b2 => omega
      case b3 => simp; omega
      case next =>
        intro v2 w2 hown hgrow _
        have hb2 : Below (p + 1) wr w2 := ((Below.refl _ _).alloc (by omega) _).grown hgrow (by simp; omega) (fun k hk => (own.lt k hk).1)
        have hfin := HW'.out.more (UInt8.ofNat m) (by rw [Go.Num.toNat_ofNat _ (by omega)]) hb2 hown
        have k0 := (hb2.cell (p := ⟨p, 0, none⟩) (by simp)).trans c0
        have e0 := (hb2.frozen (p := ⟨p, 0, none⟩) (by simp)).trans f0
        have Hk2 := hide (Hkt.out.trans (KeptT.step (v2 := v2) own hgrow))
        obtain ⟨g, c', rfl⟩ := own_form hown
        have Hfin := hide hfin
        have Hb2 := hide hb2
        clear hfin hb2 hown hgrow
        go_wp2
        go_end0
        have he := He.out
        rw [Go.Num.encF_small _ _ (by omega)] at he
        rw [← he]
        exact ⟨rfl, ⟨_, Hfin.out⟩, (Hbel.out.trans (Hb2.out.mono (by omega))).setCell (by simp) _, Hk2.out⟩

theorem num_ok (p n : Nat) (bs : List UInt8) (v : Value) (w : World) (hn : n ≤ 1099511627776) (hb : bs.length ≤ 1000000) (h : WrAt p w bs v) :
    Calls Tryd.prog 17 #[.pointer (some ⟨p, 0, none⟩), .int .i64 n] w fun e w' => e = .returned (.tuple #[]) ∧ (∃ v', WrAt p w' (bs ++ Go.Num.enc n) v') ∧ Below p w w' :=
  (num_ok4 p n bs v w hn hb h).mono fun _ _ ⟨h1, h2, h3, _⟩ => ⟨h1, h2, h3⟩
end Go.Proofs.YtlmampcdflbifaeDoor
