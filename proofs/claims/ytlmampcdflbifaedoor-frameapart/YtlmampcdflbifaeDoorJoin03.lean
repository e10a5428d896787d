/-
  The four errors that package frame meets; what is left to show of package frame (FrameGo), and that it gives all that the laws ask.
  What the row's condition on the four errors' variables that package frame meets gives the walk; the door's own heap meets it.
  An argument of type packhorseref2.Frame, by value, reads as a frame.
  Frames held against one another.
  Contracts of the writer's methods over this dump.
-/
import Derived.Test.YtlmampcdflbifaeDoorJoin02
import Derived.Test.YtlmampcdflbifaeDoorJoin01
import Derived.Lib.SmallJoins
import Derived.Laws.StructEq
import Derived.Lib.AppendStr
import Derived.Laws.BytesArg
namespace Go.Proofs.YtlmampcdflbifaeDoor
open Go.RowKit
open Go.Frame (Fr frErr encF encOut rdOut rdF)

structure FrVs where
  tT : TypeId
  xT : Value
  tB : TypeId
  xB : Value
  tK : TypeId
  xK : Value
  tS : TypeId
  xS : Value
/-- An error by its number. -/
def errG (e : FrVs) : Nat → Value
  | 0 => .nilIface
  | 1 => .iface e.tT e.xT
  | 2 => .iface e.tB e.xB
  | 4 => .iface e.tK e.xK
  | _ => .iface e.tS e.xS
structure FrEr (e : FrVs) (w : World) : Prop where
  text : w.cell? ⟨2, 0, none⟩ = some (.iface e.tT e.xT)
  bound : w.cell? ⟨1, 0, none⟩ = some (.iface e.tB e.xB)
  kind : w.cell? ⟨0, 0, none⟩ = some (.iface e.tK e.xK)
  sum : w.cell? ⟨3, 0, none⟩ = some (.iface e.tS e.xS)
theorem FrEr.below {e : FrVs} {w w' : World} (h : FrEr e w) (hb : Below w.heap.size w w') : FrEr e w' :=
  ⟨(hb.cell (World.block_lt_of_cell? _ _ h.text)).trans h.text, (hb.cell (World.block_lt_of_cell? _ _ h.bound)).trans h.bound, (hb.cell (World.block_lt_of_cell? _ _ h.kind)).trans h.kind, (hb.cell (World.block_lt_of_cell? _ _ h.sum)).trans h.sum⟩
theorem errG_form (e : FrVs) (c : Nat) (h : c ≠ 0) : ∃ t x, errG e c = .iface t x := by
  unfold errG
  split
  · exact absurd rfl h
  all_goals exact ⟨_, _, rfl⟩
theorem errG_nilOr (e : FrVs) (c : Nat) : NilOr (errG e c) c := ⟨fun h => by rw [h]; rfl, errG_form e c⟩
/-- What is to be shown over the program's own text. -/
structure FrameGo (e : FrVs) : Prop where
  check : ∀ f W, f.data.size ≤ 1000000 → FrEr e W → Calls Tryd.prog 9 #[frV f] W fun r w' => r = .returned (errG e (frErr f)) ∧ Below W.heap.size W w'
  encode : ∀ f W, f.data.size ≤ 1000000 → FrEr e W → Calls Tryd.prog 6 #[frV f] W fun r w' => r = .returned (.tuple #[.string (str (encOut f)), errG e (frErr f)]) ∧ Below W.heap.size W w'
  decode : ∀ s W, s.size ≤ 1000000 → FrEr e W → Calls Tryd.prog 7 #[.string s] W fun r w' => r = .returned (.tuple #[frV (rdOut s.data.toList).1, errG e (rdOut s.data.toList).2]) ∧ Below W.heap.size W w'
theorem FrameGo.all {e : FrVs} (h : FrameGo e) : FrameAll fun W => FrEr e W where
  encode := fun f W hf hE => (h.encode f W hf hE).mono fun _ _ ⟨h1, hb⟩ => ⟨⟨_, h1, errG_nilOr e _⟩, hb⟩
  decode := fun s W hs hE => (h.decode s W hs hE).mono fun _ _ ⟨h1, hb⟩ => ⟨⟨_, h1, errG_nilOr e _⟩, hb⟩
end Go.Proofs.YtlmampcdflbifaeDoor

namespace Go.Proofs.YtlmampcdflbifaeDoor
open Go.ChangeShapes Go.WideShapes Go.ChangeAt Go.RowKit

theorem Tryd.rpText : Tryd.prog.globalNamed "packhorse/api.ErrText" = some 2 := by kernel_rfl
theorem Tryd.rqText : (Tryd.prog.globals[2]?).map (·.type) = some 27 := by kernel_rfl
theorem Tryd.rpBound : Tryd.prog.globalNamed "packhorse/api.ErrBound" = some 1 := by kernel_rfl
theorem Tryd.rqBound : (Tryd.prog.globals[1]?).map (·.type) = some 27 := by kernel_rfl
theorem Tryd.rpKind : Tryd.prog.globalNamed "packhorse/api.ErrKind" = some 0 := by kernel_rfl
theorem Tryd.rqKind : (Tryd.prog.globals[0]?).map (·.type) = some 27 := by kernel_rfl
theorem Tryd.rpSum : Tryd.prog.globalNamed "packhorse/api.ErrSum" = some 3 := by kernel_rfl
theorem Tryd.rqSum : (Tryd.prog.globals[3]?).map (·.type) = some 27 := by kernel_rfl
abbrev laidR4 : List (String × DataW Unit) := [("packhorse/api.ErrText", Rows.laid_packhorse_api_ErrText), ("packhorse/api.ErrBound", Rows.laid_packhorse_api_ErrBound), ("packhorse/api.ErrKind", Rows.laid_packhorse_api_ErrKind), ("packhorse/api.ErrSum", Rows.laid_packhorse_api_ErrSum)]

theorem frer_of_laid {W : World} (h : laidMetH Tryd.prog laidR4 W) : ∃ e, FrEr e W := by
  rw [MakeChecks.laidMetH_plain _ _ _ (by kernel_rfl)] at h
  obtain ⟨aText, _, hvText, _⟩ := laid_sentinel h Tryd.rpText Tryd.rqText Tryd.underlying27 Tryd.row99 Tryd.underlying99 Tryd.underlying118 rfl rfl Tryd.underlying9 Tryd.cells118 Tryd.cells9
  obtain ⟨aBound, _, hvBound, _⟩ := laid_sentinel h.tail Tryd.rpBound Tryd.rqBound Tryd.underlying27 Tryd.row99 Tryd.underlying99 Tryd.underlying118 rfl rfl Tryd.underlying9 Tryd.cells118 Tryd.cells9
  obtain ⟨aKind, _, hvKind, _⟩ := laid_sentinel h.tail.tail Tryd.rpKind Tryd.rqKind Tryd.underlying27 Tryd.row99 Tryd.underlying99 Tryd.underlying118 rfl rfl Tryd.underlying9 Tryd.cells118 Tryd.cells9
  obtain ⟨aSum, _, hvSum, _⟩ := laid_sentinel h.tail.tail.tail Tryd.rpSum Tryd.rqSum Tryd.underlying27 Tryd.row99 Tryd.underlying99 Tryd.underlying118 rfl rfl Tryd.underlying9 Tryd.cells118 Tryd.cells9
  exact ⟨⟨_, _, _, _, _, _, _, _⟩, by simpa using World.var?_cell Tryd.rpText hvText 0, by simpa using World.var?_cell Tryd.rpBound hvBound 0, by simpa using World.var?_cell Tryd.rpKind hvKind 0, by simpa using World.var?_cell Tryd.rpSum hvSum 0⟩
theorem door_metR4 (os : Os) (args : Array Value) : laidMetH Tryd.prog laidR4 ((World.doorLaid Tryd.prog 400 os).forCall (fun _ _ => 0) ⟨#[], args, []⟩).memory :=
  laidMetH_of_parts3 (fuel := 8) (laidMet_of_run' 8 (by kernel_rfl) (by kernel_rfl)) (by kernel_rfl) (by kernel_rfl)
end Go.Proofs.YtlmampcdflbifaeDoor

namespace Go.Proofs.YtlmampcdflbifaeDoor
open Go.ChangeShapes Go.WideShapes Go.ChangeAt Go.RowKit
open Go.Frame (Fr)

theorem Tryd.fracells23 : Tryd.prog.cellsOf 23 = 4 := by kernel_rfl
set_option maxRecDepth 100000 in
theorem frarg {H : Type} {enc : TypeId × Value → H} {W : World} {r : Reach} {base b0 : Nat} {spare : Nat → Bool} {held : Bool} {v : Value} {d : DataW H} {p : List MemPlace}
    (hv : Value.okWide Tryd.prog W r b0 23 v) (h : DataW.Trod enc Tryd.prog W base spare held 23 v d p) : ∃ f : Fr, v = frV f := by
  obtain ⟨v0, v1, v2, v3, y0, y1, y2, y3, n, rfl, rfl, rfl, h0, h1, h2, h3⟩ := Go.Joins.open_agg4 Tryd.underlying23 (by kernel_rfl) Tryd.fracells23 hv h
  obtain ⟨n0, e0, _, w0⟩ := DataW.trod_int Tryd.underlying5 h0
  obtain ⟨n1, e1, _, _⟩ := DataW.trod_int Tryd.underlying3 h1
  obtain ⟨n2, e2, _, _⟩ := DataW.trod_int Tryd.underlying3 h2
  obtain ⟨z, e3, _, _⟩ := DataW.trod_string Tryd.underlying9 h3
  simp only [List.cons.injEq, and_true] at e0 e1 e2 e3
  subst e0 e1 e2 e3
  obtain ⟨k, hk⟩ : ∃ k : UInt8, (k.toNat : Int) = n0 := by
    simp [Lit.wf] at w0
    rw [show IntKind.u8.min = 0 from rfl, show IntKind.u8.max = 255 from rfl] at w0
    exact ⟨UInt8.ofNat n0.toNat, by rw [UInt8.toNat_ofNat']; omega⟩
  exact ⟨⟨k, n1, n2, z⟩, by rw [← hk]⟩
end Go.Proofs.YtlmampcdflbifaeDoor

namespace Go.Proofs.YtlmampcdflbifaeDoor
open Go.RowKit
open Go.Frame (Fr)

theorem Tryd.frGuard : Tryd.prog.eqGuardType Tryd.prog.depth 25 = false := by kernel_rfl
theorem Tryd.frHeld : Tryd.prog.stoodInHeld 25 = false := by kernel_rfl
set_option maxRecDepth 100000 in
theorem fr_eql (f g : Fr) (w : World) : (binOp .eql 25 (frV f) (frV g)).run Tryd.prog w = .ok (.bool (decide (f = g))) w := by
  have hf : Tryd.prog.fieldsOf 25 = (match Tryd.prog.underlying 25 with | some (.struct fs) => fs | _ => #[]) := rfl
  rw [Tryd.underlying25] at hf
  simp only at hf
  have hd : decide (f = g) = ((f.kind.toNat == g.kind.toNat) && ((f.epoch == g.epoch) && ((f.seq == g.seq) && (f.data.toList == g.data.toList)))) := by
    rw [Bool.eq_iff_iff]
    simp only [decide_eq_true_eq, Bool.and_eq_true, beq_iff_eq]
    constructor
    · rintro rfl; exact ⟨rfl, rfl, rfl, rfl⟩
    · rintro ⟨h1, h2, h3, h4⟩
      obtain ⟨a, b, c, d⟩ := f
      obtain ⟨a', b', c', d'⟩ := g
      simp only at h1 h2 h3 h4
      have := UInt8.toNat_inj.1 h1
      have := bytes_ext h4
      subst_vars
      rfl
  rw [hd]
  unfold frV
  generalize f.kind.toNat = k1
  generalize g.kind.toNat = k2
  generalize f.epoch = e1
  generalize g.epoch = e2
  generalize f.seq = s1
  generalize g.seq = s2
  generalize f.data = d1
  generalize g.data = d2
  rw [run_eql_struct, run_equalIn_struct _ _ _ _ _ (by rw [hf]; exact Tryd.underlying25) Tryd.frHeld, hf]
  simp only [Op.eqFields]
  go_simp
  have hk : ((k1 : Int) = (k2 : Int)) = (k1 = k2) := propext ⟨fun h => Int.ofNat.inj h, fun h => by rw [h]⟩
  by_cases h1 : k1 = k2 <;> by_cases h2 : e1 = e2 <;> by_cases h3 : s1 = s2 <;> by_cases h4 : d1.toList = d2.toList <;> simp [hk, h1, h2, h3, h4]
end Go.Proofs.YtlmampcdflbifaeDoor

namespace Go.Proofs.YtlmampcdflbifaeDoor
open Go.RowKit

theorem Tryd.info5 : (Tryd.prog.info? 5).map (fun i => (i.zero, i.size, i.bytes)) = some (some (.int .u8 0), 1, 1) := by kernel_rfl

def cellOf (b : UInt8) : Value := .int .u8 b.toNat

/-- The writer at block p, with no error, holds the bytes bs. -/
structure WrAt (p : Nat) (w : World) (bs : List UInt8) (v : Value) : Prop where
  c0 : w.cell? ⟨p, 0, none⟩ = some v
  c1 : w.cell? ⟨p, 1, none⟩ = some .nilIface
  f0 : w.frozen? ⟨p, 0, none⟩ = false
  f1 : w.frozen? ⟨p, 1, none⟩ = false
  lt : p < w.heap.size
  own : w.ownsRow (p + 1) 5 1 v bs.length (bs.map cellOf)

/-- A byte more: the new slice stored into the writer. -/
theorem WrAt.more {p : Nat} {wr w2 : World} {cur : List UInt8} {v v2 : Value} {x : Int} (h : WrAt p wr cur v) (b : UInt8) (hx : x = b.toNat) (hb2 : Below (p + 1) wr w2)
    (hown : w2.ownsRow (p + 1) 5 1 v2 (cur.length + 1) (cur.map cellOf ++ [.int .u8 x])) : WrAt p (w2.setCell ⟨p, 0, none⟩ v2) (cur ++ [b]) v2 := by
  have k0 := (hb2.cell (p := ⟨p, 0, none⟩) (by simp)).trans h.c0
  have k1 := (hb2.cell (p := ⟨p, 1, none⟩) (by simp)).trans h.c1
  have e0 := (hb2.frozen (p := ⟨p, 0, none⟩) (by simp)).trans h.f0
  have e1 := (hb2.frozen (p := ⟨p, 1, none⟩) (by simp)).trans h.f1
  have hz := hb2.size
  have hl := h.lt
  refine ⟨World.cell?_setCell_same _ _ _ k0, by rw [World.cell?_setCell_other _ _ _ _ (by simp)]; exact k1, by simpa using e0, by simpa using e1, by simp; omega, ?_⟩
  subst hx
  have := ownsRow_setCell_below hown (a := ⟨p, 0, none⟩) (by simp) v2
  simpa [cellOf] using this

/-- Every block but p that holds no bytes stays as it was. -/
def KeptT (p : Nat) (w w' : World) : Prop := ∀ g c t f, g ≠ p → t ≠ 5 → w.heap[g]? = some (.cells c t f) → w'.heap[g]? = some (.cells c t f)
theorem KeptT.refl (p : Nat) (w : World) : KeptT p w w := fun _ _ _ _ _ _ h => h
theorem KeptT.trans {p : Nat} {a b c : World} (h : KeptT p a b) (k : KeptT p b c) : KeptT p a c := fun g x t f h1 h2 h3 => k g x t f h1 h2 (h g x t f h1 h2 h3)
theorem KeptT.step {p n : Nat} {wr w2 : World} {v v2 : Value} {xs : List Value} {o : Obj} (own : wr.ownsRow (p + 1) 5 1 v n xs) (hg : (wr.alloc o).grownBy w2 v.ownBlock) : KeptT p wr (w2.setCell ⟨p, 0, none⟩ v2) := by
  intro g c t f hp ht h
  have hlt : g < wr.heap.size := (Array.getElem?_eq_some_iff.1 h).1
  have hne : some g ≠ v.ownBlock := by
    intro e
    rcases own.2 with ⟨rfl, _⟩ | ⟨g', cap, cur, rfl, _, hh, _⟩
    · cases e
    · simp only [Value.ownBlock, Option.some.injEq] at e
      subst e
      rw [hh] at h
      cases h
      exact ht rfl
  rw [Below.heap_setCell _ _ _ _ hp, hg.block g (by simp; omega) hne, Below.heap_alloc _ _ _ hlt]
  exact h

set_option maxHeartbeats 400000 in
set_option maxRecDepth 100000 in
theorem num_ok4 (p n : Nat) (bs : List UInt8) (v : Value) (w : World) (hn : n ≤ 1099511627776) (hb : bs.length ≤ 1000000) (h : WrAt p w bs v) :
    Calls Tryd.prog 17 #[.pointer (some ⟨p, 0, none⟩), .int .i64 n] w fun e w' => e = .returned (.tuple #[]) ∧ (∃ v', WrAt p w' (bs ++ Go.Num.enc n) v') ∧ Below p w w' ∧ KeptT p w w' := by
  obtain ⟨i0, hi, hz0, hz1, hz2⟩ := info_parts Tryd.info5
  have HW : Hid (WrAt p w bs v) := h
  obtain ⟨c0, c1, f0, f1, lt, own⟩ := h
  have hn0 : 0 ≤ (n : Int) := by omega
  have hn1 : (n : Int) ≤ 1099511627776 := by omega
  have hd0 : decide ((n : Int) < 0) = false := by simp
  have hd1 : decide ((1099511627776 : Int) < n) = false := by simp; omega
  have hlen := Go.Num.enc_length_le n
  go_enter Tryd.func17, Tryd.ntmps17
  go_wp2_with fail
  go_loopw [1] (fun t wr => ∃ (k m : Nat) (cur : List UInt8) (v' : Value), t = .int .i64 m ∧ m ≤ 1099511627776 ∧ m < 128 ^ (k + 1) ∧ Hid (cur ++ Go.Num.encF k m = bs ++ Go.Num.enc n) ∧ WrAt p wr cur v' ∧ Below p w wr ∧ Hid (KeptT p w wr)) (fun t _ => (intOf t).toNat)
  case atStart => exact ⟨5, n, bs, v, rfl, hn, by omega, rfl, HW.out, Below.refl _ _, KeptT.refl _ _⟩
  case round =>
    obtain ⟨k, m, cur, v', rfl, hm, hmk, He, hat, hbel, Hkt⟩ := hrel
    have HW' : Hid (WrAt p wr cur v') := hat
    have Hbel : Hid (Below p w wr) := hbel
    have hcur : cur.length ≤ 1000006 := by
      have := congrArg List.length He.out
      simp at this; omega
    clear hbel HW c0 c1 f0 f1 lt own
    obtain ⟨c0, c1, f0, f1, lt, own⟩ := hat
    by_cases hlt : 128 ≤ m
    · have hlt' : (128 : Int) ≤ m := by omega
      have hm1 : (m : Int) ≤ 1099511627776 := by omega
      go_wp2_with (at_builtin; refine wpList_append_own _ rfl (.tmp 24) (.tmp 29) 32 rfl (p + 1) 5 i0 (.int .u8 0) 1 1 Tryd.underlying32 hi hz0 hz1 hz2 rfl (by decide) v' cur.length (cur.map cellOf) rfl ?own ⟨wr.heap.size, 0, none⟩ 1 1 [.int .u8 ((m : Int) % 128 + 128)] rfl rfl ?c1 ?c2 ?b1 ?b2 ?b3 ?next)
      case own => exact own.alloc _
      case c1 => intro j u hj; match j, hj with | 0, hj => simp at hj; subst hj; simp [Addr.add]
      case c2 => intro u hu; simp at hu; subst hu; rfl
      case b1 => unfold maxLen; omega
      case b2 => omega
      case b3 => simp; omega
      case next =>
        intro v2 w2 hown hgrow _
        have hb2 : Below (p + 1) wr w2 := ((Below.refl _ _).alloc (by omega) _).grown hgrow (by simp; omega) (fun k hk => (own.lt k hk).1)
        have hfin := HW'.out.more (UInt8.ofNat (m % 128 + 128)) (by rw [Go.Num.toNat_ofNat _ (by omega)]; simp) hb2 hown
        have k0 := (hb2.cell (p := ⟨p, 0, none⟩) (by simp)).trans c0
        have e0 := (hb2.frozen (p := ⟨p, 0, none⟩) (by simp)).trans f0
        have Hk2 := hide (Hkt.out.trans (KeptT.step (v2 := v2) own hgrow))
        obtain ⟨g, c', rfl⟩ := own_form hown
        have Hfin := hide hfin
        have Hb2 := hide hb2
        clear hfin hb2 hown hgrow
        go_wp2
        go_roundw
        case rel =>
          match k with
          | 0 => simp at hmk; omega
          | k + 1 =>
            refine ⟨k, m / 128, _, _, by go_num, by omega, ?_, ?_, Hfin.out, (Hbel.out.trans (Hb2.out.mono (by omega))).setCell (by simp) _, Hk2.out⟩
            · rw [Nat.div_lt_iff_lt_mul (by omega)]
              rw [Nat.pow_succ] at hmk; exact hmk
            · have := He.out
              rw [Go.Num.encF_big _ _ hlt] at this
              simpa [Hid] using this
        case measure => simp [intOf]; omega
    · have hm1 : (m : Int) < 128 := by omega
      go_wp2_with (at_builtin; refine wpList_append_own _ rfl (.tmp 39) (.tmp 42) 32 rfl (p + 1) 5 i0 (.int .u8 0) 1 1 Tryd.underlying32 hi hz0 hz1 hz2 rfl (by decide) v' cur.length (cur.map cellOf) rfl ?own ⟨wr.heap.size, 0, none⟩ 1 1 [.int .u8 (m : Int)] rfl rfl ?c1 ?c2 ?b1 ?b2 ?b3 ?next)
      case own => exact own.alloc _
      case c1 => intro j u hj; match j, hj with | 0, hj => simp at hj; subst hj; simp [Addr.add]
      case c2 => intro u hu; simp at hu; subst hu; rfl
      case b1 => unfold maxLen; omega
      case b2 => omega
      case b3 => simp; omega
      case next =>
        intro v2 w2 hown hgrow _
        have hb2 : Below (p + 1) wr w2 := ((Below.refl _ _).alloc (by omega) _).grown hgrow (by simp; omega) (fun k hk => (own.lt k hk).1)
        have hfin := HW'.out.more (UInt8.ofNat m) (by rw [Go.Num.toNat_ofNat _ (by omega)]) hb2 hown
        have k0 := (hb2.cell (p := ⟨p, 0, none⟩) (by simp)).trans c0
        have e0 := (hb2.frozen (p := ⟨p, 0, none⟩) (by simp)).trans f0
        have Hk2 := hide (Hkt.out.trans (KeptT.step (v2 := v2) own hgrow))
        obtain ⟨g, c', rfl⟩ := own_form hown
        have Hfin := hide hfin
        have Hb2 := hide hb2
        clear hfin hb2 hown hgrow
        go_wp2
        go_end0
        have he := He.out
        rw [Go.Num.encF_small _ _ (by omega)] at he
        rw [← he]
        exact ⟨rfl, ⟨_, Hfin.out⟩, (Hbel.out.trans (Hb2.out.mono (by omega))).setCell (by simp) _, Hk2.out⟩

theorem num_ok (p n : Nat) (bs : List UInt8) (v : Value) (w : World) (hn : n ≤ 1099511627776) (hb : bs.length ≤ 1000000) (h : WrAt p w bs v) :
    Calls Tryd.prog 17 #[.pointer (some ⟨p, 0, none⟩), .int .i64 n] w fun e w' => e = .returned (.tuple #[]) ∧ (∃ v', WrAt p w' (bs ++ Go.Num.enc n) v') ∧ Below p w w' :=
  (num_ok4 p n bs v w hn hb h).mono fun _ _ ⟨h1, h2, h3, _⟩ => ⟨h1, h2, h3⟩
end Go.Proofs.YtlmampcdflbifaeDoor
