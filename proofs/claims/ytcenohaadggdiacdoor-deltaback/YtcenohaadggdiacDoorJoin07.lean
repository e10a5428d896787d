/-
  Contract of the call that delta.finding answers, over this dump: the block with which a file goes on at a place.
  Contracts of delta.growing and of the two calls that it answers, over this dump: ops that grow behind a pointer.
-/
import Derived.Test.YtcenohaadggdiacDoorJoin05
import Derived.Test.YtcenohaadggdiacDoorWeakAll
import Derived.Deep.RegionHeld3
import Derived.Test.YtcenohaadggdiacDoorJoin04
import Derived.Deep.AppendLies
import Derived.Deep.RegionLaw
import Derived.Laws.OwnMore
namespace Go.Proofs.YtcenohaadggdiacDoor
open Go.RowKit Go.Maps
open Go.Sign (Blk)

/-- Sums that are rolled along: of each part of size bytes. -/
def Rolled (w : World) (v : Value) (s : List UInt8) (size : Nat) : Prop :=
  ∃ a n c, v = .slice a n c ∧ n = s.length + 1 - size ∧ (0 < n → ∃ g, a = some ⟨g, 0, none⟩ ∧ ∀ j, j < n → w.cell? ⟨g, j, none⟩ = some (.int .i64 (wk ((s.drop j).take size))))
/-- What the call holds of: the sums, the set, the blocks, the file, the size. -/
structure FEnv (b1 b2 b3 b4 b5 m : Nat) (w : World) (L : List Blk) (size : Nat) (s : ByteArray) (rv lv : Value) : Prop where
  c1 : w.cell? ⟨b1, 0, none⟩ = some rv
  c2 : w.cell? ⟨b2, 0, none⟩ = some (.map (some m))
  c3 : w.cell? ⟨b3, 0, none⟩ = some lv
  c4 : w.cell? ⟨b4, 0, none⟩ = some (.string s)
  c5 : w.cell? ⟨b5, 0, none⟩ = some (.int .i64 size)
  hr : Rolled w rv s.data.toList size
  hm : w.ownsMap Tryd.prog 3 unitElem m L.length (wset L)
  hl : RowIn w lv L

theorem look_unit {w : World} {m n : Nat} {D : DataW Unit} (h : w.ownsMap Tryd.prog 3 unitElem m n D) (x : Int) (h0 : 0 ≤ x) (h1 : x < 4294967296) :
    (Instr.lookup 119 (.map (some m)) (.int .i64 x) true).run Tryd.prog w = .ok (.tuple #[.agg #[], .bool (Maps.has D (.int .i64 x))]) w := by
  obtain ⟨v, ps, hrun, hv⟩ := h.look_ok Tryd.keyInt Tryd.underlying119 (Tryd.zeroUnit w) unitElem_mk (keyOf_int_mk Tryd.underlying3 (WalkArith.wf_i64 (by omega)) : keyOf Tryd.prog 3 (.int .i64 x) = _)
  obtain ⟨rfl, _⟩ := unitElem_inv hv
  exact hrun

/-- Where no block has the weak sum, none is found. -/
theorem find_unknown (l : List Blk) (b : Blk) (h : (l.any fun x => x.weak == b.weak) = false) : findOut l b = -1 := by
  have : ∀ (l : List Blk) (j : Nat), (l.any fun x => x.weak == b.weak) = false → findFrom b l j = -1 := by
    intro l
    induction l with
    | nil => intro j _; rfl
    | cons x r ih =>
      intro j h
      rw [List.any_cons, Bool.or_eq_false_iff] at h
      rw [findFrom, if_neg (fun e => by rw [e] at h; simp at h)]
      exact ih _ h.2
  exact this l 0 h

set_option maxHeartbeats 2000000 in
set_option maxRecDepth 100000 in
theorem find_rest (b1 b2 b3 b4 b5 m : Nat) (w : World) (L : List Blk) (size : Nat) (s : ByteArray) (rv lv : Value) (h : FEnv b1 b2 b3 b4 b5 m w L size s rv lv) (at_ : Nat)
    (hs : s.size ≤ 4000) (hz : size ≤ 64) (hL : L.length ≤ 1000000) (ha : at_ < s.size) (hge : s.size < at_ + size) :
    Calls Tryd.prog 78 #[.int .i64 at_, .pointer (some ⟨b1, 0, none⟩), .pointer (some ⟨b2, 0, none⟩), .pointer (some ⟨b3, 0, none⟩), .pointer (some ⟨b4, 0, none⟩), .pointer (some ⟨b5, 0, none⟩)] w
      fun r w' => r = .returned (.int .i64 (findOut L (blk ((s.data.toList.drop at_).take size)))) ∧ Below w.heap.size w w' := by
  obtain ⟨c1, c2, c3, c4, c5, hr, hm, hl⟩ := h
  obtain ⟨a, n, c, rfl, hn, _⟩ := hr
  rw [lenL] at hn
  have hw : (s.extract at_ s.size).data.toList = (s.data.toList.drop at_).take size := by
    rw [extractL, List.take_of_length_le (by rw [List.length_drop, lenL]; omega), List.take_of_length_le (by rw [List.length_drop, lenL]; omega)]
  have HF := hide (fun W (k : Below w.heap.size w W) => find_ok lv L (s.extract at_ s.size) W (hl.below k) hL (by rw [ByteArray.size_extract]; omega))
  rw [hw] at HF
  have hna : n ≤ at_ := by omega
  have hge' : (s.size : Int) < (at_ : Int) + (size : Int) := by omega
  have hwr : IntKind.i64.wrap ((at_ : Int) + (size : Int)) = (at_ : Int) + (size : Int) := iwrap_id _ (by omega) (by omega)
  have i0 : (0 : Int) ≤ (at_ : Int) := by omega
  have i1 : (at_ : Int) ≤ (s.size : Int) := by omega
  generalize blk ((s.data.toList.drop at_).take size) = bk at *
  clear hm hl hw hn
  go_enter Tryd.func78, Tryd.ntmps78
  go_wp2_with fail
  go_region_held3 (fun w' => w'.cell? ⟨b3, 0, none⟩ = some lv ∧ w'.cell? ⟨b4, 0, none⟩ = some (.string s) ∧ w'.cell? ⟨b5, 0, none⟩ = some (.int .i64 size))
    (first | go_keep | exact trivial)
    (first | (go_at_call 30; refine (HF.out _ (Below.refl _ _).drew).mono ?_; rintro e w1 ⟨rfl, hb1⟩; have k3 := (hb1.cell (World.block_lt_of_cell? _ _ c3)).trans c3; have k4 := (hb1.cell (World.block_lt_of_cell? _ _ c4)).trans c4; have k5 := (hb1.cell (World.block_lt_of_cell? _ _ c5)).trans c5))
  all_goals
    have Hb1 := hide hb1
    clear hb1
    go_wp2
    go_ret
    exact ⟨rfl, (Below.refl _ _).drew.trans Hb1.out⟩

set_option maxHeartbeats 2000000 in
set_option maxRecDepth 100000 in
theorem find_known (b1 b2 b3 b4 b5 m : Nat) (w : World) (L : List Blk) (size : Nat) (s : ByteArray) (rv lv : Value) (h : FEnv b1 b2 b3 b4 b5 m w L size s rv lv) (at_ : Nat)
    (hs : s.size ≤ 4000) (hz : size ≤ 64) (hz0 : 1 ≤ size) (hL : L.length ≤ 1000000) (hge : at_ + size ≤ s.size) :
    Calls Tryd.prog 78 #[.int .i64 at_, .pointer (some ⟨b1, 0, none⟩), .pointer (some ⟨b2, 0, none⟩), .pointer (some ⟨b3, 0, none⟩), .pointer (some ⟨b4, 0, none⟩), .pointer (some ⟨b5, 0, none⟩)] w
      fun r w' => r = .returned (.int .i64 (findOut L (blk ((s.data.toList.drop at_).take size)))) ∧ Below w.heap.size w w' := by
  obtain ⟨c1, c2, c3, c4, c5, hr, hm, hl⟩ := h
  obtain ⟨a, n, c, rfl, hn, hr⟩ := hr
  rw [lenL] at hn
  have hna : at_ < n := by omega
  obtain ⟨g, rfl, hc⟩ := hr (by omega)
  have cg := hc at_ hna
  have hw : (s.extract at_ (at_ + size)).data.toList = (s.data.toList.drop at_).take size := by
    rw [extractL]; congr 1; omega
  have HF := hide (fun W (k : Below w.heap.size w W) => find_ok lv L (s.extract at_ (at_ + size)) W (hl.below k) hL (by rw [ByteArray.size_extract]; omega))
  rw [hw] at HF
  have hwb := wk_bounds ((s.data.toList.drop at_).take size)
  have HK := hide (has_wset L (wk ((s.data.toList.drop at_).take size)))
  have hge' : (at_ : Int) + (size : Int) ≤ (s.size : Int) := by omega
  have hna' : (at_ : Int) < (n : Int) := by omega
  have hif : (if (s.size : Int) < (at_ : Int) + (size : Int) then (s.size : Int) else (at_ : Int) + (size : Int)) = (at_ : Int) + (size : Int) := if_neg (by omega)
  have hwr : IntKind.i64.wrap ((at_ : Int) + (size : Int)) = (at_ : Int) + (size : Int) := iwrap_id _ (by omega) (by omega)
  have i0 : (0 : Int) ≤ (at_ : Int) := by omega
  have i1 : (at_ : Int) ≤ (at_ : Int) + (size : Int) := by omega
  have Hu := hide (find_unknown L (blk ((s.data.toList.drop at_).take size)))
  rw [show (blk ((s.data.toList.drop at_).take size)).weak = wk ((s.data.toList.drop at_).take size) from rfl] at Hu
  have HL := hide (fun (W : World) (k : W.ownsMap Tryd.prog 3 unitElem m L.length (wset L)) => look_unit k (wk ((s.data.toList.drop at_).take size)) hwb.1 hwb.2)
  generalize findOut L (blk ((s.data.toList.drop at_).take size)) = R at *
  generalize wk ((s.data.toList.drop at_).take size) = x at *
  rw [HK.out] at HL
  have Hm := hide hm
  clear hc hm hl hw hn hr HK
  generalize (L.any fun b => b.weak == x) = known at *
  have t1 := HL.out w.drew Hm.out.drew
  have t2 := fun o => HL.out (w.alloc o).drew (Hm.out.alloc o).drew
  cases known with
  | false =>
    have hR := Hu.out rfl
    subst hR
    go_enter Tryd.func78, Tryd.ntmps78
    go_wp2_with fail
    go_region_held3 (fun w' => w'.cell? ⟨b1, 0, none⟩ = some (.slice (some ⟨g, 0, none⟩) n c) ∧ w'.cell? ⟨b2, 0, none⟩ = some (.map (some m)) ∧ w'.cell? ⟨g, at_, none⟩ = some (.int .i64 x) ∧ (Instr.lookup 119 (.map (some m)) (.int .i64 x) true).run Tryd.prog w' = .ok (.tuple #[.agg #[], .bool false]) w')
      (go_keep)
      (fail)
    all_goals
      clear t1 t2 HL HF
      go_wp2
      go_ret
      exact ⟨rfl, ((Below.refl _ _).alloc (Nat.le_refl _) _).drew⟩
  | true =>
    have hbn : Below w.heap.size w (w.alloc (.cells #[] 121)).drew := ((Below.refl _ _).alloc (Nat.le_refl _) _).drew
    have e3 := (hbn.cell (World.block_lt_of_cell? _ _ c3)).trans c3
    have e4 := (hbn.cell (World.block_lt_of_cell? _ _ c4)).trans c4
    have e5 := (hbn.cell (World.block_lt_of_cell? _ _ c5)).trans c5
    have Hbn := hide hbn
    have H3 := hide e3
    have H4 := hide e4
    have H5 := hide e5
    clear hbn e3 e4 e5
    go_enter Tryd.func78, Tryd.ntmps78
    go_wp2_with fail
    go_region_held3 (fun w' => w'.cell? ⟨b1, 0, none⟩ = some (.slice (some ⟨g, 0, none⟩) n c) ∧ w'.cell? ⟨b2, 0, none⟩ = some (.map (some m)) ∧ w'.cell? ⟨g, at_, none⟩ = some (.int .i64 x) ∧ (Instr.lookup 119 (.map (some m)) (.int .i64 x) true).run Tryd.prog w' = .ok (.tuple #[.agg #[], .bool true]) w')
      (go_keep)
      (fail)
    all_goals
      clear t1 t2 HL c1 c2 c3 c4 c5 cg hna hna'
      have c3 := H3.out
      have c4 := H4.out
      have c5 := H5.out
      generalize (w.alloc (.cells #[] 121)).drew = w2 at *
      go_wp2_with fail
      go_region_held3 (fun w' => w'.cell? ⟨b3, 0, none⟩ = some lv ∧ w'.cell? ⟨b4, 0, none⟩ = some (.string s) ∧ w'.cell? ⟨b5, 0, none⟩ = some (.int .i64 size))
        (first | go_keep | exact trivial)
        (first | (go_at_call 30; refine (HF.out _ Hbn.out.drew).mono ?_; rintro e w1 ⟨rfl, hb1⟩; have k3 := (hb1.cell (World.block_lt_of_cell? _ _ c3)).trans c3; have k4 := (hb1.cell (World.block_lt_of_cell? _ _ c4)).trans c4; have k5 := (hb1.cell (World.block_lt_of_cell? _ _ c5)).trans c5))
      all_goals
        have Hb1 := hide hb1
        clear hb1
        go_wp2
        go_ret
        exact ⟨rfl, bthen (Hbn.out.drew) Hb1.out⟩

theorem findAt_ok (b1 b2 b3 b4 b5 m : Nat) (w : World) (L : List Blk) (size : Nat) (s : ByteArray) (rv lv : Value) (h : FEnv b1 b2 b3 b4 b5 m w L size s rv lv) (at_ : Nat)
    (hs : s.size ≤ 4000) (hz : size ≤ 64) (hz0 : 1 ≤ size) (hL : L.length ≤ 1000000) (ha : at_ < s.size) :
    Calls Tryd.prog 78 #[.int .i64 at_, .pointer (some ⟨b1, 0, none⟩), .pointer (some ⟨b2, 0, none⟩), .pointer (some ⟨b3, 0, none⟩), .pointer (some ⟨b4, 0, none⟩), .pointer (some ⟨b5, 0, none⟩)] w
      fun r w' => r = .returned (.int .i64 (findOut L (blk ((s.data.toList.drop at_).take size)))) ∧ Below w.heap.size w w' := by
  by_cases hge : at_ + size ≤ s.size
  · exact find_known b1 b2 b3 b4 b5 m w L size s rv lv h at_ hs hz hz0 hL hge
  · exact find_rest b1 b2 b3 b4 b5 m w L size s rv lv h at_ hs hz hL ha (by omega)
end Go.Proofs.YtcenohaadggdiacDoor

namespace Go.Proofs.YtcenohaadggdiacDoor
open Go.RowKit
open Go.Delta (Opx addData addCopy dataOp copyOp kCopy kData)

/-- Ops behind the pointer of block q: their variable is block p; their row lies from base on. -/
structure GrAt (p q base : Nat) (w : World) (l : List Opx) (v : Value) : Prop where
  cq : w.cell? ⟨q, 0, none⟩ = some (.pointer (some ⟨p, 0, none⟩))
  cp : w.cell? ⟨p, 0, none⟩ = some v
  fp : w.frozen? ⟨p, 0, none⟩ = false
  own : w.ownsRow base 61 4 v l.length (ocs l)
  pq : p < q
  qb : q < base
  le : base ≤ w.heap.size
/-- All but block p and what lies from base on is as it was. -/
structure Betw (p base : Nat) (w w' : World) : Prop where
  below : Below p w w'
  mid : ∀ k, p < k → k < base → w'.heap[k]? = w.heap[k]?
theorem Betw.refl (p base : Nat) (w : World) : Betw p base w w := ⟨Below.refl _ _, fun _ _ _ => rfl⟩
theorem Betw.trans {p base : Nat} {a b c : World} (h : Betw p base a b) (k : Betw p base b c) : Betw p base a c :=
  ⟨h.below.trans k.below, fun j h1 h2 => (k.mid j h1 h2).trans (h.mid j h1 h2)⟩
theorem Betw.of_below {p base k : Nat} {w w' : World} (h : Below k w w') (hk : base ≤ k) (hp : p ≤ k) : Betw p base w w' :=
  ⟨h.mono hp, fun j _ h2 => h.block j (by omega)⟩
theorem Betw.set {p base i : Nat} {w w' : World} (h : Betw p base w w') (v : Value) : Betw p base w (w'.setCell ⟨p, i, none⟩ v) :=
  ⟨h.below.setCell (Nat.le_refl _) _, fun j h1 h2 => (Below.heap_setCell _ _ _ _ (by simp; omega)).trans (h.mid j h1 h2)⟩
theorem Betw.cell {p base : Nat} {w w' : World} (h : Betw p base w w') {a : Addr} (ha : a.block ≠ p) (hb : a.block < base) : w'.cell? a = w.cell? a := by
  apply World.cell?_of_block
  rcases Nat.lt_or_ge a.block p with h1 | h1
  · exact h.below.block _ h1
  · exact h.mid _ (by omega) hb
theorem Betw.block {p base k : Nat} {w w' : World} (h : Betw p base w w') (ha : k ≠ p) (hb : k < base) : w'.heap[k]? = w.heap[k]? := by
  rcases Nat.lt_or_ge k p with h1 | h1
  · exact h.below.block _ h1
  · exact h.mid _ (by omega) hb

/-- An op more. -/
theorem GrAt.appended {p q base gg cap : Nat} {w w1 : World} {l : List Opx} {v : Value} {ob : Obj} (h : GrAt p q base w l v) (o : Opx)
    (hown : w1.ownsRow base 61 4 (.slice (some ⟨gg, 0, none⟩) (l.length + 1) cap) (l.length + 1) (ocs l ++ ocells o)) (hgrow : (w.alloc ob).drew.grownBy w1 v.ownBlock) :
    GrAt p q base (w1.setCell ⟨p, 0, none⟩ (.slice (some ⟨gg, 0, none⟩) (l.length + 1) cap)) (l ++ [o]) (.slice (some ⟨gg, 0, none⟩) (l.length + 1) cap) ∧ Betw p base w (w1.setCell ⟨p, 0, none⟩ (.slice (some ⟨gg, 0, none⟩) (l.length + 1) cap)) := by
  obtain ⟨cq, cp, fp, own, pq, qb, le⟩ := h
  have hb : Below base w w1 := ((Below.refl base w).alloc le ob).drew.grown hgrow (by simp; try omega) (fun k hk => (own.lt k hk).1)
  have k0 := (hb.cell (p := ⟨p, 0, none⟩) (by simp; try omega)).trans cp
  have k1 := (hb.frozen (p := ⟨p, 0, none⟩) (by simp; try omega)).trans fp
  have k2 := (hb.cell (p := ⟨q, 0, none⟩) (by simp; try omega)).trans cq
  refine ⟨⟨?_, World.cell?_setCell_same _ _ _ k0, by simpa using k1, ?_, pq, qb, by have := hb.size; simp; omega⟩, (Betw.of_below hb (Nat.le_refl _) (by omega)).set _⟩
  · rw [World.cell?_setCell_other _ _ _ _ (by simp; try omega)]; exact k2
  · have := ownsRow_setCell_below hown (a := ⟨p, 0, none⟩) (by simp; try omega) (.slice (some ⟨gg, 0, none⟩) (l.length + 1) cap)
    rw [ocs_snoc, List.length_append]
    exact this
abbrev adp (p : Nat) : Addr := ⟨p, 0, none⟩
set_option maxHeartbeats 1000000 in
set_option maxRecDepth 100000 in
theorem fresh_none (q : Nat) (w : World) :
    Calls Tryd.prog 73 #[.string ⟨#[]⟩, .pointer (some ⟨q, 0, none⟩)] w fun r w' => r = .returned (.tuple #[]) ∧ w' = w := by
  go_enter Tryd.func73, Tryd.ntmps73
  go_wp2
  go_end0
  exact ⟨rfl, rfl⟩

set_option maxHeartbeats 2000000 in
set_option maxRecDepth 100000 in
theorem fresh_some (p q base : Nat) (l : List Opx) (v : Value) (s : ByteArray) (w : World) (h : GrAt p q base w l v) (hs : s.data.toList ≠ []) (hl : l.length ≤ 1000000) :
    Calls Tryd.prog 73 #[.string s, .pointer (some ⟨q, 0, none⟩)] w fun r w' => r = .returned (.tuple #[]) ∧ (∃ v', GrAt p q base w' (l ++ [⟨kData, 0, 0, s⟩]) v') ∧ Betw p base w w' := by
  obtain ⟨i0, hi, hz0, hz1, hz2⟩ := info_parts Tryd.info61
  have H := hide h
  obtain ⟨cq, cp, fp, own, pq, qb, le⟩ := h
  have lq := World.block_lt_of_cell? _ _ cq
  have lp := World.block_lt_of_cell? _ _ cp
  have hne : s.toList.isEmpty = false := by
    rw [ByteArray.toList_eq]
    simpa using hs
  have hvp : v.ownBlock ≠ some p := fun e => by have := (own.lt p e).1; omega
  have hvq : v.ownBlock ≠ some q := fun e => by have := (own.lt q e).1; omega
  have Hown := hide own
  have fz := fun o => (((Below.refl (p + 1) w).alloc lp o).drew.frozen (p := ⟨p, 0, none⟩) (by simp)).trans fp
  have qz := fun o => (((Below.refl (q + 1) w).alloc lq o).drew.cell (p := ⟨q, 0, none⟩) (by simp)).trans cq
  have cz := fun o => (((Below.refl (p + 1) w).alloc lp o).drew.cell (p := ⟨p, 0, none⟩) (by simp)).trans cp
  clear hs own
  go_enter Tryd.func73, Tryd.ntmps73
  go_wp2_with fail
  go_region_law
    ((refine step_append_lies _ (by rfl) _ _ _ (by rfl) base 61 i0 _ 4 48 Tryd.underlying30 hi hz0 hz1 hz2 rfl (by omega) v l.length (ocs l) (by rfl) ((Hown.out.alloc _).drew)
        ⟨w.heap.size, 0, none⟩ 1 1 [.string ⟨#[100, 97, 116, 97]⟩, .int .i64 0, .int .i64 0, .string s] (by rfl) (by rfl) (World.news_of_block (cs := #[.string ⟨#[100, 97, 116, 97]⟩, .int .i64 0, .int .i64 0, .string s]) (t := 61) (fr := (0, 0)) (heap_alloc_new w _)) (by simp [Value.oneCell'])
        (by omega) (by unfold maxLen; omega) (by omega) (by simp; omega) (w.heap.size + 1) (by simp) ?_; intro gg cap w1 hown1 hgrow hat hlt; have k0 := (hgrow.cell_far (adp p) (by simp; omega) (Ne.symm hvp)).trans (cz _); have k1 := (hgrow.frozen_far (adp p) (by simp; omega) (Ne.symm hvp)).trans (fz _); have k2 := (hgrow.cell_far (adp q) (by simp; omega) (Ne.symm hvq)).trans (qz _)))
  all_goals
    obtain ⟨ha, hb⟩ := H.out.appended ⟨kData, 0, 0, s⟩ hown1 hgrow
    have Ha := hide ha
    have Hb := hide hb
    clear ha hb hown1 hgrow hat k0 k1 k2 fz cz qz
    go_wp2
    go_end0
    exact ⟨rfl, ⟨_, Ha.out⟩, Hb.out⟩

theorem growFresh_ok (p q base : Nat) (l : List Opx) (v : Value) (s : ByteArray) (w : World) (h : GrAt p q base w l v) (hl : l.length ≤ 1000000) :
    Calls Tryd.prog 73 #[.string s, .pointer (some ⟨q, 0, none⟩)] w fun r w' => r = .returned (.tuple #[]) ∧ (∃ v', GrAt p q base w' (addData l s.data.toList) v') ∧ Betw p base w w' := by
  by_cases hs : s.data.toList = []
  · have : s = ⟨#[]⟩ := ext_of_list (by rw [hs])
    subst this
    refine (fresh_none q w).mono ?_
    rintro r w' ⟨rfl, rfl⟩
    exact ⟨rfl, ⟨v, by rw [addData, if_pos hs]; exact h⟩, Betw.refl _ _ _⟩
  · refine (fresh_some p q base l v s w h hs hl).mono ?_
    rintro r w' ⟨rfl, ⟨v', h'⟩, hb⟩
    refine ⟨rfl, ⟨v', ?_⟩, hb⟩
    have e : str s.data.toList = s := ext_of_list (by rw [strL])
    rw [addData, if_neg hs, dataOp, e]
    exact h'

/-! ### A block that is copied -/
/-- Ops that the program itself makes. -/
def SaneOp (o : Opx) : Prop := (o.kind = kCopy ∨ o.kind = kData) ∧ 0 ≤ o.at_ ∧ 0 ≤ o.n ∧ o.at_ + o.n ≤ 1000000
def Sane (l : List Opx) : Prop := ∀ o ∈ l, SaneOp o
theorem Sane.data {l : List Opx} (h : Sane l) (d : List UInt8) : Sane (addData l d) := by
  unfold addData
  split
  · exact h
  · intro o ho
    rcases List.mem_append.1 ho with ho | ho
    · exact h o ho
    · rw [List.mem_singleton.1 ho]; exact ⟨Or.inr rfl, by simp [dataOp]⟩
theorem Sane.copy {l : List Opx} (h : Sane l) (k : Int) (h0 : 0 ≤ k) (h1 : k < 1000000) : Sane (addCopy l k) := by
  rcases List.eq_nil_or_concat l with rfl | ⟨r, o, rfl⟩
  · intro o ho
    rw [Go.Delta.addCopy_nil, List.mem_singleton] at ho
    rw [ho]; exact ⟨Or.inl rfl, by simp only [copyOp]; omega⟩
  · rw [List.concat_eq_append] at h ⊢
    rw [Go.Delta.addCopy_snoc]
    have ho := h o (by simp)
    split
    · rename_i hc
      intro x hx
      rcases List.mem_append.1 hx with hx | hx
      · exact h x (List.mem_append_left _ hx)
      · rw [List.mem_singleton.1 hx]
        exact ⟨Or.inl hc.1, ho.2.1, by simp only; have := ho.2.2.1; omega, by simp only; omega⟩
    · intro x hx
      rcases List.mem_append.1 hx with hx | hx
      · exact h x hx
      · rw [List.mem_singleton.1 hx]; exact ⟨Or.inl rfl, by simp only [copyOp]; omega⟩

set_option maxHeartbeats 1000000 in
set_option maxRecDepth 100000 in
theorem copiesUpTo_ok (o : Opx) (k : Int) (w : World) (ho : SaneOp o) :
    Calls Tryd.prog 75 #[oval o, .int .i64 k] w fun r w' => r = .returned (.bool (decide (o.kind = kCopy ∧ o.at_ + o.n = k))) ∧ Below w.heap.size w w' := by
  obtain ⟨kd, a, n, d⟩ := o
  obtain ⟨hk, h0, h1, h2⟩ := ho
  unfold oval
  simp only at hk h0 h1 h2 ⊢
  rcases hk with rfl | rfl
  · have e : decide (kCopy = kCopy ∧ a + n = k) = (a + n == k) := by
      rw [Bool.eq_iff_iff]; simp
    rw [e]
    clear e
    unfold kCopy
    go_enter Tryd.func75, Tryd.ntmps75
    go_wp2
    go_ret
    exact ⟨rfl, (Below.refl _ _).alloc (Nat.le_refl _) _⟩
  · have e : decide (kData = kCopy ∧ a + n = k) = false := decide_eq_false (fun h => Go.Delta.kinds_ne h.1.symm)
    rw [e]
    clear e
    unfold kData
    go_enter Tryd.func75, Tryd.ntmps75
    go_wp2
    go_ret
    exact ⟨rfl, (Below.refl _ _).alloc (Nat.le_refl _) _⟩
end Go.Proofs.YtcenohaadggdiacDoor
