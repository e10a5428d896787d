/-
  Contracts of delta.growing and of the two calls that it answers, over this dump: ops that grow behind a pointer.
-/
import Derived.Test.YtgogjncamjbajacDoorOps
import Derived.Deep.RegionHeld3
import Derived.Deep.AppendLies
import Derived.Deep.RegionLaw
import Derived.Laws.OwnMore
namespace Go.Proofs.YtgogjncamjbajacDoor
open Go.RowKit
open Go.Delta (Opx addData addCopy dataOp copyOp kCopy kData)

/-- Ops behind the pointer of block q: their variable is block p; their row lies from base on. -/
structure GrAt (p q base : Nat) (w : World) (l : List Opx) (v : Value) : Prop where
  cq : w.cell? ⟨q, 0, none⟩ = some (.pointer (some ⟨p, 0, none⟩))
  cp : w.cell? ⟨p, 0, none⟩ = some v
  fp : w.frozen? ⟨p, 0, none⟩ = false
  own : w.ownsRow base 48 4 v l.length (ocs l)
  pq : p < q
  qb : q < base
  le : base ≤ w.heap.size
/-- All but block p and what lies from base on is as it was. -/
structure Betw (p base : Nat) (w w' : World) : Prop where
  below : Below p w w'
  mid : ∀ k, p < k → k < base → w'.heap[k]? = w.heap[k]?
theorem Betw.refl (p base : Nat) (w : World) : Betw p base w w := ⟨Below.refl _ _, fun _ _ _ => rfl⟩
theorem Betw.trans {p base : Nat} {a b c : World} (h : Betw p base a b) (k : Betw p base b c) : Betw p base a c :=
  ⟨h.below.trans k.below, fun j h1 h2 => (k.mid j h1 h2).trans (h.mid j h1 h2)⟩
theorem Betw.of_below {p base k : Nat} {w w' : World} (h : Below k w w') (hk : base ≤ k) (hp : p ≤ k) : Betw p base w w' :=
  ⟨h.mono hp, fun j _ h2 => h.block j (by omega)⟩
theorem Betw.set {p base i : Nat} {w w' : World} (h : Betw p base w w') (v : Value) : Betw p base w (w'.setCell ⟨p, i, none⟩ v) :=
  ⟨h.below.setCell (Nat.le_refl _) _, fun j h1 h2 => (Below.heap_setCell _ _ _ _ (by simp; omega)).trans (h.mid j h1 h2)⟩
theorem Betw.cell {p base : Nat} {w w' : World} (h : Betw p base w w') {a : Addr} (ha : a.block ≠ p) (hb : a.block < base) : w'.cell? a = w.cell? a := by
  apply World.cell?_of_block
  rcases Nat.lt_or_ge a.block p with h1 | h1
  · exact h.below.block _ h1
  · exact h.mid _ (by omega) hb
theorem Betw.block {p base k : Nat} {w w' : World} (h : Betw p base w w') (ha : k ≠ p) (hb : k < base) : w'.heap[k]? = w.heap[k]? := by
  rcases Nat.lt_or_ge k p with h1 | h1
  · exact h.below.block _ h1
  · exact h.mid _ (by omega) hb

/-- An op more. -/
theorem GrAt.appended {p q base gg cap : Nat} {w w1 : World} {l : List Opx} {v : Value} {ob : Obj} (h : GrAt p q base w l v) (o : Opx)
    (hown : w1.ownsRow base 48 4 (.slice (some ⟨gg, 0, none⟩) (l.length + 1) cap) (l.length + 1) (ocs l ++ ocells o)) (hgrow : (w.alloc ob).drew.grownBy w1 v.ownBlock) :
    GrAt p q base (w1.setCell ⟨p, 0, none⟩ (.slice (some ⟨gg, 0, none⟩) (l.length + 1) cap)) (l ++ [o]) (.slice (some ⟨gg, 0, none⟩) (l.length + 1) cap) ∧ Betw p base w (w1.setCell ⟨p, 0, none⟩ (.slice (some ⟨gg, 0, none⟩) (l.length + 1) cap)) := by
  obtain ⟨cq, cp, fp, own, pq, qb, le⟩ := h
  have hb : Below base w w1 := ((Below.refl base w).alloc le ob).drew.grown hgrow (by simp; try omega) (fun k hk => (own.lt k hk).1)
  have k0 := (hb.cell (p := ⟨p, 0, none⟩) (by simp; try omega)).trans cp
  have k1 := (hb.frozen (p := ⟨p, 0, none⟩) (by simp; try omega)).trans fp
  have k2 := (hb.cell (p := ⟨q, 0, none⟩) (by simp; try omega)).trans cq
  refine ⟨⟨?_, World.cell?_setCell_same _ _ _ k0, by simpa using k1, ?_, pq, qb, by have := hb.size; simp; omega⟩, (Betw.of_below hb (Nat.le_refl _) (by omega)).set _⟩
  · rw [World.cell?_setCell_other _ _ _ _ (by simp; try omega)]; exact k2
  · have := ownsRow_setCell_below hown (a := ⟨p, 0, none⟩) (by simp; try omega) (.slice (some ⟨gg, 0, none⟩) (l.length + 1) cap)
    rw [ocs_snoc, List.length_append]
    exact this
abbrev adp (p : Nat) : Addr := ⟨p, 0, none⟩
set_option maxHeartbeats 1000000 in
set_option maxRecDepth 100000 in
theorem fresh_none (q : Nat) (w : World) :
    Calls Tryd.prog 46 #[.string ⟨#[]⟩, .pointer (some ⟨q, 0, none⟩)] w fun r w' => r = .returned (.tuple #[]) ∧ w' = w := by
  go_enter Tryd.func46, Tryd.ntmps46
  go_wp2
  go_end0
  exact ⟨rfl, rfl⟩

set_option maxHeartbeats 2000000 in
set_option maxRecDepth 100000 in
theorem fresh_some (p q base : Nat) (l : List Opx) (v : Value) (s : ByteArray) (w : World) (h : GrAt p q base w l v) (hs : s.data.toList ≠ []) (hl : l.length ≤ 1000000) :
    Calls Tryd.prog 46 #[.string s, .pointer (some ⟨q, 0, none⟩)] w fun r w' => r = .returned (.tuple #[]) ∧ (∃ v', GrAt p q base w' (l ++ [⟨kData, 0, 0, s⟩]) v') ∧ Betw p base w w' := by
  obtain ⟨i0, hi, hz0, hz1, hz2⟩ := info_parts Tryd.info48
  have H := hide h
  obtain ⟨cq, cp, fp, own, pq, qb, le⟩ := h
  have lq := World.block_lt_of_cell? _ _ cq
  have lp := World.block_lt_of_cell? _ _ cp
  have hne : s.toList.isEmpty = false := by
    rw [ByteArray.toList_eq]
    simpa using hs
  have hvp : v.ownBlock ≠ some p := fun e => by have := (own.lt p e).1; omega
  have hvq : v.ownBlock ≠ some q := fun e => by have := (own.lt q e).1; omega
  have Hown := hide own
  have fz := fun o => (((Below.refl (p + 1) w).alloc lp o).drew.frozen (p := ⟨p, 0, none⟩) (by simp)).trans fp
  have qz := fun o => (((Below.refl (q + 1) w).alloc lq o).drew.cell (p := ⟨q, 0, none⟩) (by simp)).trans cq
  have cz := fun o => (((Below.refl (p + 1) w).alloc lp o).drew.cell (p := ⟨p, 0, none⟩) (by simp)).trans cp
  clear hs own
  go_enter Tryd.func46, Tryd.ntmps46
  go_wp2_with fail
  go_region_law
    ((refine step_append_lies _ (by rfl) _ _ _ (by rfl) base 48 i0 _ 4 48 Tryd.underlying30 hi hz0 hz1 hz2 rfl (by omega) v l.length (ocs l) (by rfl) ((Hown.out.alloc _).drew)
        ⟨w.heap.size, 0, none⟩ 1 1 [.string ⟨#[100, 97, 116, 97]⟩, .int .i64 0, .int .i64 0, .string s] (by rfl) (by rfl) (World.news_of_block (cs := #[.string ⟨#[100, 97, 116, 97]⟩, .int .i64 0, .int .i64 0, .string s]) (t := 48) (fr := (0, 0)) (heap_alloc_new w _)) (by simp [Value.oneCell'])
        (by omega) (by unfold maxLen; omega) (by omega) (by simp; omega) (w.heap.size + 1) (by simp) ?_; intro gg cap w1 hown1 hgrow hat hlt; have k0 := (hgrow.cell_far (adp p) (by simp; omega) (Ne.symm hvp)).trans (cz _); have k1 := (hgrow.frozen_far (adp p) (by simp; omega) (Ne.symm hvp)).trans (fz _); have k2 := (hgrow.cell_far (adp q) (by simp; omega) (Ne.symm hvq)).trans (qz _)))
  all_goals
    obtain ⟨ha, hb⟩ := H.out.appended ⟨kData, 0, 0, s⟩ hown1 hgrow
    have Ha := hide ha
    have Hb := hide hb
    clear ha hb hown1 hgrow hat k0 k1 k2 fz cz qz
    go_wp2
    go_end0
    exact ⟨rfl, ⟨_, Ha.out⟩, Hb.out⟩

theorem growFresh_ok (p q base : Nat) (l : List Opx) (v : Value) (s : ByteArray) (w : World) (h : GrAt p q base w l v) (hl : l.length ≤ 1000000) :
    Calls Tryd.prog 46 #[.string s, .pointer (some ⟨q, 0, none⟩)] w fun r w' => r = .returned (.tuple #[]) ∧ (∃ v', GrAt p q base w' (addData l s.data.toList) v') ∧ Betw p base w w' := by
  by_cases hs : s.data.toList = []
  · have : s = ⟨#[]⟩ := ext_of_list (by rw [hs])
    subst this
    refine (fresh_none q w).mono ?_
    rintro r w' ⟨rfl, rfl⟩
    exact ⟨rfl, ⟨v, by rw [addData, if_pos hs]; exact h⟩, Betw.refl _ _ _⟩
  · refine (fresh_some p q base l v s w h hs hl).mono ?_
    rintro r w' ⟨rfl, ⟨v', h'⟩, hb⟩
    refine ⟨rfl, ⟨v', ?_⟩, hb⟩
    have e : str s.data.toList = s := ext_of_list (by rw [strL])
    rw [addData, if_neg hs, dataOp, e]
    exact h'

/-! ### A block that is copied -/
/-- Ops that the program itself makes. -/
def SaneOp (o : Opx) : Prop := (o.kind = kCopy ∨ o.kind = kData) ∧ 0 ≤ o.at_ ∧ 0 ≤ o.n ∧ o.at_ + o.n ≤ 1000000
def Sane (l : List Opx) : Prop := ∀ o ∈ l, SaneOp o
theorem Sane.data {l : List Opx} (h : Sane l) (d : List UInt8) : Sane (addData l d) := by
  unfold addData
  split
  · exact h
  · intro o ho
    rcases List.mem_append.1 ho with ho | ho
    · exact h o ho
    · rw [List.mem_singleton.1 ho]; exact ⟨Or.inr rfl, by simp [dataOp]⟩
theorem Sane.copy {l : List Opx} (h : Sane l) (k : Int) (h0 : 0 ≤ k) (h1 : k < 1000000) : Sane (addCopy l k) := by
  rcases List.eq_nil_or_concat l with rfl | ⟨r, o, rfl⟩
  · intro o ho
    rw [Go.Delta.addCopy_nil, List.mem_singleton] at ho
    rw [ho]; exact ⟨Or.inl rfl, by simp only [copyOp]; omega⟩
  · rw [List.concat_eq_append] at h ⊢
    rw [Go.Delta.addCopy_snoc]
    have ho := h o (by simp)
    split
    · rename_i hc
      intro x hx
      rcases List.mem_append.1 hx with hx | hx
      · exact h x (List.mem_append_left _ hx)
      · rw [List.mem_singleton.1 hx]
        exact ⟨Or.inl hc.1, ho.2.1, by simp only; have := ho.2.2.1; omega, by simp only; omega⟩
    · intro x hx
      rcases List.mem_append.1 hx with hx | hx
      · exact h x hx
      · rw [List.mem_singleton.1 hx]; exact ⟨Or.inl rfl, by simp only [copyOp]; omega⟩

set_option maxHeartbeats 1000000 in
set_option maxRecDepth 100000 in
theorem copiesUpTo_ok (o : Opx) (k : Int) (w : World) (ho : SaneOp o) :
    Calls Tryd.prog 48 #[oval o, .int .i64 k] w fun r w' => r = .returned (.bool (decide (o.kind = kCopy ∧ o.at_ + o.n = k))) ∧ Below w.heap.size w w' := by
  obtain ⟨kd, a, n, d⟩ := o
  obtain ⟨hk, h0, h1, h2⟩ := ho
  unfold oval
  simp only at hk h0 h1 h2 ⊢
  rcases hk with rfl | rfl
  · have e : decide (kCopy = kCopy ∧ a + n = k) = (a + n == k) := by
      rw [Bool.eq_iff_iff]; simp
    rw [e]
    clear e
    unfold kCopy
    go_enter Tryd.func48, Tryd.ntmps48
    go_wp2
    go_ret
    exact ⟨rfl, (Below.refl _ _).alloc (Nat.le_refl _) _⟩
  · have e : decide (kData = kCopy ∧ a + n = k) = false := decide_eq_false (fun h => Go.Delta.kinds_ne h.1.symm)
    rw [e]
    clear e
    unfold kData
    go_enter Tryd.func48, Tryd.ntmps48
    go_wp2
    go_ret
    exact ⟨rfl, (Below.refl _ _).alloc (Nat.le_refl _) _⟩
end Go.Proofs.YtgogjncamjbajacDoor
