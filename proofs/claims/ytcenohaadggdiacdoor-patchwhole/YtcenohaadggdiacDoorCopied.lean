/-
  Contract of the call that grows ops by a block that is copied, over this dump.
-/
import Derived.Test.YtcenohaadggdiacDoorJoin14
namespace Go.Proofs.YtcenohaadggdiacDoor
open Go.RowKit
open Go.Delta (Opx addData addCopy dataOp copyOp kCopy kData)

/-- One more of the last op. -/
theorem GrAt.longer {p q base g cap : Nat} {w w1 : World} {r : List Opx} {o : Opx} (h : GrAt p q base w (r ++ [o]) (.slice (some ⟨g, 0, none⟩) (r.length + 1) cap)) (hb : Below w.heap.size w w1) :
    GrAt p q base (w1.setCell ⟨g, r.length * 4 + 2, none⟩ (.int .i64 (o.n + 1))) (r ++ [⟨o.kind, o.at_, o.n + 1, o.data⟩]) (.slice (some ⟨g, 0, none⟩) (r.length + 1) cap) ∧ Betw p base w (w1.setCell ⟨g, r.length * 4 + 2, none⟩ (.int .i64 (o.n + 1))) := by
  obtain ⟨cq, cp, fp, own, pq, qb, le⟩ := h
  have lq := World.block_lt_of_cell? _ _ cq
  have lp := World.block_lt_of_cell? _ _ cp
  have own' := own_below own hb
  rw [List.length_append] at own'
  have hg := (own.lt g rfl).1
  obtain ⟨s1, s2⟩ := World.ownsRow.stored own' (r.length * 4 + 2) (.int .i64 (o.n + 1))
  have e : (ocs (r ++ [o])).set (r.length * 4 + 2) (.int .i64 (o.n + 1)) = ocs (r ++ [⟨o.kind, o.at_, o.n + 1, o.data⟩]) := by
    rw [ocs_snoc, ocs_snoc, List.set_append_right _ _ (by rw [ocs_length]; omega), ocs_length]
    congr 1
    rw [show r.length * 4 + 2 - r.length * 4 = 2 by omega]
    rfl
  rw [e] at s1
  have hbt : Betw p base w (w1.setCell ⟨g, r.length * 4 + 2, none⟩ (.int .i64 (o.n + 1))) :=
    ⟨(hb.mono (by omega)).setCell (by simp; omega) _, fun j h1 h2 => (Below.heap_setCell _ _ _ _ (by simp; omega)).trans (hb.block j (by omega))⟩
  refine ⟨⟨?_, ?_, ?_, ?_, pq, qb, by have := hb.size; simp; omega⟩, hbt⟩
  · rw [World.cell?_setCell_other _ _ _ _ (by simp; try omega)]; exact (hb.cell lq).trans cq
  · rw [World.cell?_setCell_other _ _ _ _ (by simp; try omega)]; exact (hb.cell lp).trans cp
  · have := (hb.frozen (p := ⟨p, 0, none⟩) lp).trans fp
    simpa using this
  · rw [List.length_append]; exact s1


set_option maxHeartbeats 2000000 in
set_option maxRecDepth 100000 in
/-- The first op. -/
theorem copied_first (p q base : Nat) (v : Value) (k : Int) (w : World) (h : GrAt p q base w [] v) :
    Calls Tryd.prog 74 #[.int .i64 k, .pointer (some ⟨q, 0, none⟩)] w fun r w' => r = .returned (.tuple #[]) ∧ (∃ v', GrAt p q base w' [copyOp k 1] v') ∧ Betw p base w w' := by
  obtain ⟨i0, hi, hz0, hz1, hz2⟩ := info_parts Tryd.info61
  obtain ⟨a, c, rfl⟩ : ∃ a c, v = .slice a 0 c := by
    rcases own_forms h.own with ⟨rfl, _⟩ | ⟨g, c, rfl⟩
    · exact ⟨none, 0, rfl⟩
    · exact ⟨_, c, rfl⟩
  have H := hide h
  obtain ⟨cq, cp, fp, own, pq, qb, le⟩ := h
  have lq := World.block_lt_of_cell? _ _ cq
  have lp := World.block_lt_of_cell? _ _ cp
  have hvp : (Value.slice a 0 c).ownBlock ≠ some p := fun e => by have := (own.lt p e).1; omega
  have hvq : (Value.slice a 0 c).ownBlock ≠ some q := fun e => by have := (own.lt q e).1; omega
  have Hown := hide own
  have fz := fun o => (((Below.refl (p + 1) w).alloc lp o).drew.frozen (p := ⟨p, 0, none⟩) (by simp)).trans fp
  have qz := fun o => (((Below.refl (q + 1) w).alloc lq o).drew.cell (p := ⟨q, 0, none⟩) (by simp)).trans cq
  have cz := fun o => (((Below.refl (p + 1) w).alloc lp o).drew.cell (p := ⟨p, 0, none⟩) (by simp)).trans cp
  clear own
  go_enter Tryd.func74, Tryd.ntmps74
  go_wp2_with fail
  go_region_law
    ((refine step_append_lies _ (by rfl) _ _ _ (by rfl) base 61 i0 _ 4 48 Tryd.underlying30 hi hz0 hz1 hz2 rfl (by omega) (.slice a 0 c) 0 (ocs []) (by rfl) ((Hown.out.alloc _).drew)
        ⟨w.heap.size, 0, none⟩ 1 1 [.string ⟨#[99, 111, 112, 121]⟩, .int .i64 k, .int .i64 1, .string ⟨#[]⟩] (by rfl) (by rfl) (World.news_of_block (cs := #[.string ⟨#[99, 111, 112, 121]⟩, .int .i64 k, .int .i64 1, .string ⟨#[]⟩]) (t := 61) (fr := (0, 0)) (heap_alloc_new w _)) (by simp [Value.oneCell'])
        (by omega) (by unfold maxLen; omega) (by omega) (by simp; omega) (w.heap.size + 1) (by simp) ?_; intro gg cap w9 hown1 hgrow hat hlt; have k0 := (hgrow.cell_far (adp p) (by simp; omega) (Ne.symm hvp)).trans (cz _); have k1 := (hgrow.frozen_far (adp p) (by simp; omega) (Ne.symm hvp)).trans (fz _); have k2 := (hgrow.cell_far (adp q) (by simp; omega) (Ne.symm hvq)).trans (qz _)))
  all_goals
    obtain ⟨ha, hb⟩ := H.out.appended (copyOp k 1) hown1 hgrow
    have Ha := hide ha
    have Hb := hide hb
    clear ha hb hown1 hgrow hat k0 k1 k2 fz cz qz
    go_wp2
    go_end0
    exact ⟨rfl, ⟨_, Ha.out⟩, Hb.out⟩

theorem GrAt.kept {p q base : Nat} {w w1 : World} {l : List Opx} {v : Value} (h : GrAt p q base w l v) (hb : Below w.heap.size w w1) : GrAt p q base w1 l v := by
  obtain ⟨cq, cp, fp, own, pq, qb, le⟩ := h
  have lq := World.block_lt_of_cell? _ _ cq
  have lp := World.block_lt_of_cell? _ _ cp
  exact ⟨(hb.cell lq).trans cq, (hb.cell lp).trans cp, (hb.frozen lp).trans fp, own_below own hb, pq, qb, Nat.le_trans le hb.size⟩
/-- The last op's cells. -/
theorem GrAt.last {p q base g c : Nat} {w : World} {r : List Opx} {o : Opx} (h : GrAt p q base w (r ++ [o]) (.slice (some ⟨g, 0, none⟩) (r.length + 1) c)) :
    w.cell? ⟨g, r.length * 4, none⟩ = some (.string o.kind) ∧ w.cell? ⟨g, r.length * 4 + 1, none⟩ = some (.int .i64 o.at_) ∧ w.cell? ⟨g, r.length * 4 + 2, none⟩ = some (.int .i64 o.n) ∧ w.cell? ⟨g, r.length * 4 + 3, none⟩ = some (.string o.data) ∧ w.frozen? ⟨g, r.length * 4 + 2, none⟩ = false := by
  have own := h.own
  have hg := ocs_get (r ++ [o]) r.length (by simp)
  simp only [List.getElem_concat_length] at hg
  rw [List.length_append] at own
  obtain ⟨h0, h1, h2, h3⟩ := hg
  have hn : ∀ i, i < 4 → r.length * 4 + i < (r.length + 1) * 4 := fun i hi => by omega
  exact ⟨(World.ownsRow.cellAt own _ (hn 0 (by omega))).trans h0, (World.ownsRow.cellAt own _ (hn 1 (by omega))).trans h1, (World.ownsRow.cellAt own _ (hn 2 (by omega))).trans h2, (World.ownsRow.cellAt own _ (hn 3 (by omega))).trans h3, World.ownsRow.frozenAt own _⟩

set_option maxHeartbeats 2000000 in
set_option maxRecDepth 100000 in
/-- Up to the block that the last op copies: one more. -/
theorem copied_more (p q base g c : Nat) (r : List Opx) (o : Opx) (k : Int) (w : World) (h : GrAt p q base w (r ++ [o]) (.slice (some ⟨g, 0, none⟩) (r.length + 1) c)) (ho : SaneOp o) (hr : r.length ≤ 1000000) (hk : o.kind = kCopy ∧ o.at_ + o.n = k) :
    Calls Tryd.prog 74 #[.int .i64 k, .pointer (some ⟨q, 0, none⟩)] w fun x w' => x = .returned (.tuple #[]) ∧ (∃ v', GrAt p q base w' (r ++ [⟨o.kind, o.at_, o.n + 1, o.data⟩]) v') ∧ Betw p base w w' := by
  have HC := hide (fun W => copiesUpTo_ok o k W ho)
  rw [show decide (o.kind = kCopy ∧ o.at_ + o.n = k) = true from decide_eq_true hk] at HC
  have hn0 : 0 ≤ o.n := ho.2.2.1
  have hn1 : o.n ≤ 1000000 := by have := ho.2; omega
  have hr' : (r.length : Int) ≤ 1000000 := by omega
  have H := hide h
  have hlast := h.last
  obtain ⟨cq, cp, fp, own, pq, qb, le⟩ := h
  obtain ⟨d0, d1, d2, d3, _⟩ := hlast
  unfold oval at HC
  clear own hk ho
  go_enter Tryd.func74, Tryd.ntmps74
  go_wp2_with fail
  refine (HC.out _).mono ?_
  rintro e w1 ⟨rfl, hb1⟩
  have h1 := H.out.kept hb1
  have hl1 := h1.last
  obtain ⟨ha, hb⟩ := H.out.longer hb1
  have Ha := hide ha
  have Hb := hide hb
  clear ha hb hb1 cq cp fp d0 d1 d2 d3 HC H
  obtain ⟨cq, cp, fp, own, _, _, _⟩ := h1
  obtain ⟨d0, d1, d2, d3, f2⟩ := hl1
  clear own
  go_wp2_with fail
  refine bodyPost_ret (results_none rfl _ _ _) rfl ?_
  exact ⟨rfl, ⟨_, Ha.out⟩, Hb.out⟩

set_option maxHeartbeats 2000000 in
set_option maxRecDepth 100000 in
/-- Behind an op that does not copy up to there: another one. -/
theorem copied_next (p q base g c : Nat) (r : List Opx) (o : Opx) (k : Int) (w : World) (h : GrAt p q base w (r ++ [o]) (.slice (some ⟨g, 0, none⟩) (r.length + 1) c)) (ho : SaneOp o) (hr : r.length ≤ 1000000) (hk : ¬ (o.kind = kCopy ∧ o.at_ + o.n = k)) :
    Calls Tryd.prog 74 #[.int .i64 k, .pointer (some ⟨q, 0, none⟩)] w fun x w' => x = .returned (.tuple #[]) ∧ (∃ v', GrAt p q base w' (r ++ [o] ++ [copyOp k 1]) v') ∧ Betw p base w w' := by
  obtain ⟨i0, hi, hz0, hz1, hz2⟩ := info_parts Tryd.info61
  have le0 := h.le
  have HC := hide (fun W => copiesUpTo_ok o k W ho)
  rw [show decide (o.kind = kCopy ∧ o.at_ + o.n = k) = false from decide_eq_false hk] at HC
  have hr' : (r.length : Int) ≤ 1000000 := by omega
  have H := hide h
  have hlast := h.last
  obtain ⟨cq, cp, fp, own, pq, qb, le⟩ := h
  obtain ⟨d0, d1, d2, d3, _⟩ := hlast
  unfold oval at HC
  clear own hk ho
  go_enter Tryd.func74, Tryd.ntmps74
  go_wp2_with fail
  refine (HC.out _).mono ?_
  rintro e w1 ⟨rfl, hb1⟩
  have h1 := H.out.kept hb1
  have Hb1 := hide hb1
  have H := hide h1
  clear hb1 cq cp fp d0 d1 d2 d3 HC le
  obtain ⟨cq, cp, fp, own, _, _, le⟩ := h1
  have own : w1.ownsRow base 61 4 (.slice (some ⟨g, 0, none⟩) (r.length + 1) c) (r.length + 1) (ocs (r ++ [o])) := by rw [List.length_append] at own; exact own
  generalize hg : (some ⟨g, 0, none⟩ : Option Addr) = a at *
  have Hg := hide hg
  clear hg
  have lq := World.block_lt_of_cell? _ _ cq
  have lp := World.block_lt_of_cell? _ _ cp
  have hvp : (Value.slice a (r.length + 1) c).ownBlock ≠ some p := fun e => by have := (own.lt p e).1; omega
  have hvq : (Value.slice a (r.length + 1) c).ownBlock ≠ some q := fun e => by have := (own.lt q e).1; omega
  have Hown := hide own
  have fz := fun o => (((Below.refl (p + 1) w1).alloc lp o).drew.frozen (p := ⟨p, 0, none⟩) (by simp)).trans fp
  have qz := fun o => (((Below.refl (q + 1) w1).alloc lq o).drew.cell (p := ⟨q, 0, none⟩) (by simp)).trans cq
  have cz := fun o => (((Below.refl (p + 1) w1).alloc lp o).drew.cell (p := ⟨p, 0, none⟩) (by simp)).trans cp
  clear own
  go_wp2_with fail
  go_region_law
    ((refine step_append_lies _ (by rfl) _ _ _ (by rfl) base 61 i0 _ 4 48 Tryd.underlying30 hi hz0 hz1 hz2 rfl (by omega) (.slice a (r.length + 1) c) (r.length + 1) (ocs (r ++ [o])) (by rfl) ((Hown.out.alloc _).drew)
        ⟨w1.heap.size, 0, none⟩ 1 1 [.string ⟨#[99, 111, 112, 121]⟩, .int .i64 k, .int .i64 1, .string ⟨#[]⟩] (by rfl) (by rfl) (World.news_of_block (cs := #[.string ⟨#[99, 111, 112, 121]⟩, .int .i64 k, .int .i64 1, .string ⟨#[]⟩]) (t := 61) (fr := (0, 0)) (heap_alloc_new w1 _)) (by simp [Value.oneCell'])
        (by omega) (by unfold maxLen; omega) (by omega) (by simp; omega) (w1.heap.size + 1) (by simp) ?_; intro gg cap w9 hown1 hgrow hat hlt; have k0 := (hgrow.cell_far (adp p) (by simp; omega) (Ne.symm hvp)).trans (cz _); have k1 := (hgrow.frozen_far (adp p) (by simp; omega) (Ne.symm hvp)).trans (fz _); have k2 := (hgrow.cell_far (adp q) (by simp; omega) (Ne.symm hvq)).trans (qz _)))
  all_goals
    obtain ⟨ha, hb⟩ := H.out.appended (copyOp k 1) (by rw [List.length_append]; exact hown1) hgrow
    simp only [List.length_append, List.length_cons, List.length_nil, Nat.zero_add] at ha hb
    have Ha := hide ha
    have Hb := hide ((Betw.of_below Hb1.out (Nat.le_trans le0 (Nat.le_refl _)) (by omega)).trans hb)
    clear ha hb hown1 hgrow hat k0 k1 k2 fz cz qz
    go_wp2
    go_end0
    exact ⟨rfl, ⟨_, Ha.out⟩, Hb.out⟩

theorem growCopied_ok (p q base : Nat) (l : List Opx) (v : Value) (k : Int) (w : World) (h : GrAt p q base w l v) (hs : Sane l) (hl : l.length ≤ 1000000) :
    Calls Tryd.prog 74 #[.int .i64 k, .pointer (some ⟨q, 0, none⟩)] w fun x w' => x = .returned (.tuple #[]) ∧ (∃ v', GrAt p q base w' (addCopy l k) v') ∧ Betw p base w w' := by
  rcases List.eq_nil_or_concat l with rfl | ⟨r, o, rfl⟩
  · exact copied_first p q base v k w h
  · rw [List.concat_eq_append] at *
    rw [Go.Delta.addCopy_snoc]
    have hr : r.length ≤ 1000000 := by rw [List.length_append] at hl; simp at hl; omega
    have own := h.own
    rw [List.length_append] at own
    obtain ⟨g, c, rfl⟩ := own_form own
    split
    · rename_i hk
      exact copied_more p q base g c r o k w h (hs o (by simp)) hr hk
    · rename_i hk
      exact copied_next p q base g c r o k w h (hs o (by simp)) hr hk
end Go.Proofs.YtcenohaadggdiacDoor
