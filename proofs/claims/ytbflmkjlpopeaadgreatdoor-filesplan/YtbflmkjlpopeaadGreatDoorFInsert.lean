/-
  Contract of slices.Insert (at files, one file) over this dump: behind all, in place, in a new row.
-/
import Derived.Test.YtbflmkjlpopeaadGreatDoorJoin15
import Derived.Lib.Overlaps
import Derived.Lib.AppendZerosOnto
import Derived.Laws.NewBlocks
import Derived.Laws.Externs
import Derived.Deep.RegionLaw
namespace Go.Proofs.YtbflmkjlpopeaadGreatDoor
open Go.RowKit
open Go.Files (Fl)

/-! ### 'copy' at elements of two cells -/
theorem run_copy2 (w : World) (ty : TypeId) (b o dLen dCap : Nat) (ad : Addr) (sLen sCap : Nat) (cs : List Value) (hn : cs.length = Nat.min sLen dLen * 2)
    (hsrc : ∀ j v, cs[j]? = some v → w.cell? (ad.add j) = some v) (hc : ∀ j, j < cs.length → (w.cell? ⟨b, o + j, none⟩).isSome = true) (hf : ∀ j, j < cs.length → w.frozen? ⟨b, o + j, none⟩ = false) (h1 : ∀ v ∈ cs, v.oneCell' = true) :
    (Builtin.copy_ #[52, 52] ty #[.slice (some ⟨b, o, none⟩) dLen dCap, .slice (some ad) sLen sCap]).run Tryz.prog w = .ok (goInt (Nat.min sLen dLen)) (w.setCells b o cs) := by
  obtain ⟨i0, hi, hz0, hz1, hz2⟩ := info_parts Tryz.info86
  have hl := run_loadCells_list (P := Tryz.prog) w ad cs hsrc
  rw [hn] at hl
  have hst := run_storeCells_cells (P := Tryz.prog) b o cs 0 w (by simpa using hc) (by simpa using hf) h1
  simp [Builtin.copy_, run_underlying Tryz.underlying52, Builtin.lenOf, Builtin.firstCells, sizeOf, typeInfo, hi, hz1, hl, hst]

section
variable {ops : Array Oper} {rest : List Oper} {o : Oper} {a : Act} {w : World} {K : Act → World → Prop} {Q : Exit → Act → World → Prop} {E : Prop}
/-- The operation in a walk, where its run is known. -/
theorem walk_copy (hgd : o.guard = none) (d s : Operand) (T : TypeId) (ho : o.op = .call { callee := .builtin .copy, args := #[d, s], argTypes := #[T, T] }) (v u : Value) (hd : a.eval d = v) (hs : a.eval s = u) {v' : Value} {w' : World}
    (hr : ∀ ty, (Builtin.copy_ #[T, T] ty #[v, u]).run Tryz.prog w = .ok v' w') (h : wpList Tryz.prog ops Q rest (a.put o.dst v') w') : wpList Tryz.prog ops Q (o :: rest) a w := by
  refine wpList_plain hgd fun K hK => ?_
  unfold Oper.wp
  simp [execOp, ho, resolve, invoke, builtin, hd, hs, hr, Result.andThen]
  exact hK _ _ h
/-- The same in a region that draws its order. -/
theorem region_copy (hgd : o.guard = none) (d s : Operand) (T : TypeId) (ho : o.op = .call { callee := .builtin .copy, args := #[d, s], argTypes := #[T, T] }) (v u : Value) (hd : a.eval d = v) (hs : a.eval s = u) {v' : Value} {w' : World}
    (hr : ∀ ty, (Builtin.copy_ #[T, T] ty #[v, u]).run Tryz.prog w = .ok v' w') (h : K (a.put o.dst v') w') : if Region.wanted o (yielded ops a.tmps) = true then Oper.wp Tryz.prog o a w K Q else E := by
  have hw : Region.wanted o (yielded ops a.tmps) = true := by simp [Region.wanted, hgd]
  rw [if_pos hw]
  unfold Oper.wp
  simp [execOp, ho, resolve, invoke, builtin, hd, hs, hr, Result.andThen]
  exact h
end

theorem drew_cells (b : Nat) : ∀ (vs : List Value) (o : Nat) (w : World), (w.setCells b o vs).drew = w.drew.setCells b o vs
  | [], _, _ => rfl
  | v :: r, o, w => by rw [World.setCells, World.setCells, drew_cells b r]; rfl
theorem fcs_drop (l : List Fl) (i : Nat) (j : Nat) : (fcs (l.drop i))[j]? = (fcs l)[i * 2 + j]? := by
  have h : fcs l = fcs (l.take i) ++ fcs (l.drop i) := by
    show cs2 _ _ l = _
    rw [← cs2_append, List.take_append_drop]
  by_cases hi : i ≤ l.length
  · rw [h, List.getElem?_append_right (by rw [cs2_length, List.length_take]; omega), cs2_length, List.length_take]
    congr 1
    omega
  · rw [List.drop_eq_nil_of_le (by omega), List.getElem?_eq_none (by simp [cs2]), List.getElem?_eq_none (by rw [cs2_length]; omega)]

/-- A block with two cells more for each file, and one file put in at place i: how it reads. -/
theorem Held.inserted {g : Nat} {w : World} {l : List Fl} {i : Nat} {x : Fl} (hi : i < l.length)
    (h0 : ∀ j (h : j < l.length), j < i → w.cell? ⟨g, j * 2, none⟩ = some (.string l[j].name) ∧ w.cell? ⟨g, j * 2 + 1, none⟩ = some (.string l[j].data))
    (hs : ∀ k, k < (l.length + 1) * 2 → (w.cell? ⟨g, k, none⟩).isSome = true) (cap : Nat) :
    FRow ((w.setCells g ((i + 1) * 2) (fcs (l.drop i))).setCells g (i * 2) [.string x.name, .string x.data]) (.slice (some ⟨g, 0, none⟩) (l.length + 1) cap) (l.take i ++ x :: l.drop i) ∧
    FRow ((w.setCells g (i * 2) [.string x.name, .string x.data]).setCells g ((i + 1) * 2) (fcs (l.drop i))) (.slice (some ⟨g, 0, none⟩) (l.length + 1) cap) (l.take i ++ x :: l.drop i) := by
  have hlen : (l.take i ++ x :: l.drop i).length = l.length + 1 := by simp; omega
  have hdl : (fcs (l.drop i)).length = (l.length - i) * 2 := by rw [cs2_length, List.length_drop]
  have key : ∀ w' : World, (∀ k, k < i * 2 → w'.cell? ⟨g, k, none⟩ = w.cell? ⟨g, k, none⟩) → w'.cell? ⟨g, i * 2, none⟩ = some (.string x.name) → w'.cell? ⟨g, i * 2 + 1, none⟩ = some (.string x.data) → (∀ k (hk : k < (fcs (l.drop i)).length), w'.cell? ⟨g, (i + 1) * 2 + k, none⟩ = some (fcs (l.drop i))[k]) →
      FRow w' (.slice (some ⟨g, 0, none⟩) (l.length + 1) cap) (l.take i ++ x :: l.drop i) := by
    intro w' k1 k2 k3 k4
    refine ⟨_, cap, by rw [hlen], fun _ => ⟨g, 0, rfl, fun j hj => ?_⟩⟩
    rw [hlen] at hj
    rw [Nat.zero_add]
    rcases (show j < i ∨ j = i ∨ i < j by omega) with h | h | h
    · rw [List.getElem_append_left (by rw [List.length_take]; omega), List.getElem_take]
      obtain ⟨m0, m1⟩ := h0 j (by omega) h
      exact ⟨(k1 _ (by omega)).trans m0, (k1 _ (by omega)).trans m1⟩
    · subst h
      rw [List.getElem_append_right (by rw [List.length_take]; omega)]
      have e : j - (l.take j).length = 0 := by rw [List.length_take]; omega
      simp only [e, List.getElem_cons_zero]
      exact ⟨k2, k3⟩
    · rw [List.getElem_append_right (by rw [List.length_take]; omega)]
      obtain ⟨t, rfl⟩ : ∃ t, j = i + 1 + t := ⟨j - (i + 1), by omega⟩
      have e : i + 1 + t - (l.take i).length = t + 1 := by rw [List.length_take]; omega
      simp only [e, List.getElem_cons_succ]
      have ht : t < (l.drop i).length := by rw [List.length_drop]; omega
      obtain ⟨m0, m1⟩ := cs2_get (f := fun x : Fl => Value.string x.name) (g := fun x => .string x.data) (l.drop i) t ht
      have q0 := k4 (t * 2) (by rw [cs2_length]; omega)
      have q1 := k4 (t * 2 + 1) (by rw [cs2_length]; omega)
      rw [List.getElem?_eq_getElem (by rw [cs2_length]; omega)] at m0 m1
      refine ⟨?_, ?_⟩
      · rw [show (i + 1 + t) * 2 = (i + 1) * 2 + t * 2 by omega, q0]; exact m0
      · rw [show (i + 1 + t) * 2 + 1 = (i + 1) * 2 + (t * 2 + 1) by omega, q1]; exact m1
  have some1 : ∀ (W : World) (vs : List Value) (o : Nat), (∀ k, k < (l.length + 1) * 2 → (W.cell? ⟨g, k, none⟩).isSome = true) → o + vs.length ≤ (l.length + 1) * 2 → ∀ k, k < (l.length + 1) * 2 → ((W.setCells g o vs).cell? ⟨g, k, none⟩).isSome = true := by
    intro W vs o hW hov k hk
    by_cases hin : o ≤ k ∧ k < o + vs.length
    · have := World.cell?_setCells_in g vs o W (fun j hj => hW _ (by omega)) (k - o) (by omega)
      rw [show o + (k - o) = k by omega] at this
      rw [this]; rfl
    · rw [World.cell?_setCells_out g vs o W ⟨g, k, none⟩ (fun _ _ => by show k < o ∨ o + vs.length ≤ k; omega)]
      exact hW k hk
  constructor
  · refine key _ (fun k hk => ?_) ?_ ?_ (fun k hk => ?_)
    · rw [World.cell?_setCells_out _ _ _ _ _ (fun _ _ => by left; show k < i * 2; omega), World.cell?_setCells_out _ _ _ _ _ (fun _ _ => by left; show k < (i + 1) * 2; omega)]
    · exact World.cell?_setCells_in g [.string x.name, .string x.data] (i * 2) _ (fun j hj => some1 w _ _ hs (by omega) _ (by simp at hj; omega)) 0 (by simp)
    · exact World.cell?_setCells_in g [.string x.name, .string x.data] (i * 2) _ (fun j hj => some1 w _ _ hs (by omega) _ (by simp at hj; omega)) 1 (by simp)
    · rw [World.cell?_setCells_out _ _ _ _ _ (fun _ _ => by right; show i * 2 + 2 ≤ (i + 1) * 2 + k; omega)]
      exact World.cell?_setCells_in g _ _ w (fun j hj => hs _ (by omega)) k hk
  · refine key _ (fun k hk => ?_) ?_ ?_ (fun k hk => ?_)
    · rw [World.cell?_setCells_out _ _ _ _ _ (fun _ _ => by left; show k < (i + 1) * 2; omega), World.cell?_setCells_out _ _ _ _ _ (fun _ _ => by left; show k < i * 2; omega)]
    · rw [World.cell?_setCells_out _ _ _ _ _ (fun _ _ => by left; show i * 2 < (i + 1) * 2; omega)]
      exact World.cell?_setCells_in g [.string x.name, .string x.data] (i * 2) _ (fun j hj => hs _ (by simp at hj; omega)) 0 (by simp)
    · rw [World.cell?_setCells_out _ _ _ _ _ (fun _ _ => by left; show i * 2 + 1 < (i + 1) * 2; omega)]
      exact World.cell?_setCells_in g [.string x.name, .string x.data] (i * 2) _ (fun j hj => hs _ (by simp at hj; omega)) 1 (by simp)
    · exact World.cell?_setCells_in g _ _ _ (fun j hj => some1 w _ _ hs (by simp; omega) _ (by omega)) k hk

set_option maxHeartbeats 4000000 in
set_option maxRecDepth 100000 in
/-- In place. -/
theorem insert_shift (g p cap base : Nat) (l : List Fl) (i : Nat) (x : Fl) (cur : Array Value) (w : World) (hi : i < l.length) (hl : l.length ≤ 1000000) (hroom : l.length + 1 ≤ cap) (hcm : cap ≤ maxLen) (hb : base ≤ g) (hpg : p ≠ g)
    (hH : Held g w l) (hg : w.heap[g]? = some (.cells cur 86 (0, 0))) (hcs : cur.size = cap * 2) (hp : w.heap[p]? = some (.cells #[.string x.name, .string x.data] 86 (0, 0))) :
    Calls Tryz.prog 62 #[.slice (some ⟨g, 0, none⟩) l.length cap, .int .i64 i, .slice (some ⟨p, 0, none⟩) 1 1] w fun r w' => (∃ u, r = .returned u ∧ FRow w' u (l.take i ++ x :: l.drop i)) ∧ Below base w w' := by
  unfold maxLen at hcm
  have hz2 : ¬ ((i : Int) = (l.length : Int)) := by omega
  have hov : ∀ lb cb, (callFunc 78 #[.slice (some ⟨p, 0, none⟩) 1 1, .slice (some ⟨g, (i + 1) * 2, none⟩) lb cb]).run Tryz.prog w = .ok (.value (.bool false)) w := fun lb cb => by
    rw [run_callFunc_extern Tryz.func78 (by kernel_rfl) (by kernel_rfl) (by kernel_rfl) (e := Extern.SlicesOverlaps.overlaps #[52, 52] #[4]) (by kernel_rfl),
      Lib.run_overlaps_apart w 52 4 86 Tryz.underlying52 2 Tryz.sizeOf86 ⟨p, 0, none⟩ ⟨g, (i + 1) * 2, none⟩ 1 1 lb cb hpg 86 86 2 (cap * 2) (by simp [World.shape?, hp]) (by simp [World.shape?, hg, hcs]) (by omega) (by simp [World.frozen?, hp]) (by simp [World.frozen?, hp])]
    rfl
  have hw1 : IntKind.i64.wrap ((i : Int) + 1) = (i : Int) + 1 := iwrap_id _ (by omega) (by omega)
  have htn : ((i : Int) + 1).toNat = i + 1 := by omega
  have hb2 : ¬ (cap = i + 1) := by omega
  have hb3 : (i : Int) ≤ (l.length : Int) + 1 := by omega
  have hb4 : ¬ (cap = i) := by omega
  have hr1 : (l.length : Int) + 1 ≤ (cap : Int) := by omega
  have hb1 : (0 : Int) ≤ (i : Int) + 1 := by omega
  have hin : i ≤ l.length := by omega
  have hsome : ∀ k, k < (l.length + 1) * 2 → (w.cell? ⟨g, k, none⟩).isSome = true := fun k hk => by
    have : k < cur.size := by omega
    simp [World.cell?, hg, this]
  have hdl : (fcs (l.drop i)).length = (l.length - i) * 2 := by rw [cs2_length, List.length_drop]
  have hsrc : ∀ j v, (fcs (l.drop i))[j]? = some v → w.cell? ⟨g, i * 2 + j, none⟩ = some v := fun j v hj => by
    rw [fcs_drop] at hj
    obtain ⟨b, o, e, hn⟩ := Row2.news (hH.row_all (cap := cap)) (by omega)
    cases e
    have := hn _ v hj
    rw [Go.WideShapes.add_plain] at this
    simpa using this
  have hmin : Nat.min (l.length + 1 - i) (l.length + 1 - (i + 1)) = l.length - i := by simp only [Nat.min_def]; split <;> omega
  have hmin2 : Nat.min 1 (l.length + 1 - i) = 1 := by simp only [Nat.min_def]; split <;> omega
  have hcp1 : ∀ ty, (Builtin.copy_ #[52, 52] ty #[.slice (some ⟨g, (i + 1) * 2, none⟩) (l.length + 1 - (i + 1)) (cap - (i + 1)), .slice (some ⟨g, i * 2, none⟩) (l.length + 1 - i) (cap - i)]).run Tryz.prog w.drew = .ok (goInt (Nat.min (l.length + 1 - i) (l.length + 1 - (i + 1)))) (w.drew.setCells g ((i + 1) * 2) (fcs (l.drop i))) := fun ty =>
    run_copy2 w.drew ty g ((i + 1) * 2) _ _ ⟨g, i * 2, none⟩ _ _ (fcs (l.drop i)) (by rw [hmin]; exact hdl) (fun j v hj => by rw [Go.WideShapes.add_plain]; exact hsrc j v hj) (fun j hj => hsome _ (by omega)) (fun j _ => hH.fz _) (fcs_one _)
  obtain ⟨W1, hW1⟩ : ∃ W1, W1 = w.drew.setCells g ((i + 1) * 2) (fcs (l.drop i)) := ⟨_, rfl⟩
  have hcp2 : ∀ (W : World), (∀ y, W.cell? y = W1.cell? y) → (∀ y, W.frozen? y = W1.frozen? y) → ∀ ty, (Builtin.copy_ #[52, 52] ty #[.slice (some ⟨g, i * 2, none⟩) (l.length + 1 - i) (cap - i), .slice (some ⟨p, 0, none⟩) 1 1]).run Tryz.prog W = .ok (goInt (Nat.min 1 (l.length + 1 - i))) (W.setCells g (i * 2) [.string x.name, .string x.data]) := fun W hWc hWf ty =>
    run_copy2 W ty g (i * 2) _ _ ⟨p, 0, none⟩ _ _ [.string x.name, .string x.data] (by rw [hmin2]; rfl) (fun j v hj => by
        rw [Go.WideShapes.add_plain, hWc, hW1, World.cell?_setCells_out _ _ _ _ _ (fun h _ => absurd h hpg)]
        show w.cell? _ = _
        match j, hj with
        | 0, hj => simp at hj; subst hj; simp [World.cell?, hp]
        | 1, hj => simp at hj; subst hj; simp [World.cell?, hp])
      (fun j hj => by
        rw [hWc, hW1]
        have hj' : j < 2 := by simpa using hj
        by_cases hin : (i + 1) * 2 ≤ i * 2 + j
        · omega
        · rw [World.cell?_setCells_out _ _ _ _ _ (fun _ _ => by left; show i * 2 + j < (i + 1) * 2; omega)]
          exact hsome _ (by omega)) (fun j _ => by rw [hWf, hW1, World.frozen?_setCells]; exact hH.fz _) (by intro v hv; simp at hv; rcases hv with rfl | rfl <;> rfl)
  have Hrow := hide ((Held.inserted (w := w.drew) (x := x) hi (fun j h _ => hH.at_ j h) hsome cap).1)
  have Hbb : Hid (Below base w ((w.drew.setCells g ((i + 1) * 2) (fcs (l.drop i))).setCells g (i * 2) [.string x.name, .string x.data])) := below_cells hb _ _ (below_cells hb _ _ (Below.refl base w).drew)
  rw [← hW1] at hcp1
  clear hH hg hp hsome hsrc hdl hmin hmin2
  go_enter Tryz.func62, Tryz.ntmps62
  go_wp2_with (simp only [hov])
  go_region_law (refine region_copy rfl (.tmp 73) (.tmp 76) 52 rfl _ _ (by simp [Act.eval, Act.put]) (by simp [Act.eval, Act.put]) hcp1 ?_)
  all_goals
    go_wp2_with (first | (at_builtin; refine walk_copy rfl (.tmp 80) (.tmp 81) 52 rfl _ _ rfl rfl (hcp2 _ (fun _ => rfl) (fun _ => rfl)) ?_))
    go_ret
    exact ⟨⟨_, rfl, Hrow.out⟩, Hbb.out⟩

set_option maxHeartbeats 4000000 in
set_option maxRecDepth 100000 in
/-- In a new row. -/
theorem insert_grow (g p cap base : Nat) (l : List Fl) (i : Nat) (x : Fl) (w : World) (hi : i < l.length) (hl : l.length ≤ 1000000) (hnc : l.length ≤ cap) (hroom : cap < l.length + 1) (hb : base ≤ w.heap.size)
    (hH : Held g w l) (hp : w.heap[p]? = some (.cells #[.string x.name, .string x.data] 86 (0, 0))) :
    Calls Tryz.prog 62 #[.slice (some ⟨g, 0, none⟩) l.length cap, .int .i64 i, .slice (some ⟨p, 0, none⟩) 1 1] w fun r w' => (∃ u, r = .returned u ∧ FRow w' u (l.take i ++ x :: l.drop i)) ∧ Below base w w' := by
  obtain ⟨i0, hi0, hz0, hzs, hzb⟩ := info_parts Tryz.info86
  have hz2 : ¬ ((i : Int) = (l.length : Int)) := by omega
  have hz3 : (cap : Int) < (l.length : Int) + 1 := by omega
  have hbw : g < w.heap.size := hH.lt (by omega)
  have hpw : p < w.heap.size := by
    rcases Nat.lt_or_ge p w.heap.size with h | h
    · exact h
    · rw [Array.getElem?_eq_none h] at hp; cases hp
  have hkk : (l.length : Int) + 1 - (i : Int) = ((l.length + 1 - i : Nat) : Int) := by omega
  have hik : i + (l.length + 1 - i) = l.length + 1 := by omega
  have hcell : ∀ j v, (fcs l)[j]? = some v → w.cell? ⟨g, j, none⟩ = some v := fun j v hj => by
    obtain ⟨b, o, e, hn⟩ := Row2.news (hH.row_all (cap := cap)) (by omega)
    cases e
    have := hn _ v hj
    rw [Go.WideShapes.add_plain] at this
    simpa using this
  have htk : ∀ j, j < i * 2 → (fcs (l.take i))[j]? = (fcs l)[j]? := fun j hj => by
    have h : fcs l = fcs (l.take i) ++ fcs (l.drop i) := by
      show cs2 _ _ l = _
      rw [← cs2_append, List.take_append_drop]
    rw [h, List.getElem?_append_left (by rw [cs2_length, List.length_take]; omega)]
  have htl : (fcs (l.take i)).length = i * 2 := by rw [cs2_length, List.length_take]; congr 1; omega
  have hold : (Builtin.firstCells i0.size i (.slice (some ⟨g, 0, none⟩) i cap)).run Tryz.prog w.drew = .ok (fcs (l.take i)).toArray w.drew := by
    rw [hzs]
    exact run_firstCells_some w.drew 2 i ⟨g, 0, none⟩ i cap (fcs (l.take i)) htl (fun j v hj => by
      rw [Go.WideShapes.add_plain]
      have hj2 : j < i * 2 := by rw [← htl]; exact (List.getElem?_eq_some_iff.1 hj).1
      rw [htk j hj2] at hj
      have := hcell j v hj
      simpa using this)
  obtain ⟨G, hG⟩ : ∃ G, G = grownCap w (l.length + 1) cap 86 := ⟨_, rfl⟩
  obtain ⟨ROW, hROW⟩ : ∃ ROW : Array Value, ROW = (fcs (l.take i)).toArray ++ Builtin.zeroCells (Value.agg #[.string ⟨#[]⟩, .string ⟨#[]⟩]).cells (l.length + 1 - i) ++ Builtin.zeroCells (Value.agg #[.string ⟨#[]⟩, .string ⟨#[]⟩]).cells (G - (l.length + 1)) := ⟨_, rfl⟩
  have hrz : ∀ ty, (Builtin.append_ #[52, 3] ty #[.slice (some ⟨g, 0, none⟩) i cap, .int .i64 ((l.length : Int) + 1 - (i : Int))]).run Tryz.prog w = .ok (.slice (some ⟨w.heap.size, 0, none⟩) (l.length + 1) G) (w.drew.alloc (.cells ROW 86)) := fun ty => by
    have h := Lib.run_append_grow_zeros (P := Tryz.prog) w 52 3 ty 86 i0 _ .i64 .i64 Tryz.underlying52 Tryz.underlying3 hi0 hz0 (some ⟨g, 0, none⟩) i cap (fcs (l.take i)) hold (l.length + 1 - i) (by omega) (by omega) (by omega) (by omega) (by rw [hzb]; omega) (by rw [hzb, hik]; exact growslice_fits hroom (by omega))
    rw [hik, ← hG, ← hROW] at h
    rw [hkk]
    exact h
  have hRl : (l.length + 1) * 2 ≤ ROW.size := by
    rw [hROW]
    simp [Builtin.zeroCells, Value.cells, htl]
    omega
  obtain ⟨W1, hW1⟩ : ∃ W1, W1 = w.drew.alloc (.cells ROW 86) := ⟨_, rfl⟩
  rw [← hW1] at hrz
  have hN : ∀ j, j < (l.length + 1) * 2 → (W1.cell? ⟨w.heap.size, j, none⟩).isSome = true := fun j hj => by
    rw [hW1, World.cell?_alloc_at (w := w.drew) ROW _ w.heap.size j rfl, Array.getElem?_eq_getElem (by omega)]; rfl
  have hNf : ∀ j, W1.frozen? ⟨w.heap.size, j, none⟩ = false := fun j => by rw [hW1]; exact World.frozen?_alloc_at (w := w.drew) ROW _ w.heap.size j rfl
  have hNc : ∀ j (h : j < l.length), j < i → W1.cell? ⟨w.heap.size, j * 2, none⟩ = some (.string l[j].name) ∧ W1.cell? ⟨w.heap.size, j * 2 + 1, none⟩ = some (.string l[j].data) := fun j h hji => by
    obtain ⟨m0, m1⟩ := cs2_get (f := fun x : Fl => Value.string x.name) (g := fun x => .string x.data) l j h
    have e : ∀ k, k < i * 2 → W1.cell? ⟨w.heap.size, k, none⟩ = (fcs l)[k]? := fun k hk => by
      rw [hW1, World.cell?_alloc_at (w := w.drew) ROW _ w.heap.size k rfl, hROW, Array.append_assoc, Array.getElem?_append_left (by simp [htl]; omega), List.getElem?_toArray, htk k hk]
    exact ⟨(e _ (by omega)).trans m0, (e _ (by omega)).trans m1⟩
  have hOb : ∀ j v, w.cell? ⟨g, j, none⟩ = some v → W1.cell? ⟨g, j, none⟩ = some v := fun j v h => by rw [hW1, World.cell?_alloc_past (w := w.drew) _ g j hbw]; exact h
  have hOv : ∀ j, W1.cell? ⟨p, j, none⟩ = w.cell? ⟨p, j, none⟩ := fun j => by rw [hW1, World.cell?_alloc_past (w := w.drew) _ p j hpw]; rfl
  have hGn : l.length + 1 ≤ G := by rw [hG]; exact grownCap_ge w _ _ _
  have hG63 : G ≤ 9223372036854775807 := by
    have := grownCap_le_maxLen w (l.length + 1) cap 86 (by unfold maxLen; omega)
    rw [← hG] at this
    unfold maxLen at this
    omega
  have hmin : Nat.min (l.length - i) (l.length + 1 - (i + 1)) = l.length - i := by simp only [Nat.min_def]; split <;> omega
  have hmin2 : Nat.min 1 (l.length + 1 - i) = 1 := by simp only [Nat.min_def]; split <;> omega
  have hdl : (fcs (l.drop i)).length = (l.length - i) * 2 := by rw [cs2_length, List.length_drop]
  have hcpA : ∀ (W : World), (∀ y, W.cell? y = W1.cell? y) → (∀ y, W.frozen? y = W1.frozen? y) → ∀ ty, (Builtin.copy_ #[52, 52] ty #[.slice (some ⟨w.heap.size, i * 2, none⟩) (l.length + 1 - i) (G - i), .slice (some ⟨p, 0, none⟩) 1 1]).run Tryz.prog W = .ok (goInt (Nat.min 1 (l.length + 1 - i))) (W.setCells w.heap.size (i * 2) [.string x.name, .string x.data]) := fun W hWc hWf ty =>
    run_copy2 W ty w.heap.size (i * 2) _ _ ⟨p, 0, none⟩ _ _ [.string x.name, .string x.data] (by rw [hmin2]; rfl) (fun j v hj => by
        rw [Go.WideShapes.add_plain, hWc, hOv]
        match j, hj with
        | 0, hj => simp at hj; subst hj; simp [World.cell?, hp]
        | 1, hj => simp at hj; subst hj; simp [World.cell?, hp])
      (fun j hj => by rw [hWc]; exact hN _ (by simp at hj; omega)) (fun j _ => by rw [hWf]; exact hNf _) (by intro v hv; simp at hv; rcases hv with rfl | rfl <;> rfl)
  have hcpB : ∀ (W : World), (∀ y, W.cell? y = (W1.setCells w.heap.size (i * 2) [.string x.name, .string x.data]).cell? y) → (∀ y, W.frozen? y = W1.frozen? y) → ∀ ty, (Builtin.copy_ #[52, 52] ty #[.slice (some ⟨w.heap.size, (i + 1) * 2, none⟩) (l.length + 1 - (i + 1)) (G - (i + 1)), .slice (some ⟨g, i * 2, none⟩) (l.length - i) (cap - i)]).run Tryz.prog W = .ok (goInt (Nat.min (l.length - i) (l.length + 1 - (i + 1)))) (W.setCells w.heap.size ((i + 1) * 2) (fcs (l.drop i))) := fun W hWc hWf ty =>
    run_copy2 W ty w.heap.size ((i + 1) * 2) _ _ ⟨g, i * 2, none⟩ _ _ (fcs (l.drop i)) (by rw [hmin]; exact hdl) (fun j v hj => by
        rw [Go.WideShapes.add_plain, hWc, World.cell?_setCells_out _ _ _ _ _ (fun h _ => absurd h (by show g ≠ w.heap.size; omega))]
        rw [fcs_drop] at hj
        exact hOb _ v (hcell _ v hj))
      (fun j hj => by
        rw [hWc, World.cell?_setCells_out _ _ _ _ _ (fun _ _ => by right; show i * 2 + 2 ≤ (i + 1) * 2 + j; omega)]
        exact hN _ (by omega)) (fun j _ => by rw [hWf]; exact hNf _) (fcs_one _)
  have Hrow : Hid (∀ W : World, (∀ y, W.cell? y = W1.cell? y) → FRow ((W.setCells w.heap.size (i * 2) [.string x.name, .string x.data]).setCells w.heap.size ((i + 1) * 2) (fcs (l.drop i))) (.slice (some ⟨w.heap.size, 0, none⟩) (l.length + 1) G) (l.take i ++ x :: l.drop i)) := fun W hW =>
    (Held.inserted (w := W) (x := x) hi (fun j h hji => by rw [hW, hW]; exact hNc j h hji) (fun k hk => by rw [hW]; exact hN k hk) G).2
  have Hbl : Hid (∀ o vs o' vs', Below base w ((((w.alloc (.cells ROW 86)).drew.setCells w.heap.size o vs).drew).setCells w.heap.size o' vs')) := fun o vs o' vs' => below_cells hb _ _ (below_cells hb _ _ ((Below.refl base w).alloc hb _).drew).drew
  have hGi : ¬ (G = i) := by omega
  have hGim : ¬ (G = i + 1) := by omega
  have hci : ¬ (cap = i) := by omega
  have hw1 : IntKind.i64.wrap ((i : Int) + 1) = (i : Int) + 1 := iwrap_id _ (by omega) (by omega)
  have hb1 : (0 : Int) ≤ (i : Int) + 1 := by omega
  have hin : i ≤ l.length := by omega
  have htn : ((i : Int) + 1).toNat = i + 1 := by omega
  have hb3 : (i : Int) ≤ (l.length : Int) := by omega
  subst hW1
  have hE1 : ∀ y, ((w.alloc (.cells ROW 86)).drew).cell? y = (w.drew.alloc (.cells ROW 86)).cell? y := fun y => rfl
  have hE2 : ∀ y, ((w.alloc (.cells ROW 86)).drew).frozen? y = (w.drew.alloc (.cells ROW 86)).frozen? y := fun y => rfl
  have hF1 : ∀ y, (((w.alloc (.cells ROW 86)).drew.setCells w.heap.size (i * 2) [.string x.name, .string x.data]).drew).cell? y = ((w.drew.alloc (.cells ROW 86)).setCells w.heap.size (i * 2) [.string x.name, .string x.data]).cell? y := fun y => rfl
  have hF2 : ∀ y, (((w.alloc (.cells ROW 86)).drew.setCells w.heap.size (i * 2) [.string x.name, .string x.data]).drew).frozen? y = (w.drew.alloc (.cells ROW 86)).frozen? y := fun y => by
    show World.frozen? (World.setCells _ _ _ _) y = _
    rw [World.frozen?_setCells]; rfl
  clear hkk hik hold hROW hG hRl hH hp hcell htk htl hN hNf hNc hOb hOv hmin hmin2 hdl
  go_enter Tryz.func62, Tryz.ntmps62
  go_wp2_with (first
    | (at_builtin; refine Lib.wpList_append_run _ rfl _ _ _ _ rfl _ _ rfl rfl _ _ (hrz _) ?_)
    | (at_builtin; refine walk_copy rfl (.tmp 43) (.tmp 44) 52 rfl _ _ rfl rfl (hcpA _ hE1 hE2) ?_))
  go_region_law (refine region_copy rfl (.tmp 50) (.tmp 53) 52 rfl (.slice (some ⟨w.heap.size, (i + 1) * 2, none⟩) (l.length + 1 - (i + 1)) (G - (i + 1))) (.slice (some ⟨g, i * 2, none⟩) (l.length - i) (cap - i)) (by simp [Act.eval, Act.put]) (by simp [Act.eval, Act.put]) (hcpB _ hF1 hF2) ?_)
  all_goals
    go_wp2
    go_ret
    exact ⟨⟨_, rfl, by rw [drew_cells]; exact Hrow.out _ (fun y => hE1 y)⟩, Hbl.out _ _ _ _⟩

set_option maxHeartbeats 2000000 in
set_option maxRecDepth 100000 in
/-- Behind all. -/
theorem insert_end (v : Value) (p base : Nat) (l : List Fl) (x : Fl) (w : World) (hl : l.length ≤ 1000000) (hown : w.ownsRow base 86 2 v l.length (fcs l)) (hb : base ≤ w.heap.size)
    (hp : w.heap[p]? = some (.cells #[.string x.name, .string x.data] 86 (0, 0))) :
    Calls Tryz.prog 62 #[v, .int .i64 l.length, .slice (some ⟨p, 0, none⟩) 1 1] w fun r w' => (∃ u, r = .returned u ∧ FRow w' u (l ++ [x])) ∧ Below base w w' := by
  obtain ⟨i0, hi, hz0, hz1, hz2⟩ := info_parts Tryz.info86
  have Hlt := hide (fun k hk => (hown.lt k hk).1)
  have hn : ∀ j u, ([.string x.name, .string x.data] : List Value)[j]? = some u → w.cell? ((⟨p, 0, none⟩ : Addr).add j) = some u := by
    intro j u hj
    rw [Go.WideShapes.add_plain]
    match j, hj with
    | 0, hj => simp at hj; subst hj; simp [World.cell?, hp]
    | 1, hj => simp at hj; subst hj; simp [World.cell?, hp]
  have Hn := hide hn
  have Hown := hide hown
  clear hp hn
  rcases own_forms hown with ⟨rfl, h0⟩ | ⟨g, c, rfl⟩
  all_goals
    clear hown
    go_enter Tryz.func62, Tryz.ntmps62
    go_wp2_with (first | (at_builtin; refine wpList_append_own _ rfl (.tmp 23) (.tmp 24) 52 rfl base 86 i0 (.agg #[.string ⟨#[]⟩, .string ⟨#[]⟩]) 2 32 Tryz.underlying52 hi hz0 hz1 hz2 rfl (by decide) _ l.length (fcs l) rfl Hown.out ⟨p, 0, none⟩ 1 1 [.string x.name, .string x.data] rfl rfl Hn.out (by intro v hv; simp at hv; rcases hv with rfl | rfl <;> rfl) (by unfold maxLen; omega) (by omega) hb ?_; intro v5 w5 hown5 hgrow5 _; have Hb5 := hide ((Below.refl base w).grown hgrow5 hb (fun k hk => Hlt.out k hk)); have Hown5 := hide hown5; clear hown5 hgrow5))
    all_goals
      go_ret
      refine ⟨⟨_, rfl, ?_⟩, Hb5.out⟩
      have h := Hown5.out
      rw [show fcs l ++ [Value.string x.name, .string x.data] = fcs (l ++ [x]) from (cs2_snoc l x).symm] at h
      exact Row2.of_own h

/-- One file put in at a place of a row of our own. -/
theorem insert_ok (v : Value) (p base : Nat) (l : List Fl) (i : Nat) (x : Fl) (w : World) (hi : i ≤ l.length) (hl : l.length ≤ 1000000) (hown : w.ownsRow base 86 2 v l.length (fcs l)) (hb : base ≤ w.heap.size)
    (hp : w.heap[p]? = some (.cells #[.string x.name, .string x.data] 86 (0, 0))) (hpv : v.ownBlock ≠ some p) :
    Calls Tryz.prog 62 #[v, .int .i64 i, .slice (some ⟨p, 0, none⟩) 1 1] w fun r w' => (∃ u, r = .returned u ∧ FRow w' u (l.take i ++ x :: l.drop i)) ∧ Below base w w' := by
  rcases Nat.lt_or_ge i l.length with h | h
  · rcases hown.2 with ⟨_, h0⟩ | ⟨g, cap, cur, rfl, hg, hgb, hcap, hcm, hcs, _⟩
    · omega
    · have hH := Held.of_own hown
      by_cases hr : l.length + 1 ≤ cap
      · exact insert_shift g p cap base l i x cur w h hl hr hcm hg (fun e => hpv (by simp [Value.ownBlock, e])) hH hgb hcs hp
      · exact insert_grow g p cap base l i x w h hl hcap (by omega) hb hH hp
  · obtain rfl : i = l.length := by omega
    rw [List.take_length, List.drop_length]
    exact insert_end v p base l x w hl hown hb hp
end Go.Proofs.YtbflmkjlpopeaadGreatDoor
