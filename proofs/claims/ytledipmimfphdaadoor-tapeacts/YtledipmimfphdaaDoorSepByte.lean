/-
  Bytes in a row of their own, as a text's conversion or an append lays them: none of the cells that there is room for is frozen. No function of the program.
-/
import Derived.Test.YtledipmimfphdaaDoorSep
import Derived.Lib.AppendStr
import Derived.Lib.UnsafeStr
import Derived.Laws.IdiomCopy
import Derived.Laws.IdiomStrings
import Derived.Deep.RegionLaw
namespace Go.Proofs.YtledipmimfphdaaDoor
open Go.RowKit

/-- A slice of bytes that is owned (it may be empty, it is never nil). -/
def ByF (v : Value) (bs : List UInt8) : Fam := fun M w => ∃ g cap, v = .slice (some ⟨g, 0, none⟩) bs.length cap ∧ bs.length ≤ cap ∧ cap ≤ maxLen ∧
  (∀ j, j < cap → (w.cell? ⟨g, j, none⟩).isSome = true ∧ w.frozen? ⟨g, j, none⟩ = false) ∧ (∀ j (h : j < bs.length), w.cell? ⟨g, j, none⟩ = some (.int .u8 (bs[j].toNat : Nat))) ∧ g < w.heap.size ∧ ∀ k, M k ↔ k = g
theorem ByF.fine (v : Value) (bs : List UInt8) : Fine (ByF v bs) := by
  refine ⟨fun h k hk => ?_, fun h hs hk => ?_⟩
  · obtain ⟨g, cap, _, _, _, _, _, hg, hM⟩ := h
    rw [(hM k).1 hk]; exact hg
  · obtain ⟨g, cap, h1, h2, h3, h4, h5, h6, hM⟩ := h
    have e := hk g ((hM g).2 rfl)
    refine ⟨g, cap, h1, h2, h3, fun j hj => ?_, fun j hj => ?_, Nat.lt_of_lt_of_le h6 hs, hM⟩
    · rw [World.cell?_of_block (a := ⟨g, j, none⟩) e, World.frozen?_of_block (a := ⟨g, j, none⟩) e]
      exact h4 j hj
    · rw [World.cell?_of_block (a := ⟨g, j, none⟩) e]
      exact h5 j hj
theorem addZ (g j : Nat) : (⟨g, 0, none⟩ : Addr).add j = ⟨g, j, none⟩ := by unfold Addr.add; split <;> simp_all
theorem Step.setCells {M : Foot} {b : Nat} (hb : M b) : ∀ (vs : List Value) (o : Nat) (w : World), Step M w (w.setCells b o vs) M
  | [], _, w => Step.refl M w
  | v :: r, o, w => by
    rw [World.setCells]
    exact (Step.setCell (p := ⟨b, o, none⟩) hb v).trans (Step.setCells hb r (o + 1) _)
/-- A row that is new. -/
theorem byF_new {w : World} {g n cap : Nat} {cur : Array Value} {e : TypeId} {fz : Nat × Nat} {bs : List UInt8} (hg : w.heap[g]? = some (.cells cur e fz)) (hf : fz = (0, 0) ∨ cur.size ≤ fz.1) (hn : bs.length = n) (hc : n ≤ cap) (hm : cap ≤ maxLen) (hs : cur.size = cap)
    (hb : ∀ j (h : j < bs.length), cur[j]? = some (.int .u8 (bs[j].toNat : Nat))) : Star [ByF (.slice (some ⟨g, 0, none⟩) n cap) bs] (fun k => k = g) w := by
  subst hn
  refine Star.one (ByF.fine _ _) ⟨g, cap, rfl, hc, hm, fun j hj => ?_, fun j hj => ?_, (Array.getElem?_eq_some_iff.1 hg).1, fun _ => Iff.rfl⟩
  · rw [cell_of_row w g j cur e fz hg]
    refine ⟨by rw [Array.getElem?_eq_getElem (by omega)]; rfl, ?_⟩
    obtain ⟨lo, hi⟩ := fz
    simp only [World.frozen?, hg, Bool.and_eq_false_iff, decide_eq_false_iff_not]
    rcases hf with hf | hf
    · cases hf; right; omega
    · simp only at hf; left; omega
  · rw [cell_of_row w g j cur e fz hg]
    exact hb j hj
section
variable {P : Program} {M0 : Foot} {w0 w : World} {L : List Fam}
theorem Sep.bytes {v : Value} {bs : List UInt8} (h : Sep M0 w0 (ByF v bs :: L) w) : ∃ g cap, v = .slice (some ⟨g, 0, none⟩) bs.length cap ∧ bs.length ≤ cap := by
  obtain ⟨M, ⟨g, cap, h1, h2, _⟩, _⟩ := h.head
  exact ⟨g, cap, h1, h2⟩
theorem Sep.byteCell {g n cap : Nat} {bs : List UInt8} (h : Sep M0 w0 (ByF (.slice (some ⟨g, 0, none⟩) n cap) bs :: L) w) (j : Nat) (hj : j < bs.length) : w.cell? ⟨g, j, none⟩ = some (.int .u8 (bs[j].toNat : Nat)) := by
  obtain ⟨M, ⟨g', cap', h1, _, _, _, h5, _⟩, _⟩ := h.head
  cases h1
  exact h5 j hj
/-- A text as bytes of its own. -/
theorem Sep.bytesOf (h : Sep M0 w0 L w) (src dst e : TypeId) (s : ByteArray) (hs : P.underlying src = some .string) (hd : P.underlying dst = some (.slice e)) (he : P.underlying e = some (.int .u8)) (hl : s.size ≤ 100000000) :
    ∃ g cap w', (convert src dst (.string s)).run P w = .ok (.slice (some ⟨g, 0, none⟩) s.size cap) w' ∧ g = w.heap.size ∧ Sep M0 w0 (ByF (.slice (some ⟨g, 0, none⟩) s.size cap) s.data.toList :: L) w' := by
  refine ⟨_, _, _, run_bytes_of_string w src dst e s hs hd he, rfl, ?_⟩
  have hge := grownCap_ge w s.size 0 e
  have hcm := grownCap_le_maxLen w s.size 0 e (by unfold maxLen; omega)
  have hz : (bytesRow s (grownCap w s.size 0 e)).size = grownCap w s.size 0 e := by
    rw [bytesRow, Array.size_append, Array.size_map, Array.size_replicate]
    have : s.data.size = s.size := rfl
    omega
  refine Sep.more (L1 := [_]) h (((Below.refl _ _).drew).alloc (Nat.le_refl _) _) (byF_new (heap_alloc_new w.drew _) (.inr (Nat.le_refl _)) ?_ hge hcm hz ?_) (fun k hk => by omega)
  · exact Array.length_toList
  · intro j hj
    rw [Array.length_toList] at hj
    rw [bytesRow_at s _ j hj]
    simp
/-- Bytes of its own as a text. -/
theorem Sep.bytesText {g n cap : Nat} {bs : List UInt8} (h : Sep M0 w0 (ByF (.slice (some ⟨g, 0, none⟩) n cap) bs :: L) w) (src dst e : TypeId) (hs : P.underlying src = some (.slice e)) (he : P.underlying e = some (.int .u8)) (hd : P.underlying dst = some .string) :
    (convert src dst (.slice (some ⟨g, 0, none⟩) n cap)).run P w = .ok (.string (str bs)) w := by
  have h5 := h.byteCell
  obtain ⟨_, _, h1, _⟩ := h.bytes
  cases h1
  exact run_convert_bytes_back (P := P) w src dst e ⟨g, 0, none⟩ cap bs hs he hd (fun j hj => by rw [addZ]; exact h5 j hj)
/-- The first of them. -/
theorem Sep.bytesCut {g n cap : Nat} {bs : List UInt8} (h : Sep M0 w0 (ByF (.slice (some ⟨g, 0, none⟩) n cap) bs :: L) w) (k : Nat) (hk : k ≤ bs.length) : Sep M0 w0 (ByF (.slice (some ⟨g, 0, none⟩) k cap) (bs.take k) :: L) w := by
  refine Sep.turn (L1 := [_]) h fun M hM => ⟨M, Star.one (ByF.fine _ _) ?_, Step.refl _ _⟩
  obtain ⟨g', cap', h1, h2, h3, h4, h5, h6, hm⟩ := hM
  cases h1
  have hl : (bs.take k).length = k := by rw [List.length_take]; omega
  refine ⟨g, cap, by rw [hl], by omega, h3, h4, fun j hj => ?_, h6, hm⟩
  rw [List.getElem_take]
  exact h5 j (by omega)
/-- A text behind them. -/
theorem Sep.bytesAppend (t u ty e : TypeId) (i : TypeInfo) (ht : P.underlying t = some (.slice e)) (hu : P.underlying u = some .string) (hi : P.info? e = some i) (hz : i.zero = some (.int .u8 0)) (hs1 : i.size = 1) (hb1 : i.bytes = 1)
    {v : Value} {bs : List UInt8} (h : Sep M0 w0 (ByF v bs :: L) w) (s : ByteArray) (hl : bs.length + s.size ≤ 100000000) :
    ∃ g c w', (Builtin.append_ #[t, u] ty #[v, .string s]).run P w = .ok (.slice (some ⟨g, 0, none⟩) (bs.length + s.size) c) w' ∧ Sep M0 w0 (ByF (.slice (some ⟨g, 0, none⟩) (bs.length + s.size) c) (bs ++ s.data.toList) :: L) w' := by
  obtain ⟨M, ⟨g, cap, rfl, h2, h3, h4, h5, h6, hm⟩, _⟩ := h.head
  have hsl : s.data.toList.length = s.size := Array.length_toList
  have hnl : (bs ++ s.data.toList).length = bs.length + s.size := by rw [List.length_append, hsl]
  by_cases hroom : bs.length + s.size ≤ cap
  · have hst := run_storeCells_cells (P := P) g bs.length (Lib.strCells s) 0 w
      (fun j hj => (h4 _ (by rw [Lib.strCells_length] at hj; omega)).1) (fun j hj => (h4 _ (by rw [Lib.strCells_length] at hj; omega)).2) (Lib.strCells_oneCell s)
    have hf := Lib.run_firstCells_string (P := P) w 1 s
    refine ⟨g, cap, w.setCells g bs.length (Lib.strCells s), ?_, ?_⟩
    · simp only [Nat.add_zero] at hst
      simp [Builtin.append_, run_underlying ht, run_underlying hu, sizeOf, typeInfo, hi, hs1, Builtin.lenOf, hroom, hf, addZ, hst]
    · refine Sep.turn (L1 := [_]) h fun M' hM' => ⟨M', Star.one (ByF.fine _ _) ?_, Step.setCells ?_ _ _ _⟩
      · obtain ⟨g', cap', e1, _, _, _, _, _, hm'⟩ := hM'
        cases e1
        have hin := World.cell?_setCells_in g (Lib.strCells s) bs.length w (fun j hj => (h4 _ (by rw [Lib.strCells_length] at hj; omega)).1)
        refine ⟨g, cap, by rw [hnl], by omega, h3, fun j hj => ⟨?_, by rw [World.frozen?_setCells]; exact (h4 j hj).2⟩, fun j hj => ?_, Nat.lt_of_lt_of_le h6 (Step.setCells (M := fun _ => True) trivial _ _ w).size, hm'⟩
        · by_cases h7 : bs.length ≤ j ∧ j < bs.length + s.size
          · have := hin (j - bs.length) (by rw [Lib.strCells_length]; omega)
            rw [show bs.length + (j - bs.length) = j by omega] at this
            rw [this]; rfl
          · rw [World.cell?_setCells_out g _ _ _ _ (fun _ _ => by rw [Lib.strCells_length]; simp only; omega)]
            exact (h4 j hj).1
        · rw [hnl] at hj
          by_cases h7 : bs.length ≤ j
          · have := hin (j - bs.length) (by rw [Lib.strCells_length]; omega)
            rw [show bs.length + (j - bs.length) = j by omega] at this
            rw [this, List.getElem_append_right h7]
            simp [Lib.strCells]
          · rw [World.cell?_setCells_out g _ _ _ _ (fun _ _ => by simp only; omega), h5 j (by omega), List.getElem_append_left (by omega)]
      · obtain ⟨g', cap', e1, _, _, _, _, _, hm'⟩ := hM'
        cases e1
        exact (hm' g).2 rfl
  · have holds : ∀ j x, (Lib.byteCells bs)[j]? = some x → w.cell? ((⟨g, 0, none⟩ : Addr).add j) = some x := by
      intro j x hx
      rw [addZ]
      rw [Lib.byteCells, List.getElem?_map] at hx
      cases hj : bs[j]? with
      | none => rw [hj] at hx; cases hx
      | some b =>
        obtain ⟨hjl, hb⟩ := List.getElem?_eq_some_iff.1 hj
        rw [hj] at hx
        cases hx
        rw [h5 j hjl, hb]
    have hr := Lib.run_append_grow_string (P := P) w t u ty e i (.int .u8 0) ht hu hi hz ⟨g, 0, none⟩ bs.length cap (Lib.byteCells bs) (by rw [hs1, Lib.byteCells_length]; omega) holds s (by omega) (by omega) (by rw [hb1]; exact growslice_fits (by omega) (by omega))
    have hge := grownCap_ge w (bs.length + s.size) cap e
    have hcm := grownCap_le_maxLen w (bs.length + s.size) cap e (by unfold maxLen; omega)
    refine ⟨_, _, _, hr, ?_⟩
    refine Sep.more (L1 := [_]) h.drop (((Below.refl _ _).drew).alloc (Nat.le_refl _) _) (byF_new (heap_alloc_new w.drew _) (.inl rfl) hnl hge hcm ?_ ?_) (fun k hk => by omega)
    · have hz1 : (Value.int IntKind.u8 0).cells.size = 1 := rfl
      simp only [Array.size_append, List.size_toArray, size_zeroCells, hz1, Lib.byteCells_length, Lib.strCells_length]
      omega
    · intro j hj
      have e1 : Lib.byteCells bs ++ Lib.strCells s = Lib.byteCells (bs ++ s.data.toList) := by rw [Lib.byteCells_append, Lib.strCells_eq]
      rw [Array.getElem?_append_left (by simp [Lib.byteCells_length, Lib.strCells_length]; rw [hnl] at hj; exact hj)]
      rw [show (Lib.byteCells bs).toArray ++ (Lib.strCells s).toArray = (Lib.byteCells (bs ++ s.data.toList)).toArray by rw [← e1]; simp]
      rw [List.getElem?_toArray, Lib.byteCells, List.getElem?_map, List.getElem?_eq_getElem hj]
      rfl
end

/-- At the operation. -/
theorem wpList_append_bytes {P : Program} {w : World} {M0 : Foot} {w0 : World} {L : List Fam} {ops : Array Oper} {rest : List Oper} {o : Oper} {a : Act} {Q : Exit → Act → World → Prop} (hgd : o.guard = none) (sl x : Operand) (t u : TypeId)
    (ho : o.op = .call { callee := .builtin .append, args := #[sl, x], argTypes := #[t, u] })
    (e : TypeId) (i : TypeInfo) (ht : P.underlying t = some (.slice e)) (hu : P.underlying u = some .string) (hi : P.info? e = some i) (hz : i.zero = some (.int .u8 0)) (hs1 : i.size = 1) (hb1 : i.bytes = 1)
    (v : Value) (bs : List UInt8) (hs : a.eval sl = v) (hS : Sep M0 w0 (ByF v bs :: L) w) (s : ByteArray) (hx : a.eval x = .string s) (hl : bs.length + s.size ≤ 100000000)
    (h : ∀ g c w', Sep M0 w0 (ByF (.slice (some ⟨g, 0, none⟩) (bs.length + s.size) c) (bs ++ s.data.toList) :: L) w' → wpList P ops Q rest (a.put o.dst (.slice (some ⟨g, 0, none⟩) (bs.length + s.size) c)) w') : wpList P ops Q (o :: rest) a w := by
  refine wpList_plain hgd fun K hK => ?_
  obtain ⟨g, c, w', hr, h2⟩ := hS.bytesAppend t u o.type e i ht hu hi hz hs1 hb1 s hl
  unfold Oper.wp
  simp [execOp, ho, resolve, invoke, builtin, hs, hx, hr, Result.andThen]
  exact hK _ _ (h g c w' h2)
/-- As one step of a region that draws. -/
theorem region_append_bytes {P : Program} {w : World} {M0 : Foot} {w0 : World} {L : List Fam} {ops : Array Oper} {o : Oper} {a : Act} {K : Act → World → Prop} {Q : Exit → Act → World → Prop} {E : Prop} (hgd : o.guard = none) (sl x : Operand) (t u : TypeId)
    (ho : o.op = .call { callee := .builtin .append, args := #[sl, x], argTypes := #[t, u] })
    (e : TypeId) (i : TypeInfo) (ht : P.underlying t = some (.slice e)) (hu : P.underlying u = some .string) (hi : P.info? e = some i) (hz : i.zero = some (.int .u8 0)) (hs1 : i.size = 1) (hb1 : i.bytes = 1)
    (v : Value) (bs : List UInt8) (hs : a.eval sl = v) (hS : Sep M0 w0 (ByF v bs :: L) w) (s : ByteArray) (hx : a.eval x = .string s) (hl : bs.length + s.size ≤ 100000000)
    (h : ∀ g c w', Sep M0 w0 (ByF (.slice (some ⟨g, 0, none⟩) (bs.length + s.size) c) (bs ++ s.data.toList) :: L) w' → K (a.put o.dst (.slice (some ⟨g, 0, none⟩) (bs.length + s.size) c)) w') : if Region.wanted o (yielded ops a.tmps) = true then Oper.wp P o a w K Q else E := by
  have hw : Region.wanted o (yielded ops a.tmps) = true := by simp [Region.wanted, hgd]
  rw [if_pos hw]
  obtain ⟨g, c, w', hr, h2⟩ := hS.bytesAppend t u o.type e i ht hu hi hz hs1 hb1 s hl
  unfold Oper.wp
  simp [execOp, ho, resolve, invoke, builtin, hs, hx, hr, Result.andThen]
  exact h g c w' h2
end Go.Proofs.YtledipmimfphdaaDoor
