/-
  A map from texts to ints, as an object that lies apart: it reads as a list of texts and numbers, each text once. No function of the program.
-/
import Derived.Test.YtogpjblikphpcaaGreatDoorMapL
import Derived.Sort.KeysCollected
import Derived.WideKeyEntry
import Derived.StringKeys
namespace Go.Proofs.YtogpjblikphpcaaGreatDoor
open Go.RowKit Go.Maps Go.ChangeMaps

abbrev kS (t : ByteArray) : Lit := .string t.data.toList
abbrev vI (n : Int) : Value := .int .i64 n
theorem kS_ne {n m : ByteArray} (h : n ≠ m) : kS n ≠ kS m := fun e => by
  simp only [kS, Lit.string.injEq] at e
  exact h (ByteArray.ext (Array.ext' e))
theorem kS_key (n : ByteArray) : WideAt.IsKeyLit (kS n) := trivial
theorem keyOf_text {P : Program} {k : TypeId} (hk : P.underlying k = some .string) {t : ByteArray} (ht : t.size ≤ maxLen) : keyOf P k (.string t) = some (kS t) := by
  have := WideMaps.keyOf_string_mk hk ht
  exact this

abbrev AssocS := List (ByteArray × Int)
def AssocS.get : AssocS → ByteArray → Option Int
  | [], _ => none
  | p :: r, t => if p.1 = t then some p.2 else AssocS.get r t
structure SReads (D : DataW Value) (l : AssocS) : Prop where
  tidy : Tidy D
  nodup : (l.map Prod.fst).Nodup
  size : Maps.size D = l.length
  at_ : ∀ p ∈ l, Maps.has D (kS p.1) = true ∧ ∀ z, D.atKey (kS p.1) z = .held (vI p.2)
  back : ∀ t, Maps.has D (kS t) = true → ∃ v, (t, v) ∈ l
theorem SReads.empty : SReads (.map []) [] := ⟨tidy_empty, by simp, rfl, fun p h => by simp at h, fun n h => by simp [Maps.has] at h⟩
theorem SReads.perm {D : DataW Value} {l l' : AssocS} (h : SReads D l) (hp : l.Perm l') : SReads D l' :=
  ⟨h.tidy, (hp.map Prod.fst).nodup_iff.1 h.nodup, by rw [h.size, hp.length_eq], fun p hm => h.at_ p (hp.mem_iff.2 hm), fun n hn => by
    obtain ⟨v, hv⟩ := h.back n hn
    exact ⟨v, hp.mem_iff.1 hv⟩⟩
theorem AssocS.get_mem : ∀ {l : AssocS} {t : ByteArray} {n : Int}, AssocS.get l t = some n → (t, n) ∈ l
  | [], _, _, h => by cases h
  | p :: r, t, n, h => by
    rw [AssocS.get] at h
    split at h
    · rename_i e
      cases h
      subst e
      exact List.mem_cons_self ..
    · exact List.mem_cons_of_mem _ (AssocS.get_mem h)
theorem AssocS.get_none : ∀ {l : AssocS} {t : ByteArray}, AssocS.get l t = none ↔ ∀ p ∈ l, p.1 ≠ t
  | [], t => by simp [AssocS.get]
  | p :: r, t => by
    rw [AssocS.get]
    split
    · rename_i e
      simp [e]
    · rename_i e
      rw [AssocS.get_none (l := r)]
      simp only [List.mem_cons, forall_eq_or_imp, ne_eq, e, not_false_eq_true, true_and]
theorem SReads.hasNot {D : DataW Value} {l : AssocS} (h : SReads D l) {t : ByteArray} (hn : ∀ p ∈ l, p.1 ≠ t) : Maps.has D (kS t) = false := by
  cases e : Maps.has D (kS t) with
  | false => rfl
  | true => obtain ⟨v, hv⟩ := h.back t e; exact absurd rfl (hn _ hv)
/-- A look-up. -/
theorem SReads.look {D : DataW Value} {l : AssocS} (h : SReads D l) (t : ByteArray) (z : Int) : Maps.has D (kS t) = (l.get t).isSome ∧ D.atKey (kS t) (.held (vI z)) = .held (vI ((l.get t).getD z)) := by
  cases e : l.get t with
  | some v =>
    obtain ⟨h1, h2⟩ := h.at_ _ (AssocS.get_mem e)
    exact ⟨h1, h2 _⟩
  | none =>
    have hf := h.hasNot (AssocS.get_none.1 e)
    exact ⟨hf, atKey_of_not_has hf _⟩
theorem SReads.put {D : DataW Value} {l : AssocS} (h : SReads D l) {t : ByteArray} (hn : ∀ p ∈ l, p.1 ≠ t) (v : Int) : SReads (D.put (kS t) (.held (vI v))) ((t, v) :: l) := by
  have hf := h.hasNot hn
  refine ⟨h.tidy.put (kS_key t) _, ?_, ?_, ?_, ?_⟩
  · rw [List.map_cons, List.nodup_cons]
    refine ⟨fun hm => ?_, h.nodup⟩
    obtain ⟨p, hp, e⟩ := List.mem_map.1 hm
    exact hn p hp e
  · rw [size_put h.tidy, hf, h.size]; rfl
  · intro p hp
    rcases List.mem_cons.1 hp with e | e
    · subst e
      exact ⟨has_put_same h.tidy.isMap (kS_key t) _, fun z => atKey_put_same h.tidy.isMap (kS_key t) _ z⟩
    · have hne := kS_ne (hn p e)
      obtain ⟨h1, h2⟩ := h.at_ p e
      exact ⟨(has_put_other hne _).trans h1, fun z => (atKey_put_other hne _ z).trans (h2 z)⟩
  · intro m hm
    by_cases e : m = t
    · subst e; exact ⟨v, List.mem_cons_self ..⟩
    · rw [has_put_other (kS_ne e)] at hm
      obtain ⟨u, hu⟩ := h.back m hm
      exact ⟨u, List.mem_cons_of_mem _ hu⟩
/-- A store to a text that is there. -/
theorem SReads.turn {D : DataW Value} {l : AssocS} (h : SReads D l) {t : ByteArray} (hs : (l.get t).isSome = true) (v : Int) : SReads (D.put (kS t) (.held (vI v))) (l.map fun p => if p.1 = t then (t, v) else p) := by
  have hk : (l.map fun p => if p.1 = t then (t, v) else p).map Prod.fst = l.map Prod.fst := by
    rw [List.map_map]
    refine List.map_congr_left fun p _ => ?_
    simp only [Function.comp_apply]
    split
    · rename_i e; exact e.symm
    · rfl
  refine ⟨h.tidy.put (kS_key t) _, by rw [hk]; exact h.nodup, ?_, ?_, ?_⟩
  · rw [size_put h.tidy, (h.look t 0).1, hs, h.size, List.length_map]; rfl
  · intro p hp
    obtain ⟨q, hq, e⟩ := List.mem_map.1 hp
    by_cases he : q.1 = t
    · rw [if_pos he] at e
      subst e
      exact ⟨has_put_same h.tidy.isMap (kS_key t) _, fun z => atKey_put_same h.tidy.isMap (kS_key t) _ z⟩
    · rw [if_neg he] at e
      subst e
      have hne := kS_ne he
      obtain ⟨h1, h2⟩ := h.at_ q hq
      exact ⟨(has_put_other hne _).trans h1, fun z => (atKey_put_other hne _ z).trans (h2 z)⟩
  · intro m hm
    by_cases e : m = t
    · subst e
      obtain ⟨u, hu⟩ := Option.isSome_iff_exists.1 hs
      exact ⟨v, List.mem_map.2 ⟨_, AssocS.get_mem hu, if_pos rfl⟩⟩
    · rw [has_put_other (kS_ne e)] at hm
      obtain ⟨u, hu⟩ := h.back m hm
      exact ⟨u, List.mem_map.2 ⟨_, hu, if_neg e⟩⟩

/-- Block b is a map that reads as this list. -/
def MapS (P : Program) (k : TypeId) (b : Nat) (l : AssocS) : Fam := fun M w => (∃ D, w.ownsMap P k asIs b l.length D ∧ SReads D l) ∧ ∀ j, M j ↔ j = b
theorem MapS.fine (P : Program) (k : TypeId) (b : Nat) (l : AssocS) : Fine (MapS P k b l) := by
  refine ⟨fun h j hj => ?_, fun h hs hk => ?_⟩
  · obtain ⟨⟨D, hD, _⟩, hM⟩ := h
    obtain rfl := (hM j).1 hj
    exact hD.lt
  · obtain ⟨⟨D, ⟨es, clock, hb, r⟩, hl⟩, hM⟩ := h
    exact ⟨⟨D, ⟨es, clock, (hk b ((hM b).2 rfl)).trans hb, r⟩, hl⟩, hM⟩
theorem Sep.textMade {M0 : Foot} {w0 w : World} {L : List Fam} (h : Sep M0 w0 L w) (P : Program) (k : TypeId) : Sep M0 w0 (MapS P k w.heap.size [] :: L) (w.alloc (.map #[] 0)) :=
  Sep.more (L1 := [_]) h ((Below.refl _ _).alloc (Nat.le_refl _) _) (Star.one (M := fun k => k = w.heap.size) (MapS.fine _ _ _ _) ⟨⟨_, World.ownsMap_made _ _ _ _, SReads.empty⟩, fun _ => Iff.rfl⟩) (fun _ e => by omega)
theorem Sep.textPerm {P : Program} {k : TypeId} {b : Nat} {l l' : AssocS} {M0 : Foot} {w0 w : World} {L : List Fam} (h : Sep M0 w0 (MapS P k b l :: L) w) (hp : l.Perm l') : Sep M0 w0 (MapS P k b l' :: L) w :=
  Sep.turn (L1 := [_]) h fun M ⟨⟨D, hD, hl⟩, hM⟩ => ⟨M, Star.one (MapS.fine _ _ _ _) ⟨⟨D, hp.length_eq ▸ hD, hl.perm hp⟩, hM⟩, Step.refl _ _⟩

section ops
variable {P : Program} {k : TypeId} {b : Nat} {l : AssocS} {M0 : Foot} {w0 w : World} {L : List Fam}
theorem Sep.textLook (h : Sep M0 w0 (MapS P k b l :: L) w) (hk : P.underlying k = some .string) {t e : TypeId} (ht : P.underlying t = some (.map k e)) (hz : (zeroValue e).run P w = .ok (vI 0) w) {n : ByteArray} (hn : n.size ≤ maxLen) :
    (Instr.lookup t (.map (some b)) (.string n) true).run P w = .ok (.tuple #[vI ((l.get n).getD 0), .bool (l.get n).isSome]) w := by
  obtain ⟨M, ⟨⟨D, hD, hl⟩, _⟩, _⟩ := h.head
  obtain ⟨v, ps, hrun, hv⟩ := hD.look_ok (string_keyed hk) ht hz (zd := .held (vI 0)) (zp := []) rfl (keyOf_text hk hn)
  obtain ⟨h1, h2⟩ := hl.look n 0
  rw [h2] at hv
  have := asIs_inv hv
  simp only [DataW.held.injEq] at this
  rw [hrun, this, show Maps.has D (.string n.data.toList) = _ from h1]
theorem Sep.textLook1 (h : Sep M0 w0 (MapS P k b l :: L) w) (hk : P.underlying k = some .string) {t e : TypeId} (ht : P.underlying t = some (.map k e)) (hz : (zeroValue e).run P w = .ok (vI 0) w) {n : ByteArray} (hn : n.size ≤ maxLen) :
    (Instr.lookup t (.map (some b)) (.string n) false).run P w = .ok (vI ((l.get n).getD 0)) w := by
  obtain ⟨M, ⟨⟨D, hD, hl⟩, _⟩, _⟩ := h.head
  obtain ⟨v, ps, hrun, hv⟩ := hD.lookup (string_keyed hk) ht hz (zd := .held (vI 0)) (zp := []) rfl (keyOf_text hk hn)
  obtain ⟨h1, h2⟩ := hl.look n 0
  rw [h2] at hv
  have := asIs_inv hv
  simp only [DataW.held.injEq] at this
  rw [hrun, this]
theorem Sep.textLen (h : Sep M0 w0 (MapS P k b l :: L) w) {t e : TypeId} (ht : P.underlying t = some (.map k e)) (ty : TypeId) : (Builtin.len_ #[t] ty #[.map (some b)]).run P w = .ok (.int .i64 l.length) w := by
  obtain ⟨M, ⟨⟨D, hD, hl⟩, _⟩, _⟩ := h.head
  rw [hD.len ht ty, hl.size]
/-- What a store makes of the list. -/
def AssocS.set (l : AssocS) (n : ByteArray) (v : Int) : AssocS := if (l.get n).isSome then l.map (fun p => if p.1 = n then (n, v) else p) else (n, v) :: l
theorem SReads.set {D : DataW Value} {l : AssocS} (h : SReads D l) (n : ByteArray) (v : Int) : SReads (D.put (kS n) (.held (vI v))) (l.set n v) := by
  unfold AssocS.set
  split
  · rename_i hs; exact h.turn hs v
  · rename_i hs; exact h.put (AssocS.get_none.1 (by simpa using hs)) v
theorem Sep.textStore (h : Sep M0 w0 (MapS P k b l :: L) w) (hk : P.underlying k = some .string) {t e : TypeId} (ht : P.underlying t = some (.map k e)) (hl : l.length ≤ 1000000) {n : ByteArray} (hn : n.size ≤ maxLen) (v : Int) :
    ∃ w', (Instr.mapUpdate t (.map (some b)) (.string n) (vI v)).run P w = .ok () w' ∧ Sep M0 w0 (MapS P k b (l.set n v) :: L) w' := by
  obtain ⟨M, ⟨⟨D, hD, hr⟩, hM⟩, _⟩ := h.head
  obtain ⟨w', hrun, hD', ht'⟩ := hD.store (string_keyed hk) ht (by unfold maxLen; omega) (keyOf_text hk hn) (show asIs (vI v) = some (.held (vI v), []) from rfl)
  have hr' := hr.set n v
  refine ⟨w', hrun, Sep.turn (L1 := [_]) h fun N hN => ⟨N, Star.one (MapS.fine _ _ _ _) ⟨⟨_, ?_, hr'⟩, hN.2⟩, Step.map ht' ((hN.2 b).2 rfl)⟩⟩
  have := World.ownsMap.tight hD'
  rw [hr'.size] at this
  exact this
theorem set_twice (w : World) (b : Nat) (o o' : Obj) : setBlock (setBlock w b o) b o' = setBlock w b o' := by
  unfold setBlock
  simp
/-- 'm[k], .. = v, ..': the entry first, then the store. -/
theorem Sep.textEntry (h : Sep M0 w0 (MapS P k b l :: L) w) (hk : P.underlying k = some .string) {t e : TypeId} (ht : P.underlying t = some (.map k e)) (hz : ∀ u : World, (zeroValue e).run P u = .ok (vI 0) u) (hl : l.length ≤ 1000000) {n : ByteArray} (hn : n.size ≤ maxLen) (v : Int) :
    ∃ v0 st w1 w2, (Instr.mapEntry t (.map (some b)) (.string n)).run P w = .ok (.tuple #[v0, .int .i64 st]) w1 ∧ (Instr.entryStore t (.map (some b)) (.int .i64 st) (vI v)).run P w1 = .ok () w2 ∧ Sep M0 w0 (MapS P k b (l.set n v) :: L) w2 := by
  obtain ⟨w2, hst, hS⟩ := h.textStore hk ht hl hn v
  obtain ⟨M, ⟨⟨D, ⟨es, clock, hb, F, _⟩, hr⟩, hM⟩, _⟩ := h.head
  obtain ⟨v0, st, es1, clock1, h1, _, h2⟩ := WideElems.entry_then_store (WideMaps.string_law hk) ht hz hb F (keyOf_text hk hn)
  have hbl : b < w.heap.size := (Array.getElem?_eq_some_iff.1 hb).1
  obtain ⟨es', clock', h3, h4⟩ := h2 (setBlock w b (.map es1 clock1)) (vI v) (by simp [setBlock, hbl])
  rw [hst] at h4
  cases h4
  rw [set_twice] at h3
  exact ⟨v0, _, _, _, h1, h3, hS⟩
/-- The map's keys. -/
theorem Sep.textKeys (h : Sep M0 w0 (MapS P k b l :: L) w) (hk : P.underlying k = some .string) : ∃ D, w.ownsMap P k asIs b l.length D ∧ Maps.size D = l.length ∧ (l.map fun p => p.1.data.toList).Perm (strKeys D) := by
  obtain ⟨M, ⟨⟨D, hD, hr⟩, hM⟩, _⟩ := h.head
  refine ⟨D, hD, hr.size, ?_⟩
  refine Collected.perm (left := fun _ => false) ⟨?_, fun x => ?_⟩ hD (string_keyed hk) hk (fun _ => rfl)
  · have := hr.nodup
    have hm := List.Pairwise.map (fun t : ByteArray => t.data.toList) (S := (· ≠ ·)) (fun a b hab e => hab (ByteArray.ext (Array.ext' e))) this
    rw [List.map_map] at hm
    exact hm
  · simp only [and_true]
    constructor
    · intro hx
      obtain ⟨p, hp, rfl⟩ := List.mem_map.1 hx
      exact (hr.at_ p hp).1
    · intro hx
      have e : kS (str x) = .string x := by simp [kS, strL]
      rw [← e] at hx
      obtain ⟨v, hv⟩ := hr.back _ hx
      exact List.mem_map.2 ⟨_, hv, strL x⟩
end ops

/-! ### At the operations -/
section walk
variable {P : Program} {ops : Array Oper} {rest : List Oper} {o : Oper} {a : Act} {Q : Exit → Act → World → Prop} {k : TypeId} {b : Nat} {l : AssocS} {M0 : Foot} {w0 w : World} {L : List Fam}
theorem wpList_textStore (hg : o.guard = none) (m x v : Operand) (t : TypeId) (hop : o.op = Op.mapUpdate t m x v) (e : TypeId) (hk : P.underlying k = some .string) (ht : P.underlying t = some (.map k e))
    (h : Sep M0 w0 (MapS P k b l :: L) w) (hl : l.length ≤ 1000000) (hm : a.eval m = .map (some b)) (n : ByteArray) (val : Int) (hx : a.eval x = .string n) (hv : a.eval v = vI val) (hn : n.size ≤ maxLen)
    (hK : ∀ w', Sep M0 w0 (MapS P k b (l.set n val) :: L) w' → wpList P ops Q rest (a.put o.dst undef) w') : wpList P ops Q (o :: rest) a w := by
  refine wpList_plain hg fun K' hK' => ?_
  obtain ⟨w', hrun, r1⟩ := h.textStore hk ht hl hn val
  unfold Oper.wp
  simp [execOp, hop, hm, hx, hv, hrun, Result.andThen]
  exact hK' _ _ (hK w' r1)
end walk
end Go.Proofs.YtogpjblikphpcaaGreatDoor
