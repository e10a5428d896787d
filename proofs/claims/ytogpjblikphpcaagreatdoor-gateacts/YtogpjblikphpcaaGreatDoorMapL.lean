/-
  A map keyed by int, as an object that lies apart: it reads as a list of numbers and values, each number once. No function of the program.
-/
import Derived.Test.YtogpjblikphpcaaGreatDoorSep
import Derived.Maps.OwnSet
namespace Go.Proofs.YtogpjblikphpcaaGreatDoor
open Go.RowKit Go.Maps

/-- A value reads as itself. -/
def asIs (v : Value) : Option (DataW Value × List MemPlace) := some (.held v, [])
theorem asIs_inv {v : Value} {d : DataW Value} {ps : List MemPlace} (h : asIs v = some (d, ps)) : d = .held v := by
  unfold asIs at h; cases h; rfl
abbrev kI (n : Int) : Lit := .int .i64 n
theorem kI_ne {n m : Int} (h : n ≠ m) : kI n ≠ kI m := fun e => by cases e; exact h rfl
theorem kI_key (n : Int) : WideAt.IsKeyLit (kI n) := trivial
/-- A number that an int holds. -/
abbrev WfI (n : Int) : Prop := -9223372036854775808 ≤ n ∧ n ≤ 9223372036854775807
theorem WfI.lit {n : Int} (h : WfI n) : (Lit.int .i64 n).wf = true := WalkArith.wf_i64 (by omega)

abbrev Assoc := List (Int × Value)
/-- Without a number. -/
def Assoc.del (l : Assoc) (n : Int) : Assoc := l.filter fun p => decide (p.1 ≠ n)
/-- By a number. -/
def Assoc.at_ (l : Assoc) (n : Int) : Option Value := (l.find? fun p => p.1 == n).map Prod.snd
structure LReads (D : DataW Value) (l : Assoc) : Prop where
  tidy : Tidy D
  nodup : (l.map Prod.fst).Nodup
  size : Maps.size D = l.length
  at_ : ∀ p ∈ l, Maps.has D (kI p.1) = true ∧ ∀ z, D.atKey (kI p.1) z = .held p.2
  back : ∀ n, Maps.has D (kI n) = true → ∃ v, (n, v) ∈ l
theorem LReads.empty : LReads (.map []) [] := ⟨tidy_empty, by simp, rfl, fun p h => by simp at h, fun n h => by simp [Maps.has] at h⟩
theorem LReads.perm {D : DataW Value} {l l' : Assoc} (h : LReads D l) (hp : l.Perm l') : LReads D l' :=
  ⟨h.tidy, (hp.map Prod.fst).nodup_iff.1 h.nodup, by rw [h.size, hp.length_eq], fun p hm => h.at_ p (hp.mem_iff.2 hm), fun n hn => by
    obtain ⟨v, hv⟩ := h.back n hn
    exact ⟨v, hp.mem_iff.1 hv⟩⟩
theorem Assoc.not_mem {l : Assoc} {n : Int} (h : ∀ p ∈ l, p.1 ≠ n) : n ∉ l.map Prod.fst := by
  intro hm
  obtain ⟨p, hp, e⟩ := List.mem_map.1 hm
  exact h p hp e
theorem Assoc.unique : ∀ {l : Assoc}, (l.map Prod.fst).Nodup → ∀ {n : Int} {u v : Value}, (n, u) ∈ l → (n, v) ∈ l → u = v
  | [], _, n, u, v, h, _ => by simp at h
  | p :: l, hn, n, u, v, h1, h2 => by
    rw [List.map_cons, List.nodup_cons] at hn
    rcases List.mem_cons.1 h1 with e1 | e1 <;> rcases List.mem_cons.1 h2 with e2 | e2
    · have := e1.trans e2.symm; cases this; rfl
    · exact absurd (List.mem_map.2 ⟨_, e2, by rw [← e1]⟩) hn.1
    · exact absurd (List.mem_map.2 ⟨_, e1, by rw [← e2]⟩) hn.1
    · exact Assoc.unique hn.2 e1 e2
theorem Assoc.at_some {l : Assoc} (hn : (l.map Prod.fst).Nodup) {n : Int} {v : Value} (h : (n, v) ∈ l) : l.at_ n = some v := by
  unfold Assoc.at_
  cases e : l.find? fun p => p.1 == n with
  | none =>
    rw [List.find?_eq_none] at e
    exact absurd (by simp) (e _ h)
  | some p =>
    have h1 := List.mem_of_find?_eq_some e
    have h2 := List.find?_some e
    simp only [beq_iff_eq] at h2
    obtain ⟨m, u⟩ := p
    simp only at h2
    subst h2
    rw [Assoc.unique hn h h1]; rfl
theorem Assoc.at_none {l : Assoc} {n : Int} (h : ∀ p ∈ l, p.1 ≠ n) : l.at_ n = none := by
  unfold Assoc.at_
  rw [Option.map_eq_none_iff, List.find?_eq_none]
  intro p hp
  simpa using h p hp
theorem LReads.hasNot {D : DataW Value} {l : Assoc} (h : LReads D l) {n : Int} (hn : ∀ p ∈ l, p.1 ≠ n) : Maps.has D (kI n) = false := by
  cases e : Maps.has D (kI n) with
  | false => rfl
  | true => obtain ⟨v, hv⟩ := h.back n e; exact absurd rfl (hn _ hv)
/-- A look-up. -/
theorem LReads.look {D : DataW Value} {l : Assoc} (h : LReads D l) (n : Int) (z : Value) : Maps.has D (kI n) = (l.at_ n).isSome ∧ D.atKey (kI n) (.held z) = .held ((l.at_ n).getD z) := by
  by_cases e : ∃ v, (n, v) ∈ l
  · obtain ⟨v, hv⟩ := e
    have hat := Assoc.at_some h.nodup hv
    obtain ⟨h1, h2⟩ := h.at_ _ hv
    rw [hat]
    exact ⟨h1, h2 _⟩
  · have hne : ∀ p ∈ l, p.1 ≠ n := fun p hp e' => e ⟨p.2, by rw [← e']; exact hp⟩
    rw [Assoc.at_none hne]
    have hf := h.hasNot hne
    exact ⟨hf, atKey_of_not_has hf _⟩
theorem LReads.put {D : DataW Value} {l : Assoc} (h : LReads D l) {n : Int} (hn : ∀ p ∈ l, p.1 ≠ n) (v : Value) : LReads (D.put (kI n) (.held v)) (l ++ [(n, v)]) := by
  refine LReads.perm (l := (n, v) :: l) ?_ (List.perm_append_comm (l₁ := [(n, v)]) (l₂ := l))
  have hf := h.hasNot hn
  refine ⟨h.tidy.put (kI_key n) _, ?_, ?_, ?_, ?_⟩
  · rw [List.map_cons, List.nodup_cons]
    exact ⟨Assoc.not_mem hn, h.nodup⟩
  · rw [size_put h.tidy, hf, h.size]; rfl
  · intro p hp
    rcases List.mem_cons.1 hp with e | e
    · subst e
      exact ⟨has_put_same h.tidy.isMap (kI_key n) _, fun z => atKey_put_same h.tidy.isMap (kI_key n) _ z⟩
    · have hne := kI_ne (hn p e)
      obtain ⟨h1, h2⟩ := h.at_ p e
      exact ⟨(has_put_other hne _).trans h1, fun z => (atKey_put_other hne _ z).trans (h2 z)⟩
  · intro m hm
    by_cases e : m = n
    · subst e; exact ⟨v, List.mem_cons_self ..⟩
    · rw [has_put_other (kI_ne e)] at hm
      obtain ⟨u, hu⟩ := h.back m hm
      exact ⟨u, List.mem_cons_of_mem _ hu⟩
theorem Assoc.del_none {l : Assoc} {n : Int} (h : ∀ p ∈ l, p.1 ≠ n) : l.del n = l := by
  unfold Assoc.del
  rw [List.filter_eq_self]
  intro p hp
  simpa using h p hp
theorem Assoc.del_length : ∀ {l : Assoc}, (l.map Prod.fst).Nodup → ∀ {n : Int} {v : Value}, (n, v) ∈ l → (l.del n).length + 1 = l.length
  | [], _, n, v, h => by simp at h
  | p :: l, hn, n, v, h => by
    rw [List.map_cons, List.nodup_cons] at hn
    by_cases e : p.1 = n
    · have : (Assoc.del (p :: l) n) = Assoc.del l n := by unfold Assoc.del; rw [List.filter_cons_of_neg (by simp [e])]
      rw [this, Assoc.del_none (fun q hq e' => hn.1 (List.mem_map.2 ⟨q, hq, by rw [e', e]⟩))]
      simp
    · have hm : (n, v) ∈ l := (List.mem_cons.1 h).resolve_left (fun e' => e (by rw [← e']))
      have ih := Assoc.del_length hn.2 hm
      have : (Assoc.del (p :: l) n) = p :: Assoc.del l n := by unfold Assoc.del; rw [List.filter_cons_of_pos (by simp [e])]
      rw [this, List.length_cons, List.length_cons]
      omega
theorem LReads.del {D : DataW Value} {l : Assoc} (h : LReads D l) (n : Int) : LReads (D.del (kI n)) (l.del n) := by
  have hmem : ∀ p ∈ l.del n, p ∈ l ∧ p.1 ≠ n := fun p hp => by
    unfold Assoc.del at hp
    rw [List.mem_filter] at hp
    exact ⟨hp.1, by simpa using hp.2⟩
  have hs := size_del (k := kI n) h.tidy
  refine ⟨h.tidy.del _, ?_, ?_, ?_, ?_⟩
  · unfold Assoc.del
    exact (List.filter_sublist.map Prod.fst).nodup h.nodup
  · by_cases e : ∃ v, (n, v) ∈ l
    · obtain ⟨v, hv⟩ := e
      have hl := Assoc.del_length h.nodup hv
      rw [(h.at_ _ hv).1, h.size] at hs
      simp only [if_true] at hs
      omega
    · have hne : ∀ p ∈ l, p.1 ≠ n := fun p hp e' => e ⟨p.2, by rw [← e']; exact hp⟩
      rw [h.hasNot hne, h.size] at hs
      rw [Assoc.del_none hne]
      simpa using hs
  · intro p hp
    obtain ⟨hp, hne⟩ := hmem p hp
    obtain ⟨h1, h2⟩ := h.at_ p hp
    exact ⟨(has_del_other (kI_ne hne)).trans h1, fun z => (atKey_del_other (kI_ne hne) z).trans (h2 z)⟩
  · intro m hm
    by_cases e : m = n
    · subst e; rw [has_del_same] at hm; cases hm
    · rw [has_del_other (kI_ne e)] at hm
      obtain ⟨u, hu⟩ := h.back m hm
      exact ⟨u, by unfold Assoc.del; rw [List.mem_filter]; exact ⟨hu, by simpa using e⟩⟩

/-- Block b is a map that reads as this list. -/
def MapL (P : Program) (k : TypeId) (b : Nat) (l : Assoc) : Fam := fun M w => (∃ D, w.ownsMap P k asIs b l.length D ∧ LReads D l) ∧ ∀ j, M j ↔ j = b
theorem MapL.fine (P : Program) (k : TypeId) (b : Nat) (l : Assoc) : Fine (MapL P k b l) := by
  refine ⟨fun h j hj => ?_, fun h hs hk => ?_⟩
  · obtain ⟨⟨D, hD, _⟩, hM⟩ := h
    obtain rfl := (hM j).1 hj
    exact hD.lt
  · obtain ⟨⟨D, ⟨es, clock, hb, r⟩, hl⟩, hM⟩ := h
    exact ⟨⟨D, ⟨es, clock, (hk b ((hM b).2 rfl)).trans hb, r⟩, hl⟩, hM⟩
theorem Step.map {M : Foot} {w w' : World} {b : Nat} (h : w.mapTurned w' b) (hb : M b) : Step M w w' M := Step.grown h.grown fun k hk => by cases hk; exact hb
theorem Sep.mapMade {M0 : Foot} {w0 w : World} {L : List Fam} (h : Sep M0 w0 L w) (P : Program) (k : TypeId) : Sep M0 w0 (MapL P k w.heap.size [] :: L) (w.alloc (.map #[] 0)) :=
  Sep.more (L1 := [_]) h ((Below.refl _ _).alloc (Nat.le_refl _) _) (Star.one (M := fun k => k = w.heap.size) (MapL.fine _ _ _ _) ⟨⟨_, World.ownsMap_made _ _ _ _, LReads.empty⟩, fun _ => Iff.rfl⟩) (fun _ e => by omega)
theorem Sep.mapPerm {P : Program} {k : TypeId} {b : Nat} {l l' : Assoc} {M0 : Foot} {w0 w : World} {L : List Fam} (h : Sep M0 w0 (MapL P k b l :: L) w) (hp : l.Perm l') : Sep M0 w0 (MapL P k b l' :: L) w :=
  Sep.turn (L1 := [_]) h fun M ⟨⟨D, hD, hl⟩, hM⟩ => ⟨M, Star.one (MapL.fine _ _ _ _) ⟨⟨D, hp.length_eq ▸ hD, hl.perm hp⟩, hM⟩, Step.refl _ _⟩
theorem MapL.nodup {P : Program} {k : TypeId} {b : Nat} {l : Assoc} {M : Foot} {w : World} (h : MapL P k b l M w) : (l.map Prod.fst).Nodup := by
  obtain ⟨⟨D, _, hl⟩, _⟩ := h
  exact hl.nodup

section ops
variable {P : Program} {k : TypeId} {b : Nat} {l : Assoc} {M0 : Foot} {w0 w : World} {L : List Fam}
/-- What the operations do. -/
theorem Sep.mapLook (h : Sep M0 w0 (MapL P k b l :: L) w) (hk : P.underlying k = some (.int .i64)) {t e : TypeId} (ht : P.underlying t = some (.map k e)) {z : Value} (hz : (zeroValue e).run P w = .ok z w) {n : Int} (hn : WfI n) :
    (Instr.lookup t (.map (some b)) (.int .i64 n) true).run P w = .ok (.tuple #[(l.at_ n).getD z, .bool (l.at_ n).isSome]) w := by
  obtain ⟨M, ⟨⟨D, hD, hl⟩, _⟩, _⟩ := h.head
  obtain ⟨v, ps, hrun, hv⟩ := hD.look_ok (int_keyed hk) ht hz (zd := .held z) (zp := []) rfl (keyOf_int_mk hk hn.lit)
  obtain ⟨h1, h2⟩ := hl.look n z
  rw [h2] at hv
  have := asIs_inv hv
  simp only [DataW.held.injEq] at this
  rw [hrun, this, show Maps.has D (.int .i64 n) = _ from h1]
theorem Sep.mapLook1 (h : Sep M0 w0 (MapL P k b l :: L) w) (hk : P.underlying k = some (.int .i64)) {t e : TypeId} (ht : P.underlying t = some (.map k e)) {z : Value} (hz : (zeroValue e).run P w = .ok z w) {n : Int} (hn : WfI n) :
    (Instr.lookup t (.map (some b)) (.int .i64 n) false).run P w = .ok ((l.at_ n).getD z) w := by
  obtain ⟨M, ⟨⟨D, hD, hl⟩, _⟩, _⟩ := h.head
  obtain ⟨v, ps, hrun, hv⟩ := hD.lookup (int_keyed hk) ht hz (zd := .held z) (zp := []) rfl (keyOf_int_mk hk hn.lit)
  obtain ⟨h1, h2⟩ := hl.look n z
  rw [h2] at hv
  have := asIs_inv hv
  simp only [DataW.held.injEq] at this
  rw [hrun, this]
theorem Sep.mapLen (h : Sep M0 w0 (MapL P k b l :: L) w) {t e : TypeId} (ht : P.underlying t = some (.map k e)) (ty : TypeId) : (Builtin.len_ #[t] ty #[.map (some b)]).run P w = .ok (.int .i64 l.length) w := by
  obtain ⟨M, ⟨⟨D, hD, hl⟩, _⟩, _⟩ := h.head
  rw [hD.len ht ty, hl.size]
theorem Sep.mapStore (h : Sep M0 w0 (MapL P k b l :: L) w) (hk : P.underlying k = some (.int .i64)) {t e : TypeId} (ht : P.underlying t = some (.map k e)) (hl : l.length ≤ 1000000) {n : Int} (hn : WfI n) (hne : ∀ p ∈ l, p.1 ≠ n) (v : Value) :
    ∃ w', (Instr.mapUpdate t (.map (some b)) (.int .i64 n) v).run P w = .ok () w' ∧ Sep M0 w0 (MapL P k b (l ++ [(n, v)]) :: L) w' := by
  obtain ⟨M, ⟨⟨D, hD, hr⟩, hM⟩, _⟩ := h.head
  obtain ⟨w', hrun, hD', ht'⟩ := hD.store (int_keyed hk) ht (by unfold maxLen; omega) (keyOf_int_mk hk hn.lit) (show asIs v = some (.held v, []) from rfl)
  have hr' := hr.put hne v
  refine ⟨w', hrun, Sep.turn (L1 := [_]) h fun N hN => ⟨N, Star.one (MapL.fine _ _ _ _) ⟨⟨_, ?_, hr'⟩, hN.2⟩, Step.map ht' ((hN.2 b).2 rfl)⟩⟩
  rw [List.length_append]
  exact hD'
theorem World.ownsMap.tight {w : World} {P : Program} {k : TypeId} {R : Value → Option (DataW Value × List MemPlace)} {b n : Nat} {D : DataW Value} (h : w.ownsMap P k R b n D) : w.ownsMap P k R b (Maps.size D) D := by
  obtain ⟨es, clock, hb, F, hs, hD⟩ := h
  refine ⟨es, clock, hb, F, ?_, hD⟩
  subst hD
  simp [Maps.size, length_sorted]
theorem Sep.mapDel (h : Sep M0 w0 (MapL P k b l :: L) w) (hk : P.underlying k = some (.int .i64)) {t e : TypeId} (ht : P.underlying t = some (.map k e)) {n : Int} (hn : WfI n) (ty : TypeId) :
    ∃ w', (Builtin.delete_ #[t, k] ty #[.map (some b), .int .i64 n]).run P w = .ok (.tuple #[]) w' ∧ Sep M0 w0 (MapL P k b (l.del n) :: L) w' := by
  obtain ⟨M, ⟨⟨D, hD, hr⟩, hM⟩, _⟩ := h.head
  obtain ⟨w', hrun, hD', ht'⟩ := hD.drop (int_keyed hk) ht (keyOf_int_mk hk hn.lit) ty
  have hr' := hr.del n
  refine ⟨w', hrun, Sep.turn (L1 := [_]) h fun N hN => ⟨N, Star.one (MapL.fine _ _ _ _) ⟨⟨_, ?_, hr'⟩, hN.2⟩, Step.map ht' ((hN.2 b).2 rfl)⟩⟩
  have := World.ownsMap.tight hD'
  rw [show Maps.size (D.del (Lit.int IntKind.i64 n)) = _ from hr'.size] at this
  exact this
end ops

/-! ### At the operations -/
section walk
variable {P : Program} {ops : Array Oper} {rest : List Oper} {o : Oper} {a : Act} {Q : Exit → Act → World → Prop} {k : TypeId} {b : Nat} {l : Assoc} {M0 : Foot} {w0 w : World} {L : List Fam}
theorem wpList_mapStore (hg : o.guard = none) (m x v : Operand) (t : TypeId) (hop : o.op = Op.mapUpdate t m x v) (e : TypeId) (hk : P.underlying k = some (.int .i64)) (ht : P.underlying t = some (.map k e))
    (h : Sep M0 w0 (MapL P k b l :: L) w) (hl : l.length ≤ 1000000) (hm : a.eval m = .map (some b)) (n : Int) (val : Value) (hx : a.eval x = .int .i64 n) (hv : a.eval v = val) (hn : WfI n) (hne : ∀ p ∈ l, p.1 ≠ n)
    (hK : ∀ w', Sep M0 w0 (MapL P k b (l ++ [(n, val)]) :: L) w' → wpList P ops Q rest (a.put o.dst undef) w') : wpList P ops Q (o :: rest) a w := by
  refine wpList_plain hg fun K' hK' => ?_
  obtain ⟨w', hrun, r1⟩ := h.mapStore hk ht hl hn hne val
  unfold Oper.wp
  simp [execOp, hop, hm, hx, hv, hrun, Result.andThen]
  exact hK' _ _ (hK w' r1)
theorem wpList_mapDel (hg : o.guard = none) (m x : Operand) (t : TypeId) (hop : o.op = Op.call { callee := Callee.builtin Builtin.delete, args := #[m, x], argTypes := #[t, k] }) (e : TypeId) (hk : P.underlying k = some (.int .i64)) (ht : P.underlying t = some (.map k e))
    (h : Sep M0 w0 (MapL P k b l :: L) w) (hm : a.eval m = .map (some b)) (n : Int) (hx : a.eval x = .int .i64 n) (hn : WfI n)
    (hK : ∀ w', Sep M0 w0 (MapL P k b (l.del n) :: L) w' → wpList P ops Q rest (a.put o.dst (.tuple #[])) w') : wpList P ops Q (o :: rest) a w := by
  refine wpList_plain hg fun K' hK' => ?_
  obtain ⟨w', hrun, r1⟩ := h.mapDel hk ht hn o.type
  unfold Oper.wp
  simp [execOp, hop, resolve, invoke, builtin, hm, hx, hrun, Result.andThen]
  exact hK' _ _ (hK w' r1)
theorem wpList_mapLen (hg : o.guard = none) (m : Operand) (t : TypeId) (hop : o.op = Op.call { callee := Callee.builtin Builtin.len, args := #[m], argTypes := #[t] }) (e : TypeId) (ht : P.underlying t = some (.map k e))
    (h : Sep M0 w0 (MapL P k b l :: L) w) (hm : a.eval m = .map (some b)) (hK : wpList P ops Q rest (a.put o.dst (.int .i64 l.length)) w) : wpList P ops Q (o :: rest) a w := by
  refine wpList_plain hg fun K' hK' => ?_
  unfold Oper.wp
  simp [execOp, hop, resolve, invoke, builtin, hm, h.mapLen ht o.type, Result.andThen]
  exact hK' _ _ hK
end walk
end Go.Proofs.YtogpjblikphpcaaGreatDoor
