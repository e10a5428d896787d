/-
  What the rows' condition on the twelve errors' variables, and on package errors' own variable, gives the walks; the door's own heap meets it.
  Slices whose elements are two cells, or three: how they read as a list. No function of the program.
  Plain mathematics of files: names, their order, what is wrong with a list, what is got, put and dropped. No program, no walk.
  Plain mathematics of plans: of two lists that rise the steps that make one of the other, and what they come to when they are done. No program, no walk.
  Plain mathematics of CRC-32: 'sh' (a bit), 'shs' (many bits), 'run' (a text), 'crc' (what More answers); they are linear over the exclusive or; what is joined; a table of what each bit makes. No program, no walk.
-/
import Derived.Test.YtbflmkjlpopeaadGreatDoorJoin01
import Derived.LaidHandle
import Derived.Lib.TrailingZeros
namespace Go.Proofs.YtbflmkjlpopeaadGreatDoor
open Go.ChangeShapes Go.WideShapes Go.ChangeAt Go.RowKit

abbrev laidErr {H : Type} (text : List UInt8) : DataW H := .iface "*errors.errorString" (.ptr (.agg [.lit (.string text)]))
/-- The twelve errors' variables, as the rows list them, each with its text. -/
abbrev errRows : List (String × List UInt8) := [("packhorse/api.ErrText", [112, 97, 99, 107, 104, 111, 114, 115, 101, 58, 32, 116, 101, 120, 116]), ("packhorse/api.ErrBound", [112, 97, 99, 107, 104, 111, 114, 115, 101, 58, 32, 98, 111, 117, 110, 100]), ("packhorse/api.ErrShape", [112, 97, 99, 107, 104, 111, 114, 115, 101, 58, 32, 115, 104, 97, 112, 101]), ("packhorse/api.ErrKind", [112, 97, 99, 107, 104, 111, 114, 115, 101, 58, 32, 107, 105, 110, 100]), ("packhorse/api.ErrName", [112, 97, 99, 107, 104, 111, 114, 115, 101, 58, 32, 110, 97, 109, 101]), ("packhorse/api.ErrNone", [112, 97, 99, 107, 104, 111, 114, 115, 101, 58, 32, 110, 111, 110, 101]), ("packhorse/api.ErrExist", [112, 97, 99, 107, 104, 111, 114, 115, 101, 58, 32, 101, 120, 105, 115, 116]), ("packhorse/api.ErrFull", [112, 97, 99, 107, 104, 111, 114, 115, 101, 58, 32, 102, 117, 108, 108]), ("packhorse/api.ErrOrder", [112, 97, 99, 107, 104, 111, 114, 115, 101, 58, 32, 111, 114, 100, 101, 114]), ("packhorse/api.ErrSum", [112, 97, 99, 107, 104, 111, 114, 115, 101, 58, 32, 115, 117, 109]), ("packhorse/api.ErrStale", [112, 97, 99, 107, 104, 111, 114, 115, 101, 58, 32, 115, 116, 97, 108, 101]), ("packhorse/api.ErrOff", [112, 97, 99, 107, 104, 111, 114, 115, 101, 58, 32, 111, 102, 102])]
abbrev laid12 : List (String × DataW Unit) := errRows.map fun x => (x.1, laidErr x.2)
abbrev laid13 : List (String × DataW Unit) := ("errors.errorType", Rows.laid_errors_errorType) :: laid12

/-- A listed error: its variable's cell, its row, its text. -/
structure ErrAt (W : World) (g : Nat) (text : List UInt8) (a : Addr) : Prop where
  cell : W.cell? ⟨g, 0, none⟩ = some (.iface 164 (.pointer (some a)))
  row : ∃ c t, W.heap[a.block]? = some (.cells c t (0, 0))
  text : ∃ s : ByteArray, W.cell? a = some (.string s) ∧ s.data.toList = text

theorem errAt_any {P : Program} {n nm : String} {text : List UInt8} {r : List (String × DataW Unit)} {W : World} {g : Nat} {ti tp te ts : TypeId} {ms : Array (String × TypeId)} {f : Field}
    (h : laidMet P ((n, .iface nm (.ptr (.agg [.lit (.string text)]))) :: r) W)
    (hg : P.globalNamed n = some g) (ht : (P.globals[g]?).map (·.type) = some ti) (hi : P.underlying ti = some (.interface ms)) (hrow : ∀ u, P.typeName? 3 u = some nm → u = tp)
    (hp : P.underlying tp = some (.pointer te)) (he : P.underlying te = some (.struct #[f])) (hft : f.type = ts) (hfo : f.offset = 0) (hs : P.underlying ts = some .string) (hc : P.cellsOf te = 1) (hcs : P.cellsOf ts = 1) :
    ∃ (a : Addr) (s : ByteArray), W.cell? ⟨g, 0, none⟩ = some (.iface tp (.pointer (some a))) ∧ (∃ c t, W.heap[a.block]? = some (.cells c t (0, 0))) ∧ W.cell? a = some (.string s) ∧ s.data.toList = text := by
  obtain ⟨ps, ⟨g0, t0, cs0, f0, p0, q0, hg0, ht0, hv0, hd0, _, e0⟩, _, hrows⟩ := h
  obtain rfl := Option.some.inj (hg.symm.trans hg0)
  obtain rfl := Option.some.inj (ht.symm.trans ht0)
  subst e0
  obtain ⟨l0⟩ := cs0
  have ok0 : ∀ u v, l0 = [.iface u v] → Value.okWide P W .any 0 u v := fun u v e => by
    subst e
    exact (hrows g 0 (by simp [MemPlace.row])).2 u v (by simpa using World.var?_cell hg0 hv0 0)
  obtain ⟨a0, s0, rfl, hc0, hs0, _, rfl⟩ := errorString_of_trod hi hrow hp he hft hfo hs hc hcs hd0 ok0
  exact ⟨a0, s0, by simpa using World.var?_cell hg0 hv0 0, (hrows a0.block a0.off (by simp [MemPlace.row])).1, hc0, hs0⟩

theorem errAt_of_laid {W : World} {n : String} {text : List UInt8} {r : List (String × DataW Unit)} {g : Nat} (h : laidMet Tryz.prog ((n, laidErr text) :: r) W)
    (hg : Tryz.prog.globalNamed n = some g) (ht : (Tryz.prog.globals[g]?).map (·.type) = some 29) : ∃ a, ErrAt W g text a := by
  obtain ⟨a, s, h1, h2, h3, h4⟩ := errAt_any h hg ht Tryz.underlying29 Tryz.row164 Tryz.underlying164 Tryz.underlying183 rfl rfl Tryz.underlying9 Tryz.cells183 Tryz.cells9
  exact ⟨a, h1, h2, s, h3, h4⟩

theorem errs_list {W : World} : ∀ (r : List (String × List UInt8)) (gs : List Nat), r.map (fun x => Tryz.prog.globalNamed x.1) = gs.map some → (∀ g ∈ gs, (Tryz.prog.globals[g]?).map (·.type) = some 29) →
    laidMet Tryz.prog (r.map fun x => (x.1, laidErr x.2)) W → ∃ L : List Addr, L.length = r.length ∧ ∀ k (_ : k < r.length) g t a, gs[k]? = some g → r[k]?.map (·.2) = some t → L[k]? = some a → ErrAt W g t a
  | [], gs, _, _, _ => ⟨[], rfl, fun k hk => by simp at hk⟩
  | x :: r, gs, hgs, hty, h => by
    obtain ⟨n, text⟩ := x
    match gs, hgs with
    | g :: gs, hgs =>
      simp only [List.map_cons, List.cons.injEq] at hgs h
      obtain ⟨a, ha⟩ := errAt_of_laid h hgs.1 (hty g (List.mem_cons_self ..))
      obtain ⟨L, hL, hall⟩ := errs_list r gs hgs.2 (fun g hg => hty g (List.mem_cons_of_mem _ hg)) h.tail
      refine ⟨a :: L, by simp [hL], fun k hk g' t' a' h1 h2 h3 => ?_⟩
      cases k with
      | zero =>
        simp at h1 h2 h3
        subst h1 h2 h3
        exact ha
      | succ k => exact hall k (by simpa using hk) g' t' a' (by simpa using h1) (by simpa using h2) (by simpa using h3)

theorem Tryz.gErrs : errRows.map (fun x => Tryz.prog.globalNamed x.1) = gnos.map some := by kernel_rfl
theorem Tryz.tErrs : ∀ g ∈ gnos, (Tryz.prog.globals[g]?).map (·.type) = some 29 := by
  intro g hg
  simp only [gnos, List.mem_cons, List.not_mem_nil, or_false] at hg
  rcases hg with rfl | rfl | rfl | rfl | rfl | rfl | rfl | rfl | rfl | rfl | rfl | rfl
  all_goals kernel_rfl
theorem texts_apart : ∀ i j : Fin 12, i ≠ j → errRows[i.val]?.map (·.2) ≠ errRows[j.val]?.map (·.2) := by decide
theorem Tryz.gHandle : Tryz.prog.globalNamed "errors.errorType" = some 12 := by kernel_rfl
theorem Tryz.rtRow : (Tryz.prog.cutTypes.find? (·.1 == "internal/reflectlite.rtype")).map (·.2) = some 148 := by kernel_rfl
theorem Tryz.typesSize : Tryz.prog.types.size = 195 := by kernel_rfl
theorem Tryz.errorRow : ((List.range 195).filter fun t => Tryz.prog.rowNamed t [101, 114, 114, 111, 114]) = [29] := by kernel_rfl

theorem idx12 (k : Nat) (hk : k < 12) : gnos[k]? = some (gno k) := by
  unfold gno
  have : k < gnos.length := hk
  simp [List.getD, this]

theorem sents_of_laid {W : World} (h : laidMetH Tryz.prog laid13 W) : ∃ a, Sents W a := by
  have h' : laidMet Tryz.prog laid12 W ∧ handlesMet Tryz.prog [("errors.errorType", Rows.laid_errors_errorType)] W := h
  obtain ⟨hl, hh⟩ := h'
  obtain ⟨L, hL, hall⟩ := errs_list errRows _ Tryz.gErrs Tryz.tErrs hl
  have hL12 : L.length = 12 := hL
  have get : ∀ k (hk : k < 12), ∃ t, errRows[k]?.map (·.2) = some t ∧ ErrAt W (gno k) t (L[k]'(by omega)) := by
    intro k hk
    have hk' : k < errRows.length := hk
    exact ⟨errRows[k].2, by rw [List.getElem?_eq_getElem hk']; rfl, hall k hk' (gno k) _ _ (idx12 k hk) (by rw [List.getElem?_eq_getElem hk']; rfl) (List.getElem?_eq_getElem (by omega))⟩
  have eqa : ∀ k (hk : k < 12), L.getD k ⟨0, 0, none⟩ = L[k]'(by omega) := by
    intro k hk
    simp [List.getD, show k < L.length by omega]
  refine ⟨fun k => L.getD k ⟨0, 0, none⟩, fun k hk => ?_, fun k hk => ?_, fun i j hi hj hij e => ?_, ?_⟩
  · obtain ⟨t, _, ha⟩ := get k hk
    rw [eqa k hk]
    exact ha.cell
  · obtain ⟨t, _, ha⟩ := get k hk
    rw [eqa k hk]
    exact ha.row
  · obtain ⟨t1, ht1, ha1⟩ := get i hi
    obtain ⟨t2, ht2, ha2⟩ := get j hj
    obtain ⟨s1, hc1, hs1⟩ := ha1.text
    obtain ⟨s2, hc2, hs2⟩ := ha2.text
    have e' : L[i]'(by omega) = L[j]'(by omega) := by
      have := e
      rw [eqa i hi, eqa j hj] at this
      exact this
    rw [e'] at hc1
    rw [hc1] at hc2
    have hss : s1 = s2 := by simpa using hc2
    subst hss
    refine texts_apart ⟨i, hi⟩ ⟨j, hj⟩ (fun h => hij (congrArg Fin.val h)) ?_
    show errRows[i]?.map (·.2) = errRows[j]?.map (·.2)
    rw [ht1, ht2, ← hs1, ← hs2]
  · obtain ⟨name, u, ty, e1, e2, e3, e4, e5⟩ := hh _ (List.mem_singleton.2 rfl)
    have en : name = [101, 114, 114, 111, 114] := (Option.some.inj e1).symm
    subst en
    obtain rfl := Option.some.inj (Tryz.rtRow.symm.trans e2)
    have hm : ty ∈ (List.range 195).filter fun t => Tryz.prog.rowNamed t [101, 114, 114, 111, 114] := List.mem_filter.2 ⟨List.mem_range.2 (by rw [← Tryz.typesSize]; exact e3), e4⟩
    rw [Tryz.errorRow] at hm
    obtain rfl := List.mem_singleton.1 hm
    have hh2 : typeHandle Tryz.prog 29 = .pointer (some ⟨14, 29, none⟩) := by kernel_rfl
    rw [hh2] at e5
    simpa using World.var?_cell Tryz.gHandle e5 0

theorem door_met13 (os : Os) (args : Array Value) : laidMetH Tryz.prog laid13 ((World.doorLaid Tryz.prog 400 os).forCall (fun _ _ => 0) ⟨#[], args, []⟩).memory :=
  laidMetH_of_parts3 (fuel := 8) (laidMet_of_run' 8 (by kernel_rfl) (by kernel_rfl)) (by kernel_rfl) (by kernel_rfl)
end Go.Proofs.YtbflmkjlpopeaadGreatDoor

namespace Go.Proofs.YtbflmkjlpopeaadGreatDoor
open Go.RowKit

section two
variable {α : Type}
/-- A list as cells, two of each. -/
def cs2 (f g : α → Value) (l : List α) : List Value := l.flatMap fun x => [f x, g x]
variable {f g : α → Value}
theorem cs2_snoc (l : List α) (x : α) : cs2 f g (l ++ [x]) = cs2 f g l ++ [f x, g x] := by simp [cs2]
theorem cs2_append (l m : List α) : cs2 f g (l ++ m) = cs2 f g l ++ cs2 f g m := by simp [cs2]
theorem cs2_length (l : List α) : (cs2 f g l).length = l.length * 2 := by
  induction l with
  | nil => rfl
  | cons b l ih => rw [cs2, List.flatMap_cons, List.length_append, ← cs2, ih]; simp; omega
theorem cs2_get (l : List α) (j : Nat) (h : j < l.length) : (cs2 f g l)[j * 2]? = some (f l[j]) ∧ (cs2 f g l)[j * 2 + 1]? = some (g l[j]) := by
  induction l generalizing j with
  | nil => simp at h
  | cons b l ih =>
    rw [cs2, List.flatMap_cons, ← cs2]
    cases j with
    | zero => simp
    | succ j =>
      have := ih j (by simpa using h)
      have e : ∀ i, ([f b, g b] ++ cs2 f g l)[(j + 1) * 2 + i]? = (cs2 f g l)[j * 2 + i]? := by
        intro i
        rw [List.getElem?_append_right (by simp; omega)]
        congr 1
        simp; omega
      have e0 := e 0
      simp only [Nat.add_zero] at e0
      rw [e0, e 1]
      simpa using this
/-- A slice that reads as this list. -/
def Row2 (f g : α → Value) (w : World) (v : Value) (l : List α) : Prop :=
  ∃ a c, v = .slice a l.length c ∧ (0 < l.length → ∃ b o, a = some ⟨b, o, none⟩ ∧ ∀ j (h : j < l.length), w.cell? ⟨b, o + j * 2, none⟩ = some (f l[j]) ∧ w.cell? ⟨b, o + j * 2 + 1, none⟩ = some (g l[j]))
theorem Row2.below {w w' : World} {v : Value} {l : List α} (h : Row2 f g w v l) (hb : Below w.heap.size w w') : Row2 f g w' v l := by
  obtain ⟨a, c, rfl, h⟩ := h
  refine ⟨a, c, rfl, fun hp => ?_⟩
  obtain ⟨b, o, rfl, h'⟩ := h hp
  refine ⟨b, o, rfl, fun j hj => ?_⟩
  obtain ⟨h0, h1⟩ := h' j hj
  exact ⟨(hb.cell (World.block_lt_of_cell? _ _ h0)).trans h0, (hb.cell (World.block_lt_of_cell? _ _ h1)).trans h1⟩
theorem Row2.nil (w : World) : Row2 f g w (.slice none 0 0) [] := ⟨none, 0, rfl, fun h => by simp at h⟩
theorem Row2.of_own {w : World} {base n : Nat} {T : TypeId} {v : Value} {l : List α} (h : w.ownsRow base T 2 v n (cs2 f g l)) : Row2 f g w v l := by
  have hl : l.length = n := by have := h.1; rw [cs2_length] at this; omega
  subst hl
  rcases h.2 with ⟨rfl, h0⟩ | ⟨q, c, cur, rfl, _⟩
  · exact ⟨none, 0, by rw [h0], fun hp => by omega⟩
  · refine ⟨_, c, rfl, fun _ => ⟨q, 0, rfl, fun j hj => ?_⟩⟩
    obtain ⟨h0, h1⟩ := cs2_get (f := f) (g := g) l j hj
    have k0 := h.cells (g := q) rfl _ _ h0
    have k1 := h.cells (g := q) rfl _ _ h1
    rw [Go.WideShapes.add_plain] at k0 k1
    exact ⟨by simpa using k0, by simpa [Nat.add_assoc] using k1⟩
theorem Row2.news {w : World} {a : Option Addr} {c : Nat} {l : List α} (h : Row2 f g w (.slice a l.length c) l) (hp : 0 < l.length) : ∃ b o, a = some ⟨b, o, none⟩ ∧ ∀ j u, (cs2 f g l)[j]? = some u → w.cell? ((⟨b, o, none⟩ : Addr).add j) = some u := by
  obtain ⟨a', c', e, h⟩ := h
  obtain ⟨b, o, rfl, hc⟩ := h hp
  have ea : a = some ⟨b, o, none⟩ := by simp at e; exact e.1
  refine ⟨b, o, ea, fun j u hu => ?_⟩
  rw [Go.WideShapes.add_plain]
  have hj : j < l.length * 2 := by
    have := (List.getElem?_eq_some_iff.1 hu).1
    rw [cs2_length] at this
    exact this
  have hd : j / 2 < l.length := by omega
  obtain ⟨g0, g1⟩ := cs2_get (f := f) (g := g) l (j / 2) hd
  obtain ⟨c0, c1⟩ := hc (j / 2) hd
  rcases (show j = j / 2 * 2 ∨ j = j / 2 * 2 + 1 by omega) with e | e
  · rw [← e] at g0
    rw [g0] at hu
    cases hu
    rw [← e] at c0
    exact c0
  · rw [← e] at g1
    rw [g1] at hu
    cases hu
    rw [Nat.add_assoc, ← e] at c1
    exact c1
end two

section three
variable {α : Type}
/-- A list as cells, three of each. -/
def cs3 (f g h : α → Value) (l : List α) : List Value := l.flatMap fun x => [f x, g x, h x]
variable {f g h : α → Value}
theorem cs3_snoc (l : List α) (x : α) : cs3 f g h (l ++ [x]) = cs3 f g h l ++ [f x, g x, h x] := by simp [cs3]
theorem cs3_length (l : List α) : (cs3 f g h l).length = l.length * 3 := by
  induction l with
  | nil => rfl
  | cons b l ih => rw [cs3, List.flatMap_cons, List.length_append, ← cs3, ih]; simp; omega
theorem cs3_get (l : List α) (j : Nat) (hj : j < l.length) : (cs3 f g h l)[j * 3]? = some (f l[j]) ∧ (cs3 f g h l)[j * 3 + 1]? = some (g l[j]) ∧ (cs3 f g h l)[j * 3 + 2]? = some (h l[j]) := by
  induction l generalizing j with
  | nil => simp at hj
  | cons b l ih =>
    rw [cs3, List.flatMap_cons, ← cs3]
    cases j with
    | zero => simp
    | succ j =>
      have := ih j (by simpa using hj)
      have e : ∀ i, ([f b, g b, h b] ++ cs3 f g h l)[(j + 1) * 3 + i]? = (cs3 f g h l)[j * 3 + i]? := by
        intro i
        rw [List.getElem?_append_right (by simp; omega)]
        congr 1
        simp; omega
      have e0 := e 0
      simp only [Nat.add_zero] at e0
      rw [e0, e 1, e 2]
      simpa using this
def Row3 (f g h : α → Value) (w : World) (v : Value) (l : List α) : Prop :=
  ∃ a c, v = .slice a l.length c ∧ (0 < l.length → ∃ b o, a = some ⟨b, o, none⟩ ∧ ∀ j (hj : j < l.length), w.cell? ⟨b, o + j * 3, none⟩ = some (f l[j]) ∧ w.cell? ⟨b, o + j * 3 + 1, none⟩ = some (g l[j]) ∧ w.cell? ⟨b, o + j * 3 + 2, none⟩ = some (h l[j]))
theorem Row3.below {w w' : World} {v : Value} {l : List α} (k : Row3 f g h w v l) (hb : Below w.heap.size w w') : Row3 f g h w' v l := by
  obtain ⟨a, c, rfl, k⟩ := k
  refine ⟨a, c, rfl, fun hp => ?_⟩
  obtain ⟨b, o, rfl, h'⟩ := k hp
  refine ⟨b, o, rfl, fun j hj => ?_⟩
  obtain ⟨h0, h1, h2⟩ := h' j hj
  exact ⟨(hb.cell (World.block_lt_of_cell? _ _ h0)).trans h0, (hb.cell (World.block_lt_of_cell? _ _ h1)).trans h1, (hb.cell (World.block_lt_of_cell? _ _ h2)).trans h2⟩
theorem Row3.nil (w : World) : Row3 f g h w (.slice none 0 0) [] := ⟨none, 0, rfl, fun h => by simp at h⟩
theorem Row3.of_own {w : World} {base n : Nat} {T : TypeId} {v : Value} {l : List α} (k : w.ownsRow base T 3 v n (cs3 f g h l)) : Row3 f g h w v l := by
  have hl : l.length = n := by have := k.1; rw [cs3_length] at this; omega
  subst hl
  rcases k.2 with ⟨rfl, h0⟩ | ⟨q, c, cur, rfl, _⟩
  · exact ⟨none, 0, by rw [h0], fun hp => by omega⟩
  · refine ⟨_, c, rfl, fun _ => ⟨q, 0, rfl, fun j hj => ?_⟩⟩
    obtain ⟨h0, h1, h2⟩ := cs3_get (f := f) (g := g) (h := h) l j hj
    have k0 := k.cells (g := q) rfl _ _ h0
    have k1 := k.cells (g := q) rfl _ _ h1
    have k2 := k.cells (g := q) rfl _ _ h2
    rw [Go.WideShapes.add_plain] at k0 k1 k2
    exact ⟨by simpa using k0, by simpa [Nat.add_assoc] using k1, by simpa [Nat.add_assoc] using k2⟩
/-- A slice that reads as this list, no longer than its room. -/
def Row3c (f g h : α → Value) (w : World) (v : Value) (l : List α) : Prop :=
  ∃ a c, v = .slice a l.length (l.length + c) ∧ (0 < l.length → ∃ b o, a = some ⟨b, o, none⟩ ∧ ∀ j (hj : j < l.length), w.cell? ⟨b, o + j * 3, none⟩ = some (f l[j]) ∧ w.cell? ⟨b, o + j * 3 + 1, none⟩ = some (g l[j]) ∧ w.cell? ⟨b, o + j * 3 + 2, none⟩ = some (h l[j]))
theorem Row3c.row {w : World} {v : Value} {l : List α} (k : Row3c f g h w v l) : Row3 f g h w v l := by
  obtain ⟨a, c, rfl, k⟩ := k
  exact ⟨a, _, rfl, k⟩
theorem Row3c.below {w w' : World} {v : Value} {l : List α} (k : Row3c f g h w v l) (hb : Below w.heap.size w w') : Row3c f g h w' v l := by
  obtain ⟨a, c, rfl, k⟩ := k
  refine ⟨a, c, rfl, fun hp => ?_⟩
  obtain ⟨b, o, rfl, h'⟩ := k hp
  refine ⟨b, o, rfl, fun j hj => ?_⟩
  obtain ⟨h0, h1, h2⟩ := h' j hj
  exact ⟨(hb.cell (World.block_lt_of_cell? _ _ h0)).trans h0, (hb.cell (World.block_lt_of_cell? _ _ h1)).trans h1, (hb.cell (World.block_lt_of_cell? _ _ h2)).trans h2⟩
theorem Row3c.nil (w : World) : Row3c f g h w (.slice none 0 0) [] := ⟨none, 0, rfl, fun h => by simp at h⟩
theorem Row3c.of_row {w : World} {a : Option Addr} {c : Nat} {l : List α} (k : Row3 f g h w (.slice a l.length c) l) (hc : l.length ≤ c) : Row3c f g h w (.slice a l.length c) l := by
  obtain ⟨a', c', e, k⟩ := k
  cases e
  exact ⟨a, c - l.length, by congr 1; omega, k⟩
theorem Row3c.of_own {w : World} {base n : Nat} {T : TypeId} {v : Value} {l : List α} (k : w.ownsRow base T 3 v n (cs3 f g h l)) : Row3c f g h w v l := by
  have hr := Row3.of_own k
  have hl : l.length = n := by have := k.1; rw [cs3_length] at this; omega
  subst hl
  rcases k.2 with ⟨rfl, h0⟩ | ⟨q, c, cur, rfl, _, _, hc, _⟩
  · obtain rfl := List.length_eq_zero_iff.1 h0
    exact Row3c.nil w
  · exact Row3c.of_row hr hc
end three
end Go.Proofs.YtbflmkjlpopeaadGreatDoor

namespace Go.Files
open Go.Proofs.YtbflmkjlpopeaadGreatDoor (lenL bytes_ext)

/-- A file of a tree. -/
structure Fl where
  name : ByteArray
  data : ByteArray
deriving DecidableEq, Inhabited
/-- A line of a list. -/
structure Ln where
  name : ByteArray
  n : Int
  sum : Int
deriving DecidableEq, Inhabited

/-! ### Names rise -/
theorem less_irrefl : ∀ x : List UInt8, Op.bytesLess x x = false
  | [] => rfl
  | a :: x => by simp [Op.bytesLess, less_irrefl x]
theorem less_trans : ∀ x y z : List UInt8, Op.bytesLess x y = true → Op.bytesLess y z = true → Op.bytesLess x z = true
  | _, [], _, h, _ => by simp [Op.bytesLess] at h
  | _, _ :: _, [], _, h => by simp [Op.bytesLess] at h
  | [], _ :: _, _ :: _, _, _ => rfl
  | a :: x, b :: y, c :: z, h, k => by
    simp only [Op.bytesLess, Bool.or_eq_true, Bool.and_eq_true, decide_eq_true_eq, beq_iff_eq] at h k ⊢
    rcases h with h | ⟨rfl, h⟩
    · rcases k with k | ⟨rfl, _⟩
      · exact Or.inl (UInt8.lt_trans h k)
      · exact Or.inl h
    · rcases k with k | ⟨rfl, k⟩
      · exact Or.inl k
      · exact Or.inr ⟨rfl, less_trans x y z h k⟩
theorem less_total : ∀ x y : List UInt8, Op.bytesLess x y = false → Op.bytesLess y x = false → x = y
  | [], [], _, _ => rfl
  | [], _ :: _, h, _ => by simp [Op.bytesLess] at h
  | _ :: _, [], _, h => by simp [Op.bytesLess] at h
  | a :: x, b :: y, h, k => by
    simp only [Op.bytesLess, Bool.or_eq_false_iff, Bool.and_eq_false_iff, decide_eq_false_iff_not, beq_eq_false_iff_ne] at h k
    obtain ⟨h1, h2⟩ := h
    obtain ⟨k1, k2⟩ := k
    have hab : a = b := UInt8.le_antisymm (UInt8.not_lt.1 k1) (UInt8.not_lt.1 h1)
    subst hab
    rcases h2 with h2 | h2
    · exact absurd rfl h2
    · rcases k2 with k2 | k2
      · exact absurd rfl k2
      · rw [less_total x y h2 k2]
/-- One name comes ahead of another. -/
def lt (a b : ByteArray) : Bool := Op.bytesLess a.toList b.toList
theorem lt_irrefl (a : ByteArray) : lt a a = false := less_irrefl _
theorem lt_trans {a b c : ByteArray} (h : lt a b = true) (k : lt b c = true) : lt a c = true := less_trans _ _ _ h k
theorem lt_total {a b : ByteArray} (h : lt a b = false) (k : lt b a = false) : a = b := bytes_ext (less_total _ _ h k)
theorem lt_ne {a b : ByteArray} (h : lt a b = true) : a ≠ b := fun e => by rw [e, lt_irrefl] at h; cases h
theorem lt_asymm {a b : ByteArray} (h : lt a b = true) : lt b a = false := by
  cases hb : lt b a with
  | false => rfl
  | true =>
    have := lt_trans h hb
    rw [lt_irrefl] at this
    cases this
theorem lt_of {a b : ByteArray} (h : lt a b = false) (hne : a ≠ b) : lt b a = true := by
  cases hb : lt b a with
  | false => exact absurd (lt_total h hb) hne
  | true => rfl

/-! ### What is wrong -/
/-- A sign that may stand in a name. -/
def okc (c : UInt8) : Bool := (decide (97 ≤ c.toNat) && decide (c.toNat ≤ 122)) || (decide (48 ≤ c.toNat) && decide (c.toNat ≤ 57)) || decide (c.toNat = 46) || decide (c.toNat = 45)
def isNm (s : ByteArray) : Bool := s.data.toList.all okc && (decide (1 ≤ s.size) && decide (s.size ≤ 12))
/-- What is wrong with one, behind another one (5: its name, 2: how many bytes, 9: its order). -/
def bad (prev : Option ByteArray) (name : ByteArray) (n : Int) : Nat :=
  if isNm name = false then 5 else if n < 0 ∨ 4000 < n then 2 else match prev with | some p => (if lt p name then 0 else 9) | none => 0
/-- The first wrong one: its place and an error's number. -/
def scanF : List (ByteArray × Int) → Option ByteArray → Nat → Option (Nat × Nat)
  | [], _, _ => none
  | (a, n) :: r, p, i => if bad p a n = 0 then scanF r (some a) (i + 1) else some (i, bad p a n)
/-- An error's number (0: none) and its place (-1: nowhere). -/
def faultF (l : List (ByteArray × Int)) : Nat × Int :=
  if 20 < l.length then (8, -1) else match scanF l none 0 with | none => (0, -1) | some (i, c) => (c, i)
def keyF (f : Fl) : ByteArray × Int := (f.name, (f.data.size : Int))
def keyL (f : Ln) : ByteArray × Int := (f.name, f.n)
def prevOf (l : List (ByteArray × Int)) (j : Nat) : Option ByteArray := if j = 0 then none else (l[j - 1]?).map (·.1)
theorem scanF_step (l : List (ByteArray × Int)) (j : Nat) (h : j < l.length) :
    scanF (l.drop j) (prevOf l j) j = if bad (prevOf l j) l[j].1 l[j].2 = 0 then scanF (l.drop (j + 1)) (prevOf l (j + 1)) (j + 1) else some (j, bad (prevOf l j) l[j].1 l[j].2) := by
  rw [List.drop_eq_getElem_cons h, scanF]
  have e : prevOf l (j + 1) = some l[j].1 := by simp [prevOf, h]
  rw [e]
theorem bad_code (p : Option ByteArray) (a : ByteArray) (n : Int) : bad p a n = 0 ∨ bad p a n = 5 ∨ bad p a n = 2 ∨ bad p a n = 9 := by
  unfold bad
  split
  · simp
  · split
    · simp
    · split
      · split <;> simp
      · simp
theorem scanF_code : ∀ (l : List (ByteArray × Int)) (p : Option ByteArray) (i k c : Nat), scanF l p i = some (k, c) → (c = 5 ∨ c = 2 ∨ c = 9) ∧ i ≤ k ∧ k < i + l.length
  | [], _, _, _, _, h => by cases h
  | (a, n) :: r, p, i, k, c, h => by
    rw [scanF] at h
    split at h
    · have := scanF_code r _ _ _ _ h
      simp only [List.length_cons]
      omega
    · rename_i hb
      cases h
      have := bad_code p a n
      simp only [List.length_cons]
      omega
theorem faultF_code (l : List (ByteArray × Int)) : (faultF l).1 = 0 ∨ (faultF l).1 = 8 ∨ (faultF l).1 = 5 ∨ (faultF l).1 = 2 ∨ (faultF l).1 = 9 := by
  unfold faultF
  split
  · simp
  · split
    · simp
    · rename_i i c h
      have := (scanF_code _ _ _ _ _ h).1
      simp only
      omega
/-- All is well with one. -/
def okK (x : ByteArray × Int) : Prop := isNm x.1 = true ∧ 0 ≤ x.2 ∧ x.2 ≤ 4000
/-- Names that rise. -/
def Rise (l : List ByteArray) : Prop := l.Pairwise fun a b => lt a b = true
theorem bad_zero {p : Option ByteArray} {a : ByteArray} {n : Int} : bad p a n = 0 ↔ okK (a, n) ∧ ∀ q, p = some q → lt q a = true := by
  unfold bad okK
  simp only
  cases hn : isNm a with
  | false => simp
  | true =>
    simp only [Bool.true_eq_false, if_false, true_and]
    split
    · constructor
      · intro h; cases h
      · intro h; omega
    · cases p with
      | none => simp; omega
      | some q =>
        simp only
        cases hl : lt q a with
        | true => simp [hl]; omega
        | false => simp [hl]
theorem scanF_none : ∀ (l : List (ByteArray × Int)) (p : Option ByteArray) (i : Nat), scanF l p i = none ↔ (∀ x ∈ l, okK x) ∧ Rise (p.toList ++ l.map (·.1)) ∨ False
  | [], p, i => by cases p <;> simp [scanF, Rise]
  | (a, n) :: r, p, i => by
    rw [scanF]
    split
    · rename_i hb
      obtain ⟨h1, h2⟩ := bad_zero.1 hb
      rw [scanF_none r (some a) (i + 1)]
      simp only [or_false]
      cases p with
      | none => simp [Rise, h1]
      | some q =>
        have hq := h2 q rfl
        simp only [Rise, Option.toList_some, List.singleton_append, List.map_cons, List.mem_cons, forall_eq_or_imp, List.pairwise_cons]
        constructor
        · rintro ⟨x1, x2, x3⟩
          exact ⟨⟨h1, x1⟩, ⟨hq, fun b hb => lt_trans hq (x2 b hb)⟩, x2, x3⟩
        · rintro ⟨⟨_, x1⟩, _, x2, x3⟩
          exact ⟨x1, x2, x3⟩
    · rename_i hb
      simp only [reduceCtorEq, or_false, false_iff]
      rintro ⟨h1, h2⟩
      apply hb
      refine bad_zero.2 ⟨h1 _ (List.mem_cons_self ..), fun q hq => ?_⟩
      subst hq
      simp only [Rise, Option.toList_some, List.singleton_append, List.map_cons, List.pairwise_cons] at h2
      exact h2.1 a (List.mem_cons_self ..)
/-- All is well with a list. -/
structure Well (l : List (ByteArray × Int)) : Prop where
  len : l.length ≤ 20
  ok : ∀ x ∈ l, okK x
  rise : Rise (l.map (·.1))
theorem faultF_zero {l : List (ByteArray × Int)} : (faultF l).1 = 0 ↔ Well l := by
  unfold faultF
  split
  · rename_i h
    constructor
    · intro h; cases h
    · intro h2
      have := h2.len
      omega
  · rename_i h
    have hs := scanF_none l none 0
    simp only [Option.toList_none, List.nil_append, or_false] at hs
    split
    · rename_i hn
      have h2 := hs.1 hn
      exact ⟨fun _ => ⟨by omega, h2.1, h2.2⟩, fun _ => rfl⟩
    · rename_i i c hn
      have hc := (scanF_code _ _ _ _ _ hn).1
      constructor
      · intro h; simp only at h; omega
      · intro h2
        rw [hs.2 ⟨h2.ok, h2.rise⟩] at hn
        cases hn
theorem faultF_well {l : List (ByteArray × Int)} (h : Well l) : faultF l = (0, -1) := by
  unfold faultF
  rw [if_neg (by have := h.len; omega), ((scanF_none l none 0).2 (Or.inl ⟨h.ok, by simpa using h.rise⟩))]

/-! ### Got, dropped, put -/
def getF : List Fl → ByteArray → Option ByteArray
  | [], _ => none
  | f :: r, a => if f.name = a then some f.data else getF r a
def dropF (l : List Fl) (a : ByteArray) : List Fl := l.filter fun f => decide (f.name ≠ a)
def insF (a d : ByteArray) : List Fl → List Fl
  | [] => [⟨a, d⟩]
  | f :: r => if lt f.name a then f :: insF a d r else ⟨a, d⟩ :: (if f.name = a then r else f :: r)
def putF (l : List Fl) (a d : ByteArray) : List Fl × Nat × Int :=
  if (faultF (l.map keyF)).1 = 0 then (if (faultF ((insF a d l).map keyF)).1 = 0 then (insF a d l, 0, -1) else ([], faultF ((insF a d l).map keyF))) else ([], faultF (l.map keyF))
/-- Names that rise, of files. -/
def RiseF (l : List Fl) : Prop := Rise (l.map (·.name))
theorem riseF_cons {f : Fl} {r : List Fl} : RiseF (f :: r) ↔ (∀ x ∈ r, lt f.name x.name = true) ∧ RiseF r := by
  simp [RiseF, Rise, List.pairwise_cons]
theorem well_rise {l : List Fl} (h : Well (l.map keyF)) : RiseF l := by
  have := h.rise
  rw [List.map_map] at this
  exact this
theorem getF_mem : ∀ {l : List Fl} {a d : ByteArray}, getF l a = some d → (⟨a, d⟩ : Fl) ∈ l
  | [], _, _, h => by cases h
  | f :: r, a, d, h => by
    rw [getF] at h
    split at h
    · rename_i e
      cases h
      subst e
      exact List.mem_cons_self ..
    · exact List.mem_cons_of_mem _ (getF_mem h)
theorem getF_of_mem : ∀ {l : List Fl}, RiseF l → ∀ {f : Fl}, f ∈ l → getF l f.name = some f.data
  | [], _, _, h => by cases h
  | g :: r, hr, f, h => by
    obtain ⟨h1, h2⟩ := riseF_cons.1 hr
    rw [getF]
    rcases List.mem_cons.1 h with rfl | hm
    · rw [if_pos rfl]
    · rw [if_neg (lt_ne (h1 f hm)), getF_of_mem h2 hm]
theorem getF_none : ∀ {l : List Fl} {a : ByteArray}, getF l a = none ↔ ∀ f ∈ l, f.name ≠ a
  | [], a => by simp [getF]
  | g :: r, a => by
    rw [getF]
    split
    · rename_i e
      simp [e]
    · rename_i e
      rw [getF_none (l := r)]
      simp [e]
/-- What was put is got, and others are as they were. -/
theorem getF_ins (a d : ByteArray) : ∀ (l : List Fl), RiseF l → ∀ x, getF (insF a d l) x = if x = a then some d else getF l x
  | [], _, x => by
    simp only [insF, getF]
    by_cases h : x = a
    · simp [h]
    · rw [if_neg (fun e => h e.symm), if_neg h]
  | f :: r, hr, x => by
    obtain ⟨h1, h2⟩ := riseF_cons.1 hr
    rw [insF]
    split
    · rename_i hl
      rw [getF, getF, getF_ins a d r h2 x]
      by_cases hx : x = a
      · rw [if_pos hx, if_pos hx, if_neg (by rw [hx]; exact lt_ne hl)]
      · rw [if_neg hx, if_neg hx]
    · rename_i hl
      split
      · rename_i he
        rw [getF]
        by_cases hx : x = a
        · rw [if_pos hx, if_pos hx.symm]
        · rw [if_neg hx, if_neg (fun e => hx e.symm), getF, if_neg (by rw [he]; exact fun e => hx e.symm)]
      · rename_i he
        rw [getF]
        by_cases hx : x = a
        · rw [if_pos hx, if_pos hx.symm]
        · rw [if_neg hx, if_neg (fun e => hx e.symm)]
theorem mem_ins {a d : ByteArray} : ∀ {l : List Fl} {x : Fl}, x ∈ insF a d l → x = ⟨a, d⟩ ∨ x ∈ l
  | [], x, h => by simp only [insF, List.mem_singleton] at h; exact Or.inl h
  | f :: r, x, h => by
    rw [insF] at h
    split at h
    · rcases List.mem_cons.1 h with rfl | h
      · exact Or.inr (List.mem_cons_self ..)
      · rcases mem_ins h with h | h
        · exact Or.inl h
        · exact Or.inr (List.mem_cons_of_mem _ h)
    · rcases List.mem_cons.1 h with rfl | h
      · exact Or.inl rfl
      · split at h
        · exact Or.inr (List.mem_cons_of_mem _ h)
        · exact Or.inr h
theorem rise_ins (a d : ByteArray) : ∀ (l : List Fl), RiseF l → RiseF (insF a d l)
  | [], _ => by simp [insF, RiseF, Rise]
  | f :: r, hr => by
    obtain ⟨h1, h2⟩ := riseF_cons.1 hr
    rw [insF]
    split
    · rename_i hl
      refine riseF_cons.2 ⟨fun x hx => ?_, rise_ins a d r h2⟩
      rcases mem_ins hx with rfl | hx
      · exact hl
      · exact h1 x hx
    · rename_i hl
      have hl' : lt f.name a = false := by simpa using hl
      split
      · rename_i he
        refine riseF_cons.2 ⟨fun x hx => ?_, h2⟩
        rw [← he]
        exact h1 x hx
      · rename_i he
        have hal := lt_of hl' he
        refine riseF_cons.2 ⟨fun x hx => ?_, hr⟩
        rcases List.mem_cons.1 hx with rfl | hx
        · exact hal
        · exact lt_trans hal (h1 x hx)
end Go.Files

namespace Go.Files
open Go.Proofs.YtbflmkjlpopeaadGreatDoor (lenL bytes_ext)

/-- A step of a plan. -/
structure St where
  kind : ByteArray
  name : ByteArray
deriving DecidableEq, Inhabited
def kSend : ByteArray := ⟨#[115, 101, 110, 100]⟩
def kKeep : ByteArray := ⟨#[107, 101, 101, 112]⟩
def kDrop : ByteArray := ⟨#[100, 114, 111, 112]⟩
theorem send_ne_drop : kSend ≠ kDrop := by decide
theorem keep_ne_drop : kKeep ≠ kDrop := by decide
theorem send_ne_keep : kSend ≠ kKeep := by decide
/-- A line by its name. -/
def findL : List Ln → ByteArray → Option Ln
  | [], _ => none
  | x :: r, a => if x.name = a then some x else findL r a
/-- Of a line that is to be there, beside the lines that are there. -/
def kindOf (t : List Ln) (f : Ln) : ByteArray := match findL t f.name with | some x => (if x.n = f.n ∧ x.sum = f.sum then kKeep else kSend) | none => kSend
/-- Both lists from the front on. -/
def planM : List Ln → List Ln → List St
  | [], t => t.map fun x => ⟨kDrop, x.name⟩
  | f :: r, [] => ⟨kSend, f.name⟩ :: planM r []
  | f :: r, x :: q =>
    if lt x.name f.name then ⟨kDrop, x.name⟩ :: planM (f :: r) q
    else if x.name = f.name then ⟨if x.n = f.n ∧ x.sum = f.sum then kKeep else kSend, f.name⟩ :: planM r q
    else ⟨kSend, f.name⟩ :: planM r (x :: q)
termination_by a b => a.length + b.length
def RiseL (l : List Ln) : Prop := Rise (l.map (·.name))
theorem riseL_cons {f : Ln} {r : List Ln} : RiseL (f :: r) ↔ (∀ x ∈ r, lt f.name x.name = true) ∧ RiseL r := by
  simp [RiseL, Rise, List.pairwise_cons]
theorem findL_none {l : List Ln} {a : ByteArray} : findL l a = none ↔ ∀ x ∈ l, x.name ≠ a := by
  induction l with
  | nil => simp [findL]
  | cons g r ih =>
    rw [findL]
    split
    · rename_i e; simp [e]
    · rename_i e; rw [ih]; simp [e]
theorem findL_mem {l : List Ln} {a : ByteArray} {x : Ln} (h : findL l a = some x) : x ∈ l ∧ x.name = a := by
  induction l with
  | nil => cases h
  | cons g r ih =>
    rw [findL] at h
    split at h
    · rename_i e; cases h; exact ⟨List.mem_cons_self .., e⟩
    · exact ⟨List.mem_cons_of_mem _ (ih h).1, (ih h).2⟩
theorem findL_skip {x : Ln} {q : List Ln} {a : ByteArray} (h : x.name ≠ a) : findL (x :: q) a = findL q a := by rw [findL, if_neg h]
theorem kindOf_skip {x : Ln} {q : List Ln} {f : Ln} (h : x.name ≠ f.name) : kindOf (x :: q) f = kindOf q f := by unfold kindOf; rw [findL_skip h]
theorem kindOf_ne (t : List Ln) (f : Ln) : kindOf t f ≠ kDrop := by
  unfold kindOf
  split
  · split
    · exact keep_ne_drop
    · exact send_ne_drop
  · exact send_ne_drop
/-- A step that is no drop. -/
def stays (s : St) : Bool := decide (s.kind ≠ kDrop)
theorem stays_drop (a : ByteArray) : stays ⟨kDrop, a⟩ = false := by simp [stays]
theorem stays_of {k a : ByteArray} (h : k ≠ kDrop) : stays ⟨k, a⟩ = true := by simp [stays, h]
/-- All that is to be there is sent or kept, in its order. -/
theorem plan_stays : ∀ (F T : List Ln), RiseL F → RiseL T → (planM F T).filter stays = F.map fun f => ⟨kindOf T f, f.name⟩
  | [], t, _, _ => by
    rw [planM, List.map_nil, List.filter_eq_nil_iff]
    intro s hs
    obtain ⟨x, _, rfl⟩ := List.mem_map.1 hs
    rw [stays_drop]
    simp
  | f :: r, [], hF, hT => by
    rw [planM, List.filter_cons_of_pos (stays_of send_ne_drop), plan_stays r [] (riseL_cons.1 hF).2 hT]
    rfl
  | f :: r, x :: q, hF, hT => by
    obtain ⟨hf1, hf2⟩ := riseL_cons.1 hF
    obtain ⟨hx1, hx2⟩ := riseL_cons.1 hT
    rw [planM]
    split
    · rename_i hl
      rw [List.filter_cons_of_neg (by rw [stays_drop]; simp), plan_stays (f :: r) q hF hx2]
      apply List.map_congr_left
      intro g hg
      rw [kindOf_skip]
      rcases List.mem_cons.1 hg with rfl | hg
      · exact lt_ne hl
      · exact lt_ne (lt_trans hl (hf1 g hg))
    · rename_i hl
      have hl' : lt x.name f.name = false := by simpa using hl
      split
      · rename_i he
        rw [List.filter_cons_of_pos (stays_of (by split; exact keep_ne_drop; exact send_ne_drop)), plan_stays r q hf2 hx2, List.map_cons]
        congr 1
        · unfold kindOf
          rw [findL, if_pos he]
        · apply List.map_congr_left
          intro g hg
          rw [kindOf_skip]
          rw [he]
          exact lt_ne (hf1 g hg)
      · rename_i he
        have hfx := lt_of hl' he
        rw [List.filter_cons_of_pos (stays_of send_ne_drop), plan_stays r (x :: q) hf2 hT, List.map_cons]
        congr 2
        unfold kindOf
        rw [findL_none.2]
        intro y hy
        rcases List.mem_cons.1 hy with rfl | hy
        · exact he
        · exact (lt_ne (lt_trans hfx (hx1 y hy))).symm
termination_by a b => a.length + b.length
/-- What is there alone is dropped. -/
theorem plan_drops (a : ByteArray) : ∀ (F T : List Ln), RiseL F → RiseL T → ((⟨kDrop, a⟩ : St) ∈ planM F T ↔ findL T a ≠ none ∧ findL F a = none)
  | [], t, _, _ => by
    rw [planM]
    have : findL [] a = none := rfl
    simp only [this, and_true]
    rw [ne_eq, findL_none]
    simp
  | f :: r, [], hF, hT => by
    rw [planM, List.mem_cons, plan_drops a r [] (riseL_cons.1 hF).2 hT]
    simp [findL, send_ne_drop.symm]
  | f :: r, x :: q, hF, hT => by
    obtain ⟨hf1, hf2⟩ := riseL_cons.1 hF
    obtain ⟨hx1, hx2⟩ := riseL_cons.1 hT
    rw [planM]
    split
    · rename_i hl
      rw [List.mem_cons, plan_drops a (f :: r) q hF hx2]
      by_cases hxa : x.name = a
      · subst hxa
        have h1 : findL (f :: r) x.name = none := findL_none.2 fun g hg => by
          rcases List.mem_cons.1 hg with rfl | hg
          · exact (lt_ne hl).symm
          · exact (lt_ne (lt_trans hl (hf1 g hg))).symm
        have h2 : findL (x :: q) x.name = some x := by rw [findL, if_pos rfl]
        rw [h1, h2]
        simp
      · rw [findL_skip hxa]
        simp only [St.mk.injEq, true_and]
        constructor
        · rintro (h | h)
          · exact absurd h.symm hxa
          · exact h
        · exact Or.inr
    · rename_i hl
      have hl' : lt x.name f.name = false := by simpa using hl
      split
      · rename_i he
        rw [List.mem_cons, plan_drops a r q hf2 hx2]
        have hk : (⟨kDrop, a⟩ : St) ≠ ⟨if x.n = f.n ∧ x.sum = f.sum then kKeep else kSend, f.name⟩ := by
          intro e
          have := congrArg St.kind e
          simp only at this
          split at this
          · exact keep_ne_drop this.symm
          · exact send_ne_drop this.symm
        simp only [hk, false_or]
        by_cases hxa : x.name = a
        · have hfa : f.name = a := he.symm.trans hxa
          have h1 : findL q a = none := findL_none.2 fun g hg => by rw [← hxa]; exact (lt_ne (hx1 g hg)).symm
          rw [h1]
          simp [findL, hfa]
        · have hfa : f.name ≠ a := fun e => hxa (he.trans e)
          rw [findL_skip hxa, findL_skip hfa]
      · rename_i he
        have hfx := lt_of hl' he
        rw [List.mem_cons, plan_drops a r (x :: q) hf2 hT]
        have hk : (⟨kDrop, a⟩ : St) ≠ ⟨kSend, f.name⟩ := fun e => send_ne_drop (congrArg St.kind e).symm
        simp only [hk, false_or]
        by_cases hfa : f.name = a
        · have h1 : findL (x :: q) a = none := findL_none.2 fun g hg => by
            rw [← hfa]
            rcases List.mem_cons.1 hg with rfl | hg
            · exact he
            · exact (lt_ne (lt_trans hfx (hx1 g hg))).symm
          rw [h1]
          simp
        · rw [findL_skip hfa]
termination_by a b => a.length + b.length
theorem plan_mem (s : St) : ∀ (F T : List Ln), s ∈ planM F T → (∃ f ∈ F, s.name = f.name) ∨ ∃ x ∈ T, s.name = x.name
  | [], t, h => by
    rw [planM] at h
    obtain ⟨x, hx, rfl⟩ := List.mem_map.1 h
    exact Or.inr ⟨x, hx, rfl⟩
  | f :: r, [], h => by
    rw [planM] at h
    rcases List.mem_cons.1 h with rfl | h
    · exact Or.inl ⟨f, List.mem_cons_self .., rfl⟩
    · rcases plan_mem s r [] h with ⟨g, hg, e⟩ | ⟨g, hg, _⟩
      · exact Or.inl ⟨g, List.mem_cons_of_mem _ hg, e⟩
      · cases hg
  | f :: r, x :: q, h => by
    rw [planM] at h
    split at h
    · rcases List.mem_cons.1 h with rfl | h
      · exact Or.inr ⟨x, List.mem_cons_self .., rfl⟩
      · rcases plan_mem s (f :: r) q h with h | ⟨g, hg, e⟩
        · exact Or.inl h
        · exact Or.inr ⟨g, List.mem_cons_of_mem _ hg, e⟩
    · split at h
      · rcases List.mem_cons.1 h with rfl | h
        · exact Or.inl ⟨f, List.mem_cons_self .., rfl⟩
        · rcases plan_mem s r q h with ⟨g, hg, e⟩ | ⟨g, hg, e⟩
          · exact Or.inl ⟨g, List.mem_cons_of_mem _ hg, e⟩
          · exact Or.inr ⟨g, List.mem_cons_of_mem _ hg, e⟩
      · rcases List.mem_cons.1 h with rfl | h
        · exact Or.inl ⟨f, List.mem_cons_self .., rfl⟩
        · rcases plan_mem s r (x :: q) h with ⟨g, hg, e⟩ | h
          · exact Or.inl ⟨g, List.mem_cons_of_mem _ hg, e⟩
          · exact Or.inr h
termination_by a b => a.length + b.length
theorem plan_rise : ∀ (F T : List Ln), RiseL F → RiseL T → Rise ((planM F T).map (·.name))
  | [], t, _, hT => by
    rw [planM, List.map_map]
    exact hT
  | f :: r, [], hF, hT => by
    obtain ⟨hf1, hf2⟩ := riseL_cons.1 hF
    rw [planM, List.map_cons]
    refine List.pairwise_cons.2 ⟨fun b hb => ?_, plan_rise r [] hf2 hT⟩
    obtain ⟨s, hs, rfl⟩ := List.mem_map.1 hb
    rcases plan_mem s r [] hs with ⟨g, hg, e⟩ | ⟨g, hg, _⟩
    · rw [e]; exact hf1 g hg
    · cases hg
  | f :: r, x :: q, hF, hT => by
    obtain ⟨hf1, hf2⟩ := riseL_cons.1 hF
    obtain ⟨hx1, hx2⟩ := riseL_cons.1 hT
    rw [planM]
    split
    · rename_i hl
      rw [List.map_cons]
      refine List.pairwise_cons.2 ⟨fun b hb => ?_, plan_rise (f :: r) q hF hx2⟩
      obtain ⟨s, hs, rfl⟩ := List.mem_map.1 hb
      rcases plan_mem s (f :: r) q hs with ⟨g, hg, e⟩ | ⟨g, hg, e⟩
      · rw [e]
        rcases List.mem_cons.1 hg with rfl | hg
        · exact hl
        · exact lt_trans hl (hf1 g hg)
      · rw [e]; exact hx1 g hg
    · rename_i hl
      have hl' : lt x.name f.name = false := by simpa using hl
      split
      · rename_i he
        rw [List.map_cons]
        refine List.pairwise_cons.2 ⟨fun b hb => ?_, plan_rise r q hf2 hx2⟩
        obtain ⟨s, hs, rfl⟩ := List.mem_map.1 hb
        rcases plan_mem s r q hs with ⟨g, hg, e⟩ | ⟨g, hg, e⟩
        · rw [e]; exact hf1 g hg
        · rw [e]; simp only; rw [← he]; exact hx1 g hg
      · rename_i he
        have hfx := lt_of hl' he
        rw [List.map_cons]
        refine List.pairwise_cons.2 ⟨fun b hb => ?_, plan_rise r (x :: q) hf2 hT⟩
        obtain ⟨s, hs, rfl⟩ := List.mem_map.1 hb
        rcases plan_mem s r (x :: q) hs with ⟨g, hg, e⟩ | ⟨g, hg, e⟩
        · rw [e]; exact hf1 g hg
        · rw [e]
          rcases List.mem_cons.1 hg with rfl | hg
          · exact hfx
          · exact lt_trans hfx (hx1 g hg)
termination_by a b => a.length + b.length
/-- Of what is alike all is kept. -/
theorem plan_self : ∀ F : List Ln, planM F F = F.map fun f => ⟨kKeep, f.name⟩
  | [] => by rw [planM]; rfl
  | f :: r => by
    rw [planM, if_neg (by rw [lt_irrefl]; simp), if_pos rfl, if_pos ⟨rfl, rfl⟩, plan_self r]
    rfl
end Go.Files

namespace Go.Crc

def sh (c : Nat) : Nat := c / 2 ^^^ 3988292384 * (c % 2)
def shs : Nat → Nat → Nat
  | 0, c => c
  | k + 1, c => sh (shs k c)
def run (c : Nat) : List UInt8 → Nat
  | [] => c
  | b :: r => run (shs 8 (c ^^^ b.toNat)) r
def ones : Nat := 4294967295
def crc (c : Nat) (l : List UInt8) : Nat := run (c ^^^ ones) l ^^^ ones

theorem xor_mod2 (a b : Nat) : (a ^^^ b) % 2 = (a + b) % 2 := by
  have h := Nat.testBit_xor a b 0
  rw [Nat.testBit_zero, Nat.testBit_zero, Nat.testBit_zero] at h
  rcases Nat.mod_two_eq_zero_or_one (a ^^^ b) with e | e <;> rcases Nat.mod_two_eq_zero_or_one a with ha | ha <;> rcases Nat.mod_two_eq_zero_or_one b with hb | hb <;> simp [e, ha, hb] at h <;> omega

theorem xor_ac (a b c d : Nat) : (a ^^^ b) ^^^ (c ^^^ d) = (a ^^^ c) ^^^ (b ^^^ d) := by
  rw [Nat.xor_assoc, ← Nat.xor_assoc b c d, Nat.xor_comm b c, Nat.xor_assoc c b d, ← Nat.xor_assoc]
theorem sh_xor (a b : Nat) : sh (a ^^^ b) = sh a ^^^ sh b := by
  unfold sh
  rw [Nat.xor_div_two, xor_ac, xor_mod2]
  congr 1
  rcases Nat.mod_two_eq_zero_or_one a with ha | ha <;> rcases Nat.mod_two_eq_zero_or_one b with hb | hb <;> simp [Nat.add_mod, ha, hb]
theorem sh_zero : sh 0 = 0 := rfl
theorem sh_lt (c : Nat) (h : c < 2 ^ 32) : sh c < 2 ^ 32 := by
  unfold sh
  refine Nat.xor_lt_two_pow (by omega) ?_
  have := Nat.mod_two_eq_zero_or_one c
  rcases this with e | e <;> rw [e] <;> decide
theorem sh_ker (c : Nat) (h : c < 2 ^ 32) (e : sh c = 0) : c = 0 := by
  unfold sh at e
  have e' : c / 2 = 3988292384 * (c % 2) := by
    have h := congrArg (· ^^^ 3988292384 * (c % 2)) e
    simp only [Nat.xor_assoc, Nat.xor_self, Nat.xor_zero, Nat.zero_xor] at h
    exact h
  omega

theorem shs_xor (k a b : Nat) : shs k (a ^^^ b) = shs k a ^^^ shs k b := by
  induction k with
  | zero => rfl
  | succ k ih => rw [shs, shs, shs, ih, sh_xor]
theorem shs_zero (k : Nat) : shs k 0 = 0 := by
  induction k with
  | zero => rfl
  | succ k ih => rw [shs, ih, sh_zero]
theorem shs_lt (k c : Nat) (h : c < 2 ^ 32) : shs k c < 2 ^ 32 := by
  induction k with
  | zero => exact h
  | succ k ih => exact sh_lt _ ih
theorem shs_ker (k c : Nat) (h : c < 2 ^ 32) (e : shs k c = 0) : c = 0 := by
  induction k with
  | zero => exact e
  | succ k ih => exact ih (sh_ker _ (shs_lt k c h) e)
theorem shs_add (j k c : Nat) : shs (j + k) c = shs j (shs k c) := by
  induction j with
  | zero => rw [Nat.zero_add]; rfl
  | succ j ih => rw [Nat.succ_add, shs, shs, ih]
theorem shs_inner (k c : Nat) : shs (k + 1) c = shs k (sh c) := shs_add k 1 c

theorem byte_lt32 (b : UInt8) : b.toNat < 2 ^ 32 := by have := b.toNat_lt; omega
theorem run_lt (c : Nat) (l : List UInt8) (h : c < 2 ^ 32) : run c l < 2 ^ 32 := by
  induction l generalizing c with
  | nil => exact h
  | cons b r ih => exact ih _ (shs_lt 8 _ (Nat.xor_lt_two_pow h (byte_lt32 b)))
theorem run_append (c : Nat) (l m : List UInt8) : run c (l ++ m) = run (run c l) m := by
  induction l generalizing c with
  | nil => rfl
  | cons b r ih => exact ih _
theorem run_snoc (c : Nat) (l : List UInt8) (b : UInt8) : run c (l ++ [b]) = shs 8 (run c l ^^^ b.toNat) := by
  rw [run_append]; rfl
theorem run_xor (c d : Nat) (l : List UInt8) : run (c ^^^ d) l = run c l ^^^ shs (8 * l.length) d := by
  induction l generalizing c d with
  | nil => rfl
  | cons b r ih =>
    rw [run, run, show c ^^^ d ^^^ b.toNat = (c ^^^ b.toNat) ^^^ d by rw [Nat.xor_assoc, Nat.xor_comm d, ← Nat.xor_assoc], shs_xor, ih, List.length_cons, Nat.mul_add, shs_add]

theorem ones_lt : ones < 2 ^ 32 := by decide
theorem crc_lt (c : Nat) (l : List UInt8) (h : c < 2 ^ 32) : crc c l < 2 ^ 32 :=
  Nat.xor_lt_two_pow (run_lt _ _ (Nat.xor_lt_two_pow h ones_lt)) ones_lt
theorem xor_twice (a b : Nat) : a ^^^ b ^^^ b = a := by rw [Nat.xor_assoc, Nat.xor_self, Nat.xor_zero]
theorem crc_append (c : Nat) (l m : List UInt8) : crc (crc c l) m = crc c (l ++ m) := by
  unfold crc
  rw [xor_twice, run_append]
theorem crc_nil (c : Nat) : crc c [] = c := xor_twice c ones
/-- What is joined is what is summed at once. -/
theorem crc_join (c : Nat) (l m : List UInt8) : shs (8 * m.length) (crc c l) ^^^ crc 0 m = crc c (l ++ m) := by
  rw [← crc_append]
  generalize crc c l = x
  rw [crc, crc, Nat.zero_xor, Nat.xor_comm x, run_xor, ← Nat.xor_assoc, Nat.xor_comm (shs _ _)]
theorem join_join (j k a b c : Nat) : shs (8 * k) (shs (8 * j) a ^^^ b) ^^^ c = shs (8 * (j + k)) a ^^^ (shs (8 * k) b ^^^ c) := by
  rw [shs_xor, ← shs_add, Nat.xor_assoc, ← Nat.mul_add, Nat.add_comm k j]

/-- A bit that is turned, in a byte: the sums part by what that bit makes over the rest. -/
theorem crc_turn (l m : List UInt8) (b d : UInt8) : crc 0 (l ++ b :: m) ^^^ crc 0 (l ++ d :: m) = shs (8 * m.length) (shs 8 (b.toNat ^^^ d.toNat)) := by
  have key : ∀ c x y : Nat, ∀ m : List UInt8, run (shs 8 (c ^^^ x)) m ^^^ run (shs 8 (c ^^^ y)) m = shs (8 * m.length) (shs 8 (x ^^^ y)) := by
    intro c x y m
    have e : shs 8 (c ^^^ x) = shs 8 (c ^^^ y) ^^^ shs 8 (x ^^^ y) := by
      rw [← shs_xor]
      congr 1
      rw [xor_ac, Nat.xor_self, Nat.xor_zero]
    rw [e, run_xor, Nat.xor_comm, ← Nat.xor_assoc, Nat.xor_self, Nat.zero_xor]
  unfold crc
  rw [run_append, run_append, run, run, xor_ac, Nat.xor_self, Nat.xor_zero, key]
theorem shs_ne (k c : Nat) (h : c < 2 ^ 32) (h0 : c ≠ 0) : shs k c ≠ 0 := fun e => h0 (shs_ker k c h e)
theorem xor_ne {a b : Nat} (h : a ^^^ b ≠ 0) : a ≠ b := fun e => h (by rw [e, Nat.xor_self])

/-- The lowest bit of a number, and the rest of them. -/
theorem low_rest (c : Nat) (h0 : c ≠ 0) (h : c < 2 ^ 32) : c = (c &&& (c - 1)) ^^^ 2 ^ Lib.ctz 32 c ∧ c &&& (c - 1) < c ∧ Lib.ctz 32 c < 32 := by
  obtain ⟨m, hm, hk⟩ := Lib.ctzFrom_spec 32 c (by omega) h
  rw [Lib.ctz, if_neg h0]
  generalize Lib.ctzFrom 32 c = k at *
  have hp : 0 < 2 ^ k := Nat.two_pow_pos k
  have ha : c &&& (c - 1) = 2 ^ k * (2 * m) := by
    rw [hm]
    apply Nat.eq_of_testBit_eq
    intro i
    have e : 2 ^ k * (2 * m + 1) - 1 = 2 ^ k * (2 * m) + (2 ^ k - 1) := by rw [Nat.mul_add, Nat.mul_one]; omega
    rw [e, Nat.testBit_and]
    by_cases hik : i < k
    · have : (2 ^ k * (2 * m + 1)).testBit i = false := by rw [Nat.mul_comm, Nat.testBit_mul_two_pow]; simp; omega
      rw [this, Bool.false_and, Nat.mul_comm, Nat.testBit_mul_two_pow]; simp; omega
    · rw [Nat.testBit_two_pow_mul_add _ (by omega), if_neg hik, Nat.mul_comm, Nat.testBit_mul_two_pow, Nat.mul_comm (2 ^ k), Nat.testBit_mul_two_pow]
      by_cases he : i = k
      · subst he; simp [Nat.testBit_zero]
      · obtain ⟨j, hj⟩ : ∃ j, i - k = j + 1 := ⟨i - k - 1, by omega⟩
        rw [hj, Nat.testBit_succ, Nat.testBit_succ, show (2 * m + 1) / 2 = 2 * m / 2 by omega]
        simp
  refine ⟨?_, ?_, hk⟩
  · rw [ha]
    conv => lhs; rw [hm]
    apply Nat.eq_of_testBit_eq
    intro i
    rw [Nat.testBit_xor, Nat.testBit_two_pow, Nat.mul_comm, Nat.testBit_mul_two_pow, Nat.mul_comm (2 ^ k), Nat.testBit_mul_two_pow]
    by_cases hik : k ≤ i
    · by_cases he : k = i
      · subst he; simp [Nat.testBit_zero]
      · obtain ⟨j, hj⟩ : ∃ j, i - k = j + 1 := ⟨i - k - 1, by omega⟩
        rw [hj, Nat.testBit_succ, Nat.testBit_succ, show (2 * m + 1) / 2 = 2 * m / 2 by omega]
        simp [he]
    · simp [hik]; omega
  · rw [ha, hm, Nat.mul_add]; omega
end Go.Crc
