/-
  What the rows' condition on the twelve errors' variables, and on package errors' own variable, gives the walks; the door's own heap meets it.
-/
import Derived.Test.YtogpjblikphpcaaGreatDoorLaidBase
import Derived.Test.YtogpjblikphpcaaGreatDoorCode
import Derived.LaidHandle
namespace Go.Proofs.YtogpjblikphpcaaGreatDoor
open Go.ChangeShapes Go.WideShapes Go.ChangeAt Go.RowKit

abbrev laidErr {H : Type} (text : List UInt8) : DataW H := .iface "*errors.errorString" (.ptr (.agg [.lit (.string text)]))
/-- The twelve errors' variables, as the rows list them, each with its text. -/
abbrev errRows : List (String × List UInt8) := [("packhorse/api.ErrText", [112, 97, 99, 107, 104, 111, 114, 115, 101, 58, 32, 116, 101, 120, 116]), ("packhorse/api.ErrBound", [112, 97, 99, 107, 104, 111, 114, 115, 101, 58, 32, 98, 111, 117, 110, 100]), ("packhorse/api.ErrShape", [112, 97, 99, 107, 104, 111, 114, 115, 101, 58, 32, 115, 104, 97, 112, 101]), ("packhorse/api.ErrKind", [112, 97, 99, 107, 104, 111, 114, 115, 101, 58, 32, 107, 105, 110, 100]), ("packhorse/api.ErrName", [112, 97, 99, 107, 104, 111, 114, 115, 101, 58, 32, 110, 97, 109, 101]), ("packhorse/api.ErrNone", [112, 97, 99, 107, 104, 111, 114, 115, 101, 58, 32, 110, 111, 110, 101]), ("packhorse/api.ErrExist", [112, 97, 99, 107, 104, 111, 114, 115, 101, 58, 32, 101, 120, 105, 115, 116]), ("packhorse/api.ErrFull", [112, 97, 99, 107, 104, 111, 114, 115, 101, 58, 32, 102, 117, 108, 108]), ("packhorse/api.ErrOrder", [112, 97, 99, 107, 104, 111, 114, 115, 101, 58, 32, 111, 114, 100, 101, 114]), ("packhorse/api.ErrSum", [112, 97, 99, 107, 104, 111, 114, 115, 101, 58, 32, 115, 117, 109]), ("packhorse/api.ErrStale", [112, 97, 99, 107, 104, 111, 114, 115, 101, 58, 32, 115, 116, 97, 108, 101]), ("packhorse/api.ErrOff", [112, 97, 99, 107, 104, 111, 114, 115, 101, 58, 32, 111, 102, 102])]
abbrev laid12 : List (String × DataW Unit) := errRows.map fun x => (x.1, laidErr x.2)
abbrev laid13 : List (String × DataW Unit) := ("errors.errorType", Rows.laid_errors_errorType) :: laid12

/-- A listed error: its variable's cell, its row, its text. -/
structure ErrAt (W : World) (g : Nat) (text : List UInt8) (a : Addr) : Prop where
  cell : W.cell? ⟨g, 0, none⟩ = some (.iface 231 (.pointer (some a)))
  row : ∃ c t, W.heap[a.block]? = some (.cells c t (0, 0))
  text : ∃ s : ByteArray, W.cell? a = some (.string s) ∧ s.data.toList = text

theorem errAt_any {P : Program} {n nm : String} {text : List UInt8} {r : List (String × DataW Unit)} {W : World} {g : Nat} {ti tp te ts : TypeId} {ms : Array (String × TypeId)} {f : Field}
    (h : laidMet P ((n, .iface nm (.ptr (.agg [.lit (.string text)]))) :: r) W)
    (hg : P.globalNamed n = some g) (ht : (P.globals[g]?).map (·.type) = some ti) (hi : P.underlying ti = some (.interface ms)) (hrow : ∀ u, P.typeName? 3 u = some nm → u = tp)
    (hp : P.underlying tp = some (.pointer te)) (he : P.underlying te = some (.struct #[f])) (hft : f.type = ts) (hfo : f.offset = 0) (hs : P.underlying ts = some .string) (hc : P.cellsOf te = 1) (hcs : P.cellsOf ts = 1) :
    ∃ (a : Addr) (s : ByteArray), W.cell? ⟨g, 0, none⟩ = some (.iface tp (.pointer (some a))) ∧ (∃ c t, W.heap[a.block]? = some (.cells c t (0, 0))) ∧ W.cell? a = some (.string s) ∧ s.data.toList = text := by
  obtain ⟨ps, ⟨g0, t0, cs0, f0, p0, q0, hg0, ht0, hv0, hd0, _, e0⟩, _, hrows⟩ := h
  obtain rfl := Option.some.inj (hg.symm.trans hg0)
  obtain rfl := Option.some.inj (ht.symm.trans ht0)
  subst e0
  obtain ⟨l0⟩ := cs0
  have ok0 : ∀ u v, l0 = [.iface u v] → Value.okWide P W .any 0 u v := fun u v e => by
    subst e
    exact (hrows g 0 (by simp [MemPlace.row])).2 u v (by simpa using World.var?_cell hg0 hv0 0)
  obtain ⟨a0, s0, rfl, hc0, hs0, _, rfl⟩ := errorString_of_trod hi hrow hp he hft hfo hs hc hcs hd0 ok0
  exact ⟨a0, s0, by simpa using World.var?_cell hg0 hv0 0, (hrows a0.block a0.off (by simp [MemPlace.row])).1, hc0, hs0⟩

theorem errAt_of_laid {W : World} {n : String} {text : List UInt8} {r : List (String × DataW Unit)} {g : Nat} (h : laidMet Tryz.prog ((n, laidErr text) :: r) W)
    (hg : Tryz.prog.globalNamed n = some g) (ht : (Tryz.prog.globals[g]?).map (·.type) = some 28) : ∃ a, ErrAt W g text a := by
  obtain ⟨a, s, h1, h2, h3, h4⟩ := errAt_any h hg ht Tryz.underlying28 Tryz.row231 Tryz.underlying231 Tryz.underlying233 rfl rfl Tryz.underlying9 Tryz.cells233 Tryz.cells9
  exact ⟨a, h1, h2, s, h3, h4⟩

theorem errs_list {W : World} : ∀ (r : List (String × List UInt8)) (gs : List Nat), r.map (fun x => Tryz.prog.globalNamed x.1) = gs.map some → (∀ g ∈ gs, (Tryz.prog.globals[g]?).map (·.type) = some 28) →
    laidMet Tryz.prog (r.map fun x => (x.1, laidErr x.2)) W → ∃ L : List Addr, L.length = r.length ∧ ∀ k (_ : k < r.length) g t a, gs[k]? = some g → r[k]?.map (·.2) = some t → L[k]? = some a → ErrAt W g t a
  | [], gs, _, _, _ => ⟨[], rfl, fun k hk => by simp at hk⟩
  | x :: r, gs, hgs, hty, h => by
    obtain ⟨n, text⟩ := x
    match gs, hgs with
    | g :: gs, hgs =>
      simp only [List.map_cons, List.cons.injEq] at hgs h
      obtain ⟨a, ha⟩ := errAt_of_laid h hgs.1 (hty g (List.mem_cons_self ..))
      obtain ⟨L, hL, hall⟩ := errs_list r gs hgs.2 (fun g hg => hty g (List.mem_cons_of_mem _ hg)) h.tail
      refine ⟨a :: L, by simp [hL], fun k hk g' t' a' h1 h2 h3 => ?_⟩
      cases k with
      | zero =>
        simp at h1 h2 h3
        subst h1 h2 h3
        exact ha
      | succ k => exact hall k (by simpa using hk) g' t' a' (by simpa using h1) (by simpa using h2) (by simpa using h3)

theorem Tryz.gErrs : errRows.map (fun x => Tryz.prog.globalNamed x.1) = gnos.map some := by kernel_rfl
theorem Tryz.tErrs : ∀ g ∈ gnos, (Tryz.prog.globals[g]?).map (·.type) = some 28 := by
  intro g hg
  simp only [gnos, List.mem_cons, List.not_mem_nil, or_false] at hg
  rcases hg with rfl | rfl | rfl | rfl | rfl | rfl | rfl | rfl | rfl | rfl | rfl | rfl
  all_goals kernel_rfl
theorem texts_apart : ∀ i j : Fin 12, i ≠ j → errRows[i.val]?.map (·.2) ≠ errRows[j.val]?.map (·.2) := by decide
theorem Tryz.gHandle : Tryz.prog.globalNamed "errors.errorType" = some 12 := by kernel_rfl
theorem Tryz.rtRow : (Tryz.prog.cutTypes.find? (·.1 == "internal/reflectlite.rtype")).map (·.2) = some 162 := by kernel_rfl
theorem Tryz.typesSize : Tryz.prog.types.size = 268 := by kernel_rfl
theorem Tryz.errorRow : ((List.range 268).filter fun t => Tryz.prog.rowNamed t [101, 114, 114, 111, 114]) = [28] := by kernel_rfl

theorem idx12 (k : Nat) (hk : k < 12) : gnos[k]? = some (gno k) := by
  unfold gno
  have : k < gnos.length := hk
  simp [List.getD, this]

theorem sents_of_laid {W : World} (h : laidMetH Tryz.prog laid13 W) : ∃ a, Sents W a := by
  have h' : laidMet Tryz.prog laid12 W ∧ handlesMet Tryz.prog [("errors.errorType", Rows.laid_errors_errorType)] W := h
  obtain ⟨hl, hh⟩ := h'
  obtain ⟨L, hL, hall⟩ := errs_list errRows _ Tryz.gErrs Tryz.tErrs hl
  have hL12 : L.length = 12 := hL
  have get : ∀ k (hk : k < 12), ∃ t, errRows[k]?.map (·.2) = some t ∧ ErrAt W (gno k) t (L[k]'(by omega)) := by
    intro k hk
    have hk' : k < errRows.length := hk
    exact ⟨errRows[k].2, by rw [List.getElem?_eq_getElem hk']; rfl, hall k hk' (gno k) _ _ (idx12 k hk) (by rw [List.getElem?_eq_getElem hk']; rfl) (List.getElem?_eq_getElem (by omega))⟩
  have eqa : ∀ k (hk : k < 12), L.getD k ⟨0, 0, none⟩ = L[k]'(by omega) := by
    intro k hk
    simp [List.getD, show k < L.length by omega]
  refine ⟨fun k => L.getD k ⟨0, 0, none⟩, fun k hk => ?_, fun k hk => ?_, fun i j hi hj hij e => ?_, ?_⟩
  · obtain ⟨t, _, ha⟩ := get k hk
    rw [eqa k hk]
    exact ha.cell
  · obtain ⟨t, _, ha⟩ := get k hk
    rw [eqa k hk]
    exact ha.row
  · obtain ⟨t1, ht1, ha1⟩ := get i hi
    obtain ⟨t2, ht2, ha2⟩ := get j hj
    obtain ⟨s1, hc1, hs1⟩ := ha1.text
    obtain ⟨s2, hc2, hs2⟩ := ha2.text
    have e' : L[i]'(by omega) = L[j]'(by omega) := by
      have := e
      rw [eqa i hi, eqa j hj] at this
      exact this
    rw [e'] at hc1
    rw [hc1] at hc2
    have hss : s1 = s2 := by simpa using hc2
    subst hss
    refine texts_apart ⟨i, hi⟩ ⟨j, hj⟩ (fun h => hij (congrArg Fin.val h)) ?_
    show errRows[i]?.map (·.2) = errRows[j]?.map (·.2)
    rw [ht1, ht2, ← hs1, ← hs2]
  · obtain ⟨name, u, ty, e1, e2, e3, e4, e5⟩ := hh _ (List.mem_singleton.2 rfl)
    have en : name = [101, 114, 114, 111, 114] := (Option.some.inj e1).symm
    subst en
    obtain rfl := Option.some.inj (Tryz.rtRow.symm.trans e2)
    have hm : ty ∈ (List.range 268).filter fun t => Tryz.prog.rowNamed t [101, 114, 114, 111, 114] := List.mem_filter.2 ⟨List.mem_range.2 (by rw [← Tryz.typesSize]; exact e3), e4⟩
    rw [Tryz.errorRow] at hm
    obtain rfl := List.mem_singleton.1 hm
    have hh2 : typeHandle Tryz.prog 28 = .pointer (some ⟨21, 28, none⟩) := by kernel_rfl
    rw [hh2] at e5
    simpa using World.var?_cell Tryz.gHandle e5 0

theorem door_met13 (os : Os) (args : Array Value) : laidMetH Tryz.prog laid13 ((World.doorLaid Tryz.prog 400 os).forCall (fun _ _ => 0) ⟨#[], args, []⟩).memory :=
  laidMetH_of_parts3 (fuel := 8) (laidMet_of_run' 8 (by kernel_rfl) (by kernel_rfl)) (by kernel_rfl) (by kernel_rfl)
end Go.Proofs.YtogpjblikphpcaaGreatDoor
