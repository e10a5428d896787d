/-
  Ops as four cells; slices that read as ops.
-/
import Derived.Test.YtgogjncamjbajacDoorDeltaMath
import Derived.OwnWalk
import Derived.WideShapes
namespace Go.Proofs.YtgogjncamjbajacDoor
open Go.RowKit
open Go.Delta (Opx)

theorem Tryd.info48 : (Tryd.prog.info? 48).map (fun i => (i.zero, i.size, i.bytes)) = some (some (.agg #[.string ⟨#[]⟩, .int .i64 0, .int .i64 0, .string ⟨#[]⟩]), 4, 48) := by kernel_rfl

/-- An op as cells, and as a value. -/
def ocells (o : Opx) : List Value := [.string o.kind, .int .i64 o.at_, .int .i64 o.n, .string o.data]
def oval (o : Opx) : Value := .agg #[.string o.kind, .int .i64 o.at_, .int .i64 o.n, .string o.data]
/-- An op's four cells at block p of the memory. -/
structure OpAt (p : Nat) (w : World) (o : Opx) : Prop where
  c0 : w.cell? ⟨p, 0, none⟩ = some (.string o.kind)
  c1 : w.cell? ⟨p, 1, none⟩ = some (.int .i64 o.at_)
  c2 : w.cell? ⟨p, 2, none⟩ = some (.int .i64 o.n)
  c3 : w.cell? ⟨p, 3, none⟩ = some (.string o.data)
  f0 : w.frozen? ⟨p, 0, none⟩ = false
  f1 : w.frozen? ⟨p, 1, none⟩ = false
  f2 : w.frozen? ⟨p, 2, none⟩ = false
  f3 : w.frozen? ⟨p, 3, none⟩ = false
  lt : p < w.heap.size
theorem OpAt.below {p k : Nat} {w w' : World} {o : Opx} (h : OpAt p w o) (hb : Below k w w') (hp : p < k) : OpAt p w' o :=
  ⟨(hb.cell (p := ⟨p, 0, none⟩) (by simpa using hp)).trans h.c0, (hb.cell (p := ⟨p, 1, none⟩) (by simpa using hp)).trans h.c1, (hb.cell (p := ⟨p, 2, none⟩) (by simpa using hp)).trans h.c2, (hb.cell (p := ⟨p, 3, none⟩) (by simpa using hp)).trans h.c3,
    (hb.frozen (p := ⟨p, 0, none⟩) (by simpa using hp)).trans h.f0, (hb.frozen (p := ⟨p, 1, none⟩) (by simpa using hp)).trans h.f1, (hb.frozen (p := ⟨p, 2, none⟩) (by simpa using hp)).trans h.f2, (hb.frozen (p := ⟨p, 3, none⟩) (by simpa using hp)).trans h.f3, Nat.lt_of_lt_of_le h.lt hb.size⟩
theorem OpAt.fresh (w : World) (o : Opx) (t : TypeId) : OpAt w.heap.size (w.alloc (.cells #[.string o.kind, .int .i64 o.at_, .int .i64 o.n, .string o.data] t)) o :=
  ⟨by simp, by simp, by simp, by simp, by simp, by simp, by simp, by simp, by simp⟩
theorem OpAt.drew {p : Nat} {w : World} {o : Opx} (h : OpAt p w o) : OpAt p w.drew o := ⟨h.c0, h.c1, h.c2, h.c3, h.f0, h.f1, h.f2, h.f3, h.lt⟩

/-- Ops as cells. -/
def ocs (l : List Opx) : List Value := l.flatMap ocells
theorem ocs_snoc (l : List Opx) (o : Opx) : ocs (l ++ [o]) = ocs l ++ ocells o := by simp [ocs]
theorem ocs_append (l m : List Opx) : ocs (l ++ m) = ocs l ++ ocs m := by simp [ocs]
theorem ocs_length (l : List Opx) : (ocs l).length = l.length * 4 := by
  induction l with
  | nil => rfl
  | cons b l ih => rw [ocs, List.flatMap_cons, List.length_append, ← ocs, ih]; simp [ocells]; omega
theorem ocs_get (l : List Opx) (j : Nat) (h : j < l.length) : (ocs l)[j * 4]? = some (.string l[j].kind) ∧ (ocs l)[j * 4 + 1]? = some (.int .i64 l[j].at_) ∧ (ocs l)[j * 4 + 2]? = some (.int .i64 l[j].n) ∧ (ocs l)[j * 4 + 3]? = some (.string l[j].data) := by
  induction l generalizing j with
  | nil => simp at h
  | cons b l ih =>
    rw [ocs, List.flatMap_cons, ← ocs]
    cases j with
    | zero => simp [ocells]
    | succ j =>
      have := ih j (by simpa using h)
      have e : ∀ i, (ocells b ++ ocs l)[(j + 1) * 4 + i]? = (ocs l)[j * 4 + i]? := by
        intro i
        rw [List.getElem?_append_right (by simp [ocells]; omega)]
        congr 1
        simp [ocells]; omega
      have e0 := e 0
      simp only [Nat.add_zero] at e0
      rw [e0, e 1, e 2, e 3]
      simpa using this

/-- A slice that reads as these ops. -/
def ORow (w : World) (v : Value) (l : List Opx) : Prop :=
  ∃ a c, v = .slice a l.length c ∧ (0 < l.length → ∃ b o, a = some ⟨b, o, none⟩ ∧ ∀ j (h : j < l.length), w.cell? ⟨b, o + j * 4, none⟩ = some (.string l[j].kind) ∧ w.cell? ⟨b, o + j * 4 + 1, none⟩ = some (.int .i64 l[j].at_) ∧ w.cell? ⟨b, o + j * 4 + 2, none⟩ = some (.int .i64 l[j].n) ∧ w.cell? ⟨b, o + j * 4 + 3, none⟩ = some (.string l[j].data))
theorem ORow.below {w w' : World} {v : Value} {l : List Opx} (h : ORow w v l) (hb : Below w.heap.size w w') : ORow w' v l := by
  obtain ⟨a, c, rfl, h⟩ := h
  refine ⟨a, c, rfl, fun hp => ?_⟩
  obtain ⟨b, o, rfl, h'⟩ := h hp
  refine ⟨b, o, rfl, fun j hj => ?_⟩
  obtain ⟨h0, h1, h2, h3⟩ := h' j hj
  exact ⟨(hb.cell (World.block_lt_of_cell? _ _ h0)).trans h0, (hb.cell (World.block_lt_of_cell? _ _ h1)).trans h1, (hb.cell (World.block_lt_of_cell? _ _ h2)).trans h2, (hb.cell (World.block_lt_of_cell? _ _ h3)).trans h3⟩
theorem ORow.nil (w : World) : ORow w (.slice none 0 0) [] := ⟨none, 0, rfl, fun h => by simp at h⟩
/-- A row that is owned reads as its ops. -/
theorem ORow.of_own {w : World} {base : Nat} {v : Value} {n : Nat} {l : List Opx} (h : w.ownsRow base 48 4 v n (ocs l)) : ORow w v l := by
  have hl : l.length = n := by have := h.1; rw [ocs_length] at this; omega
  subst hl
  rcases h.2 with ⟨rfl, h0⟩ | ⟨g, c, cur, rfl, _⟩
  · exact ⟨none, 0, by rw [h0], fun hp => by omega⟩
  · refine ⟨_, c, rfl, fun _ => ⟨g, 0, rfl, fun j hj => ?_⟩⟩
    obtain ⟨h0, h1, h2, h3⟩ := ocs_get l j hj
    have k0 := h.cells (g := g) rfl _ _ h0
    have k1 := h.cells (g := g) rfl _ _ h1
    have k2 := h.cells (g := g) rfl _ _ h2
    have k3 := h.cells (g := g) rfl _ _ h3
    rw [Go.WideShapes.add_plain] at k0 k1 k2 k3
    exact ⟨by simpa using k0, by simpa [Nat.add_assoc] using k1, by simpa [Nat.add_assoc] using k2, by simpa [Nat.add_assoc] using k3⟩
end Go.Proofs.YtgogjncamjbajacDoor
