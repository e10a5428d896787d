/-
  Slices whose elements are two cells, or three: how they read as a list. No function of the program.
-/
import Derived.Test.YtogpjblikphpcaaGreatDoorBase
namespace Go.Proofs.YtogpjblikphpcaaGreatDoor
open Go.RowKit

section two
variable {α : Type}
/-- A list as cells, two of each. -/
def cs2 (f g : α → Value) (l : List α) : List Value := l.flatMap fun x => [f x, g x]
variable {f g : α → Value}
theorem cs2_snoc (l : List α) (x : α) : cs2 f g (l ++ [x]) = cs2 f g l ++ [f x, g x] := by simp [cs2]
theorem cs2_append (l m : List α) : cs2 f g (l ++ m) = cs2 f g l ++ cs2 f g m := by simp [cs2]
theorem cs2_length (l : List α) : (cs2 f g l).length = l.length * 2 := by
  induction l with
  | nil => rfl
  | cons b l ih => rw [cs2, List.flatMap_cons, List.length_append, ← cs2, ih]; simp; omega
theorem cs2_get (l : List α) (j : Nat) (h : j < l.length) : (cs2 f g l)[j * 2]? = some (f l[j]) ∧ (cs2 f g l)[j * 2 + 1]? = some (g l[j]) := by
  induction l generalizing j with
  | nil => simp at h
  | cons b l ih =>
    rw [cs2, List.flatMap_cons, ← cs2]
    cases j with
    | zero => simp
    | succ j =>
      have := ih j (by simpa using h)
      have e : ∀ i, ([f b, g b] ++ cs2 f g l)[(j + 1) * 2 + i]? = (cs2 f g l)[j * 2 + i]? := by
        intro i
        rw [List.getElem?_append_right (by simp; omega)]
        congr 1
        simp; omega
      have e0 := e 0
      simp only [Nat.add_zero] at e0
      rw [e0, e 1]
      simpa using this
/-- A slice that reads as this list. -/
def Row2 (f g : α → Value) (w : World) (v : Value) (l : List α) : Prop :=
  ∃ a c, v = .slice a l.length c ∧ (0 < l.length → ∃ b o, a = some ⟨b, o, none⟩ ∧ ∀ j (h : j < l.length), w.cell? ⟨b, o + j * 2, none⟩ = some (f l[j]) ∧ w.cell? ⟨b, o + j * 2 + 1, none⟩ = some (g l[j]))
theorem Row2.below {w w' : World} {v : Value} {l : List α} (h : Row2 f g w v l) (hb : Below w.heap.size w w') : Row2 f g w' v l := by
  obtain ⟨a, c, rfl, h⟩ := h
  refine ⟨a, c, rfl, fun hp => ?_⟩
  obtain ⟨b, o, rfl, h'⟩ := h hp
  refine ⟨b, o, rfl, fun j hj => ?_⟩
  obtain ⟨h0, h1⟩ := h' j hj
  exact ⟨(hb.cell (World.block_lt_of_cell? _ _ h0)).trans h0, (hb.cell (World.block_lt_of_cell? _ _ h1)).trans h1⟩
theorem Row2.nil (w : World) : Row2 f g w (.slice none 0 0) [] := ⟨none, 0, rfl, fun h => by simp at h⟩
theorem Row2.of_own {w : World} {base n : Nat} {T : TypeId} {v : Value} {l : List α} (h : w.ownsRow base T 2 v n (cs2 f g l)) : Row2 f g w v l := by
  have hl : l.length = n := by have := h.1; rw [cs2_length] at this; omega
  subst hl
  rcases h.2 with ⟨rfl, h0⟩ | ⟨q, c, cur, rfl, _⟩
  · exact ⟨none, 0, by rw [h0], fun hp => by omega⟩
  · refine ⟨_, c, rfl, fun _ => ⟨q, 0, rfl, fun j hj => ?_⟩⟩
    obtain ⟨h0, h1⟩ := cs2_get (f := f) (g := g) l j hj
    have k0 := h.cells (g := q) rfl _ _ h0
    have k1 := h.cells (g := q) rfl _ _ h1
    rw [Go.WideShapes.add_plain] at k0 k1
    exact ⟨by simpa using k0, by simpa [Nat.add_assoc] using k1⟩
theorem Row2.news {w : World} {a : Option Addr} {c : Nat} {l : List α} (h : Row2 f g w (.slice a l.length c) l) (hp : 0 < l.length) : ∃ b o, a = some ⟨b, o, none⟩ ∧ ∀ j u, (cs2 f g l)[j]? = some u → w.cell? ((⟨b, o, none⟩ : Addr).add j) = some u := by
  obtain ⟨a', c', e, h⟩ := h
  obtain ⟨b, o, rfl, hc⟩ := h hp
  have ea : a = some ⟨b, o, none⟩ := by simp at e; exact e.1
  refine ⟨b, o, ea, fun j u hu => ?_⟩
  rw [Go.WideShapes.add_plain]
  have hj : j < l.length * 2 := by
    have := (List.getElem?_eq_some_iff.1 hu).1
    rw [cs2_length] at this
    exact this
  have hd : j / 2 < l.length := by omega
  obtain ⟨g0, g1⟩ := cs2_get (f := f) (g := g) l (j / 2) hd
  obtain ⟨c0, c1⟩ := hc (j / 2) hd
  rcases (show j = j / 2 * 2 ∨ j = j / 2 * 2 + 1 by omega) with e | e
  · rw [← e] at g0
    rw [g0] at hu
    cases hu
    rw [← e] at c0
    exact c0
  · rw [← e] at g1
    rw [g1] at hu
    cases hu
    rw [Nat.add_assoc, ← e] at c1
    exact c1
end two

section three
variable {α : Type}
/-- A list as cells, three of each. -/
def cs3 (f g h : α → Value) (l : List α) : List Value := l.flatMap fun x => [f x, g x, h x]
variable {f g h : α → Value}
theorem cs3_snoc (l : List α) (x : α) : cs3 f g h (l ++ [x]) = cs3 f g h l ++ [f x, g x, h x] := by simp [cs3]
theorem cs3_length (l : List α) : (cs3 f g h l).length = l.length * 3 := by
  induction l with
  | nil => rfl
  | cons b l ih => rw [cs3, List.flatMap_cons, List.length_append, ← cs3, ih]; simp; omega
theorem cs3_get (l : List α) (j : Nat) (hj : j < l.length) : (cs3 f g h l)[j * 3]? = some (f l[j]) ∧ (cs3 f g h l)[j * 3 + 1]? = some (g l[j]) ∧ (cs3 f g h l)[j * 3 + 2]? = some (h l[j]) := by
  induction l generalizing j with
  | nil => simp at hj
  | cons b l ih =>
    rw [cs3, List.flatMap_cons, ← cs3]
    cases j with
    | zero => simp
    | succ j =>
      have := ih j (by simpa using hj)
      have e : ∀ i, ([f b, g b, h b] ++ cs3 f g h l)[(j + 1) * 3 + i]? = (cs3 f g h l)[j * 3 + i]? := by
        intro i
        rw [List.getElem?_append_right (by simp; omega)]
        congr 1
        simp; omega
      have e0 := e 0
      simp only [Nat.add_zero] at e0
      rw [e0, e 1, e 2]
      simpa using this
def Row3 (f g h : α → Value) (w : World) (v : Value) (l : List α) : Prop :=
  ∃ a c, v = .slice a l.length c ∧ (0 < l.length → ∃ b o, a = some ⟨b, o, none⟩ ∧ ∀ j (hj : j < l.length), w.cell? ⟨b, o + j * 3, none⟩ = some (f l[j]) ∧ w.cell? ⟨b, o + j * 3 + 1, none⟩ = some (g l[j]) ∧ w.cell? ⟨b, o + j * 3 + 2, none⟩ = some (h l[j]))
theorem Row3.below {w w' : World} {v : Value} {l : List α} (k : Row3 f g h w v l) (hb : Below w.heap.size w w') : Row3 f g h w' v l := by
  obtain ⟨a, c, rfl, k⟩ := k
  refine ⟨a, c, rfl, fun hp => ?_⟩
  obtain ⟨b, o, rfl, h'⟩ := k hp
  refine ⟨b, o, rfl, fun j hj => ?_⟩
  obtain ⟨h0, h1, h2⟩ := h' j hj
  exact ⟨(hb.cell (World.block_lt_of_cell? _ _ h0)).trans h0, (hb.cell (World.block_lt_of_cell? _ _ h1)).trans h1, (hb.cell (World.block_lt_of_cell? _ _ h2)).trans h2⟩
theorem Row3.nil (w : World) : Row3 f g h w (.slice none 0 0) [] := ⟨none, 0, rfl, fun h => by simp at h⟩
theorem Row3.of_own {w : World} {base n : Nat} {T : TypeId} {v : Value} {l : List α} (k : w.ownsRow base T 3 v n (cs3 f g h l)) : Row3 f g h w v l := by
  have hl : l.length = n := by have := k.1; rw [cs3_length] at this; omega
  subst hl
  rcases k.2 with ⟨rfl, h0⟩ | ⟨q, c, cur, rfl, _⟩
  · exact ⟨none, 0, by rw [h0], fun hp => by omega⟩
  · refine ⟨_, c, rfl, fun _ => ⟨q, 0, rfl, fun j hj => ?_⟩⟩
    obtain ⟨h0, h1, h2⟩ := cs3_get (f := f) (g := g) (h := h) l j hj
    have k0 := k.cells (g := q) rfl _ _ h0
    have k1 := k.cells (g := q) rfl _ _ h1
    have k2 := k.cells (g := q) rfl _ _ h2
    rw [Go.WideShapes.add_plain] at k0 k1 k2
    exact ⟨by simpa using k0, by simpa [Nat.add_assoc] using k1, by simpa [Nat.add_assoc] using k2⟩
/-- A slice that reads as this list, no longer than its room. -/
def Row3c (f g h : α → Value) (w : World) (v : Value) (l : List α) : Prop :=
  ∃ a c, v = .slice a l.length (l.length + c) ∧ (0 < l.length → ∃ b o, a = some ⟨b, o, none⟩ ∧ ∀ j (hj : j < l.length), w.cell? ⟨b, o + j * 3, none⟩ = some (f l[j]) ∧ w.cell? ⟨b, o + j * 3 + 1, none⟩ = some (g l[j]) ∧ w.cell? ⟨b, o + j * 3 + 2, none⟩ = some (h l[j]))
theorem Row3c.row {w : World} {v : Value} {l : List α} (k : Row3c f g h w v l) : Row3 f g h w v l := by
  obtain ⟨a, c, rfl, k⟩ := k
  exact ⟨a, _, rfl, k⟩
theorem Row3c.below {w w' : World} {v : Value} {l : List α} (k : Row3c f g h w v l) (hb : Below w.heap.size w w') : Row3c f g h w' v l := by
  obtain ⟨a, c, rfl, k⟩ := k
  refine ⟨a, c, rfl, fun hp => ?_⟩
  obtain ⟨b, o, rfl, h'⟩ := k hp
  refine ⟨b, o, rfl, fun j hj => ?_⟩
  obtain ⟨h0, h1, h2⟩ := h' j hj
  exact ⟨(hb.cell (World.block_lt_of_cell? _ _ h0)).trans h0, (hb.cell (World.block_lt_of_cell? _ _ h1)).trans h1, (hb.cell (World.block_lt_of_cell? _ _ h2)).trans h2⟩
theorem Row3c.nil (w : World) : Row3c f g h w (.slice none 0 0) [] := ⟨none, 0, rfl, fun h => by simp at h⟩
theorem Row3c.of_row {w : World} {a : Option Addr} {c : Nat} {l : List α} (k : Row3 f g h w (.slice a l.length c) l) (hc : l.length ≤ c) : Row3c f g h w (.slice a l.length c) l := by
  obtain ⟨a', c', e, k⟩ := k
  cases e
  exact ⟨a, c - l.length, by congr 1; omega, k⟩
theorem Row3c.of_own {w : World} {base n : Nat} {T : TypeId} {v : Value} {l : List α} (k : w.ownsRow base T 3 v n (cs3 f g h l)) : Row3c f g h w v l := by
  have hr := Row3.of_own k
  have hl : l.length = n := by have := k.1; rw [cs3_length] at this; omega
  subst hl
  rcases k.2 with ⟨rfl, h0⟩ | ⟨q, c, cur, rfl, _, _, hc, _⟩
  · obtain rfl := List.length_eq_zero_iff.1 h0
    exact Row3c.nil w
  · exact Row3c.of_row hr hc
end three
end Go.Proofs.YtogpjblikphpcaaGreatDoor
