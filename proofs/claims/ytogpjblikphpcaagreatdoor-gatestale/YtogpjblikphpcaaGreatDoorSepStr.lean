/-
  append of a text's bytes to a row that lies apart. No function of the program.
-/
import Derived.Test.YtogpjblikphpcaaGreatDoorSep
import Derived.Lib.AppendStr
namespace Go.Proofs.YtogpjblikphpcaaGreatDoor
open Go.RowKit

section
variable {P : Program} {w : World}
/-- Where the row lies behind it: where it lay, or behind all. -/
theorem append_text_at (t u ty e : TypeId) (i : TypeInfo) (ht : P.underlying t = some (.slice e)) (hu : P.underlying u = some .string) (hi : P.info? e = some i) (hz : i.zero = some (.int .u8 0)) (hs1 : i.size = 1) (hb1 : i.bytes = 1)
    {v v' : Value} {w' : World} {n : Nat} {xs : List Value} (hown : w.ownsRow 0 e 1 v n xs) (s : ByteArray) (hs0 : 0 < s.size) (hl : n + s.size ≤ 1000000) (hr : (Builtin.append_ #[t, u] ty #[v, .string s]).run P w = .ok v' w') :
    v'.ownBlock = v.ownBlock ∨ v'.ownBlock = some w.heap.size := by
  have hxl : xs.length = n := by simpa using hown.1
  rcases hown.2 with ⟨rfl, rfl⟩ | ⟨g, cap, cur, rfl, _, hg, hnc, hcm, hcs, _⟩
  · have k := run_append_nil_string (P := P) w t u ty e i (.int .u8 0) ht hu hi hz s hs0 (by omega) (by rw [hb1]; omega)
    rw [k] at hr
    cases hr
    exact .inr rfl
  · by_cases hroom : n + s.size ≤ cap
    · have k := Lib.run_append_room_string (P := P) w t u ty e i ht hu hi hs1 g n cap cur hg s hroom (by rw [Nat.mul_one] at hcs; omega)
      rw [k] at hr
      cases hr
      exact .inl rfl
    · have k := Lib.run_append_grow_string (P := P) w t u ty e i (.int .u8 0) ht hu hi hz ⟨g, 0, none⟩ n cap xs (by rw [hs1]; simpa using hxl) (hown.cells (g := g) rfl) s (by omega) (by omega) (by rw [hb1]; exact growslice_fits (by omega) (by omega))
      rw [k] at hr
      cases hr
      exact .inr rfl
variable {M0 : Foot} {w0 : World} {L : List Fam}
theorem Sep.appendText (t u ty e : TypeId) (i : TypeInfo) (ht : P.underlying t = some (.slice e)) (hu : P.underlying u = some .string) (hi : P.info? e = some i) (hz : i.zero = some (.int .u8 0)) (hs1 : i.size = 1) (hb1 : i.bytes = 1)
    {v : Value} {n : Nat} {xs : List Value} (h : Sep M0 w0 (OwnF e 1 v n xs :: L) w) (s : ByteArray) (hs0 : 0 < s.size) (hl : n + s.size ≤ 1000000) :
    ∃ g c w', (Builtin.append_ #[t, u] ty #[v, .string s]).run P w = .ok (.slice (some ⟨g, 0, none⟩) (n + s.size) c) w' ∧ Sep M0 w0 (OwnF e 1 (.slice (some ⟨g, 0, none⟩) (n + s.size) c) (n + s.size) (xs ++ Lib.strCells s) :: L) w' := by
  obtain ⟨v', w', hr, h2, h3, _⟩ := Lib.run_append_own_string (P := P) w 0 t u ty e i ht hu hi hz hs1 hb1 v n xs h.own s (by unfold maxLen; omega) (by omega) (Nat.zero_le _)
  have hat := append_text_at t u ty e i ht hu hi hz hs1 hb1 h.own s hs0 hl hr
  have hS := h.append h2 h3 hat
  obtain ⟨k, hk⟩ : ∃ k, n + s.size = k + 1 := ⟨n + s.size - 1, by omega⟩
  rw [hk] at h2 hS ⊢
  obtain ⟨g, c, rfl⟩ := own_form h2
  exact ⟨g, c, w', hr, hS⟩
end

/-- At the operation. -/
theorem wpList_append_text {P : Program} {w : World} {M0 : Foot} {w0 : World} {L : List Fam} {ops : Array Oper} {rest : List Oper} {o : Oper} {a : Act} {Q : Exit → Act → World → Prop} (hgd : o.guard = none) (sl x : Operand) (t u : TypeId)
    (ho : o.op = .call { callee := .builtin .append, args := #[sl, x], argTypes := #[t, u] })
    (e : TypeId) (i : TypeInfo) (ht : P.underlying t = some (.slice e)) (hu : P.underlying u = some .string) (hi : P.info? e = some i) (hz : i.zero = some (.int .u8 0)) (hs1 : i.size = 1) (hb1 : i.bytes = 1)
    (v : Value) (n : Nat) (xs : List Value) (hs : a.eval sl = v) (hS : Sep M0 w0 (OwnF e 1 v n xs :: L) w) (s : ByteArray) (hx : a.eval x = .string s) (hs0 : 0 < s.size) (hl : n + s.size ≤ 1000000)
    (h : ∀ g c w', Sep M0 w0 (OwnF e 1 (.slice (some ⟨g, 0, none⟩) (n + s.size) c) (n + s.size) (xs ++ Lib.strCells s) :: L) w' → wpList P ops Q rest (a.put o.dst (.slice (some ⟨g, 0, none⟩) (n + s.size) c)) w') : wpList P ops Q (o :: rest) a w := by
  refine wpList_plain hgd fun K hK => ?_
  obtain ⟨g, c, w', hr, h2⟩ := hS.appendText t u o.type e i ht hu hi hz hs1 hb1 s hs0 hl
  unfold Oper.wp
  simp [execOp, ho, resolve, invoke, builtin, hs, hx, hr, Result.andThen]
  exact hK _ _ (h g c w' h2)
end Go.Proofs.YtogpjblikphpcaaGreatDoor
