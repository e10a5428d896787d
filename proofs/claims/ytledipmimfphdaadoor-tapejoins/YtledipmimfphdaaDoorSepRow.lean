/-
  append of a slice's elements to a row that lies apart, one cell an element. No function of the program.
-/
import Derived.Test.YtledipmimfphdaaDoorSep
import Derived.Maps.AppendAt
import Derived.Laws.AppendOwnNone
namespace Go.Proofs.YtledipmimfphdaaDoor
open Go.RowKit

/-- At the operation. -/
theorem wpList_append_row {α : Type} {f : α → Value} {P : Program} {w : World} {M0 : Foot} {w0 : World} {L : List Fam} {ops : Array Oper} {rest : List Oper} {o : Oper} {a : Act} {Q : Exit → Act → World → Prop} (hgd : o.guard = none) (s x : Operand) (t : TypeId)
    (ho : o.op = .call { callee := .builtin .append, args := #[s, x], argTypes := #[t, t] })
    (e : TypeId) (i : TypeInfo) (z : Value) (bytes : Nat) (ht : P.underlying t = some (.slice e)) (hi : P.info? e = some i) (hz : i.zero = some z) (hsize : i.size = 1) (hby : i.bytes = bytes) (hzs : z.cells.size = 1)
    (v : Value) (n : Nat) (xs : List Value) (hs : a.eval s = v) (hS : Sep M0 w0 (OwnF e 1 v n xs :: L) w)
    (xv : Value) (X : List α) (hx : a.eval x = xv) (hR : Row1 f w xv X) (hnil : ∀ m c, xv = .slice none m c → c = 0) (hone : ∀ y, (f y).oneCell' = true)
    (h63 : n + X.length ≤ maxLen) (hbytes : (n + X.length) * bytes ≤ 140737488355328)
    (h : ∀ ga gc w', Sep M0 w0 (OwnF e 1 (.slice ga (n + X.length) gc) (n + X.length) (xs ++ X.map f) :: L) w' → wpList P ops Q rest (a.put o.dst (.slice ga (n + X.length) gc)) w') : wpList P ops Q (o :: rest) a w := by
  obtain ⟨xa, xc, rfl, hrow⟩ := hR
  cases xa with
  | none =>
    obtain rfl := hnil _ _ rfl
    have hX : X = [] := by
      cases X with
      | nil => rfl
      | cons y l =>
        obtain ⟨_, _, e2, _⟩ := hrow (by simp)
        cases e2
    subst hX
    obtain ⟨ga, gc, rfl, -⟩ := own_slice' hS.own
    have hr := run_append_owned_none (P := P) (w := w) 0 t o.type e i 1 ht hi (.slice ga n gc) n xs hS.own
    have h' := h ga gc w (by simpa using hS)
    refine wpList_plain hgd fun K hK => ?_
    unfold Oper.wp
    simp only [List.length_nil] at hx
    simp [execOp, ho, resolve, invoke, builtin, hs, hx, hr, Result.andThen]
    exact hK _ _ (by simpa using h')
  | some ad =>
    have hnews : ∀ j u, (X.map f)[j]? = some u → w.cell? (ad.add j) = some u := by
      intro j u hu
      rw [List.getElem?_map] at hu
      cases hj : X[j]? with
      | none => rw [hj] at hu; cases hu
      | some y =>
        rw [hj] at hu
        cases hu
        obtain ⟨hjl, hxj⟩ := List.getElem?_eq_some_iff.1 hj
        obtain ⟨b2, o2, e2, hc⟩ := hrow (by omega)
        simp only [Option.some.injEq] at e2
        subst e2
        have := hc j hjl
        rw [hxj] at this
        rw [Go.WideShapes.add_plain]
        exact this
    obtain ⟨v', w', hr, h2, h3, _, h5⟩ := run_append_own_at (P := P) (w := w) 0 t o.type e i z 1 bytes ht hi hz hsize hby hzs (by decide) v n xs hS.own ad X.length xc (X.map f) (by simp) hnews (fun u hu => by
      obtain ⟨y, _, rfl⟩ := List.mem_map.1 hu
      exact hone y) h63 hbytes (Nat.zero_le _)
    have hS' := hS.append h2 h3 h5
    obtain ⟨ga, gc, rfl, -⟩ := own_slice' h2
    have h' := h ga gc w' hS'
    refine wpList_plain hgd fun K hK => ?_
    unfold Oper.wp
    simp [execOp, ho, resolve, invoke, builtin, hs, hx, hr, Result.andThen]
    exact hK _ _ h'
end Go.Proofs.YtledipmimfphdaaDoor
