/-
  An argument of type []packhorseref2.Mark reads as marks.
  An argument of type int is one.
-/
import Derived.Test.YtogpjblikphpcaaGreatDoorRkFar
import Derived.WideShapes
import Derived.ChangeAt
import Derived.Deep.Slices
import Derived.Deep.Strs
import Derived.Test.YtogpjblikphpcaaGreatDoorLaidCore
namespace Go.Proofs.YtogpjblikphpcaaGreatDoor
open Go.ChangeShapes Go.WideShapes Go.ChangeAt Go.RowKit
open Go.Basis (Mk)

theorem Tryz.kargcells57 : Tryz.prog.cellsOf 57 = 3 := by kernel_rfl
theorem Tryz.kargcells3 : Tryz.prog.cellsOf 3 = 1 := by kernel_rfl
theorem Tryz.kargcells9 : Tryz.prog.cellsOf 9 = 1 := by kernel_rfl
/-- A struct of 3 fields. -/
theorem karg_struct {H : Type} {enc : TypeId × Value → H} {P : Program} {w : World} {base : Nat} {spare : Nat → Bool} {held : Bool} {t : TypeId} {f0 f1 f2 : Field} {fuel : Nat} {cs : List Value} {x : DataW H × List MemPlace} (ht : P.underlying t = some (.struct #[f0, f1, f2])) (h : DataW.trod enc P w base spare held fuel t cs = some x) :
    ∃ y0 y1 y2 n, DataW.trod enc P w base spare held n f0.type ((cs.drop f0.offset).take (P.cellsOf f0.type)) = some y0 ∧ DataW.trod enc P w base spare held n f1.type ((cs.drop f1.offset).take (P.cellsOf f1.type)) = some y1 ∧ DataW.trod enc P w base spare held n f2.type ((cs.drop f2.offset).take (P.cellsOf f2.type)) = some y2 := by
  obtain ⟨xs, n, _, rfl, hl, hlen, hf⟩ := DataW.trod_struct ht h
  match xs, hlen with
  | [y0, y1, y2], _ => exact ⟨y0, y1, y2, n, by simpa using hf 0 f0 rfl, by simpa using hf 1 f1 rfl, by simpa using hf 2 f2 rfl⟩

set_option maxRecDepth 100000 in
/-- One element. -/
theorem karg_one {H : Type} {enc : TypeId × Value → H} {W : World} {base : Nat} {spare : Nat → Bool} {held : Bool} {n : Nat} {ad : Addr} {cs : List Value} {x : DataW H × List MemPlace}
    (h1 : W.cells? base ad 3 = some cs) (h2 : DataW.trod enc Tryz.prog W base spare held n 57 cs = some x) :
    ∃ o : Mk, W.cell? (ad.add 0) = some (.string o.name) ∧ W.cell? (ad.add 1) = some (.int .i64 o.n) ∧ W.cell? (ad.add 2) = some (.int .i64 o.c) := by
  obtain ⟨_, hlen, hcell⟩ := World.cells?_some h1
  obtain ⟨v0, v1, v2, rfl⟩ : ∃ v0 v1 v2, cs = [v0, v1, v2] := by
    match cs, hlen with
    | [v0, v1, v2], _ => exact ⟨v0, v1, v2, rfl⟩
  obtain ⟨y0, y1, y2, k, g0, g1, g2⟩ := karg_struct Tryz.underlying57 h2
  simp only [Tryz.kargcells3, Tryz.kargcells9] at g0 g1 g2
  obtain ⟨z0, e0, _, _⟩ := DataW.trod_string Tryz.underlying9 g0
  obtain ⟨z1, e1, _, _⟩ := DataW.trod_int Tryz.underlying3 g1
  obtain ⟨z2, e2, _, _⟩ := DataW.trod_int Tryz.underlying3 g2
  simp at e0 e1 e2
  subst e0 e1 e2
  have c0 := hcell 0 (by omega)
  have c1 := hcell 1 (by omega)
  have c2 := hcell 2 (by omega)
  exact ⟨⟨z0, z1, z2⟩, by simpa using c0, by simpa using c1, by simpa using c2⟩

theorem karg_row {H : Type} {enc : TypeId × Value → H} {W : World} {base : Nat} {spare : Nat → Bool} {held : Bool} {fuel : Nat} {a : Option Addr} {len cap : Nat} {x : DataW H × List MemPlace}
    (h : DataW.trod enc Tryz.prog W base spare held fuel 53 [.slice a len cap] = some x) : ∃ l : List Mk, l.length = len ∧ McRow W (.slice a l.length cap) l := by
  rcases Go.Deep.open_slice Tryz.underlying53 h with ⟨hcs, _⟩ | ⟨ad, len', cap', m, n, D, Pl, hcs, hb, hl, hm, hmm, rfl, hx⟩
  · simp at hcs
    obtain ⟨rfl, rfl, rfl⟩ := hcs
    exact ⟨[], rfl, ⟨none, 0, rfl, fun h => by simp at h⟩⟩
  · simp at hcs
    obtain ⟨rfl, rfl, rfl⟩ := hcs
    have hlm : len ≤ m := by rw [hmm]; split <;> omega
    have each : ∀ i, i < len → ∃ o : Mk, W.cell? ((ad.add (i * 3)).add 0) = some (.string o.name) ∧ W.cell? ((ad.add (i * 3)).add 1) = some (.int .i64 o.n) ∧ W.cell? ((ad.add (i * 3)).add 2) = some (.int .i64 o.c) := by
      intro i hi
      obtain ⟨cs', h1, h2⟩ := hx i (by omega)
      rw [Tryz.kargcells57] at h1
      exact karg_one h1 h2
    have hin : Inhabited Mk := ⟨Go.Basis.noMk⟩
    obtain ⟨f, hf⟩ := Go.Deep.choose_lt each
    have hll : ((List.range len).map f).length = len := by simp
    refine ⟨(List.range len).map f, hll, ⟨some ad, cap, rfl, fun hp => ?_⟩⟩
    obtain ⟨bl, off, spot⟩ := ad
    have h0 := (hf 0 (by omega)).1
    have hspot : spot = none := by simpa [Addr.add] using World.cell?_spot h0
    subst hspot
    refine ⟨bl, off, rfl, fun j hj => ?_⟩
    have hj' : j < len := by omega
    obtain ⟨k0, k1, k2⟩ := hf j hj'
    have eg : ((List.range len).map f)[j] = f j := by simp
    rw [eg]
    rw [Go.Deep.add_add, add_plain] at k0 k1 k2
    exact ⟨by simpa using k0, by simpa [Nat.add_assoc] using k1, by simpa [Nat.add_assoc] using k2⟩

set_option maxRecDepth 100000 in
theorem marks_arg {H : Type} {enc : TypeId × Value → H} {W : World} {b base : Nat} {sp : Nat → Bool} {held : Bool} {v : Value} {d : DataW H} {p : List MemPlace} (hv : Value.okWide Tryz.prog W .any b 53 v) (h : DataW.Trod enc Tryz.prog W base sp held 53 v d p) :
    ∃ l : List Mk, McRow W v l := by
  obtain ⟨a0, len0, cap0, rfl⟩ := okWide_slice Tryz.underlying53 hv
  obtain ⟨fuel, hf⟩ := h
  obtain ⟨l, hl, h⟩ := karg_row (a := a0) (len := len0) (cap := cap0) (by simpa [Value.cells] using hf)
  subst hl
  exact ⟨l, h⟩
end Go.Proofs.YtogpjblikphpcaaGreatDoor

namespace Go.Proofs.YtogpjblikphpcaaGreatDoor
open Go.ChangeShapes Go.WideShapes

theorem i64_min : IntKind.i64.min = -9223372036854775808 := rfl
theorem i64_max : IntKind.i64.max = 9223372036854775807 := rfl
set_option maxRecDepth 100000 in
theorem int_bound {W : World} {base : Nat} {n : Int} (h : Value.okWide Tryz.prog W .any base 3 (.int .i64 n)) : -9223372036854775808 ≤ n ∧ n ≤ 9223372036854775807 := by
  simp only [Value.okWide, Tryz.underlying3, Cell.okWide, Cell.ok, IntKind.has, i64_min, i64_max] at h
  simp at h
  omega
end Go.Proofs.YtogpjblikphpcaaGreatDoor
