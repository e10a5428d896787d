/-
  An argument of type []packhorselaw2.Act reads as acts.
-/
import Derived.Test.YtaambclpkghddaaDoorSliceArg
import Derived.Deep.Slices
import Derived.Deep.Strs
namespace Go.Proofs.YtaambclpkghddaaDoor
open Go.ChangeShapes Go.WideShapes Go.ChangeAt Go.RowKit

/-- An act: its kind, its text, its number, its list as a value and as it reads. -/
structure Actx where
  kind : ByteArray
  s : ByteArray
  n : Int
  mv : Value
  more : List Int
/-- What is known of an act in a world. -/
def Actx.Ok (W : World) (x : Actx) : Prop := Row1 intV W x.mv x.more ∧ WfI x.n ∧ (∀ y ∈ x.more, WfI y) ∧ ∀ n c, x.mv = .slice none n c → c = 0
/-- A slice that reads as acts. -/
def ActRow (W : World) (v : Value) (l : List Actx) : Prop := (∃ a c, v = .slice a l.length c ∧ (0 < l.length → ∃ b o, a = some ⟨b, o, none⟩ ∧
  ∀ j (h : j < l.length), W.cell? ⟨b, o + j * 4, none⟩ = some (.string l[j].kind) ∧ W.cell? ⟨b, o + j * 4 + 1, none⟩ = some (.string l[j].s) ∧ W.cell? ⟨b, o + j * 4 + 2, none⟩ = some (.int .i64 l[j].n) ∧ W.cell? ⟨b, o + j * 4 + 3, none⟩ = some l[j].mv)) ∧ ∀ x ∈ l, x.Ok W

theorem Tryd.acells56 : Tryd.prog.cellsOf 56 = 4 := by kernel_rfl
theorem Tryd.acells3 : Tryd.prog.cellsOf 3 = 1 := by kernel_rfl
theorem Tryd.acells9 : Tryd.prog.cellsOf 9 = 1 := by kernel_rfl
theorem Tryd.acells23 : Tryd.prog.cellsOf 23 = 1 := by kernel_rfl
theorem alist4 {α : Type} {l : List α} (h : l.length = 4) : ∃ a b c d, l = [a, b, c, d] := by
  match l, h with
  | [a, b, c, d], _ => exact ⟨a, b, c, d, rfl⟩
/-- A struct of four fields. -/
theorem atrod_struct4 {H : Type} {enc : TypeId × Value → H} {P : Program} {w : World} {base : Nat} {spare : Nat → Bool} {held : Bool} {t : TypeId} {f0 f1 f2 f3 : Field} {fuel : Nat} {cs : List Value} {x : DataW H × List MemPlace} (ht : P.underlying t = some (.struct #[f0, f1, f2, f3])) (h : DataW.trod enc P w base spare held fuel t cs = some x) :
    ∃ y0 y1 y2 y3 n, DataW.trod enc P w base spare held n f0.type ((cs.drop f0.offset).take (P.cellsOf f0.type)) = some y0 ∧ DataW.trod enc P w base spare held n f1.type ((cs.drop f1.offset).take (P.cellsOf f1.type)) = some y1 ∧
      DataW.trod enc P w base spare held n f2.type ((cs.drop f2.offset).take (P.cellsOf f2.type)) = some y2 ∧ DataW.trod enc P w base spare held n f3.type ((cs.drop f3.offset).take (P.cellsOf f3.type)) = some y3 := by
  obtain ⟨xs, n, _, rfl, hl, hlen, hf⟩ := DataW.trod_struct ht h
  match xs, hlen with
  | [y0, y1, y2, y3], _ => exact ⟨y0, y1, y2, y3, n, by simpa using hf 0 f0 rfl, by simpa using hf 1 f1 rfl, by simpa using hf 2 f2 rfl, by simpa using hf 3 f3 rfl⟩
set_option maxRecDepth 100000 in
theorem ints_trod {H : Type} {enc : TypeId × Value → H} {W : World} {base : Nat} {sp : Nat → Bool} {held : Bool} {v : Value} {fuel : Nat} {y : DataW H × List MemPlace} (hf : DataW.trod enc Tryd.prog W base sp held fuel 23 [v] = some y) :
    ∃ P : List Int, Row1 intV W v P ∧ (∀ x ∈ P, WfI x) ∧ ∀ n c, v = .slice none n c → c = 0 := by
  rcases open_ints Tryd.underlying23 Tryd.underlying3 (by kernel_rfl) hf with ⟨hcs, _⟩ | ⟨x, l, c, zs, hcs, _, hl, hm, hz, _, hcell, hwz⟩
  · simp at hcs
    subst hcs
    exact ⟨[], Row1.nil W, by simp, fun n c e => by cases e; rfl⟩
  · simp at hcs
    subst hcs
    have hz' : l ≤ zs.length := by rw [hz]; split <;> omega
    refine ⟨zs.take l, row1_mk hz' (fun j hj => ?_), fun x hx => ?_, fun n c e => by cases e⟩
    · rw [hcell j hj]; simp [intV, List.getD, hj]
    · exact wf_of (hwz x (List.mem_of_mem_take hx))

set_option maxRecDepth 100000 in
/-- One element. -/
theorem act_of_trod {H : Type} {enc : TypeId × Value → H} {W : World} {base : Nat} {spare : Nat → Bool} {held : Bool} {n : Nat} {ad : Addr} {cs : List Value} {x : DataW H × List MemPlace}
    (h1 : W.cells? base ad 4 = some cs) (h2 : DataW.trod enc Tryd.prog W base spare held n 56 cs = some x) :
    ∃ o : Actx, o.Ok W ∧ W.cell? (ad.add 0) = some (.string o.kind) ∧ W.cell? (ad.add 1) = some (.string o.s) ∧ W.cell? (ad.add 2) = some (.int .i64 o.n) ∧ W.cell? (ad.add 3) = some o.mv := by
  obtain ⟨_, hlen, hcell⟩ := World.cells?_some h1
  obtain ⟨v0, v1, v2, v3, rfl⟩ := alist4 hlen
  obtain ⟨y0, y1, y2, y3, k, g0, g1, g2, g3⟩ := atrod_struct4 Tryd.underlying56 h2
  simp only [Tryd.acells3, Tryd.acells9, Tryd.acells23] at g0 g1 g2 g3
  obtain ⟨z0, e0, _, _⟩ := DataW.trod_string Tryd.underlying9 g0
  obtain ⟨z1, e1, _, _⟩ := DataW.trod_string Tryd.underlying9 g1
  obtain ⟨z2, e2, _, hw⟩ := DataW.trod_int Tryd.underlying3 g2
  simp at e0 e1 e2
  subst e0 e1 e2
  obtain ⟨P, hP, hPw, hPn⟩ := ints_trod (v := v3) (by simpa using g3)
  have c0 := hcell 0 (by omega)
  have c1 := hcell 1 (by omega)
  have c2 := hcell 2 (by omega)
  have c3 := hcell 3 (by omega)
  exact ⟨⟨z0, z1, z2, v3, P⟩, ⟨hP, wf_of hw, hPw, hPn⟩, by simpa using c0, by simpa using c1, by simpa using c2, by simpa using c3⟩

set_option maxRecDepth 100000 in
theorem acts_arg {H : Type} {enc : TypeId × Value → H} {W : World} {b base : Nat} {sp : Nat → Bool} {held : Bool} {v : Value} {d : DataW H} {p : List MemPlace} (hv : Value.okWide Tryd.prog W .any b 46 v) (h : DataW.Trod enc Tryd.prog W base sp held 46 v d p) :
    ∃ l : List Actx, ActRow W v l := by
  obtain ⟨a0, len0, cap0, rfl⟩ := okWide_slice Tryd.underlying46 hv
  obtain ⟨fuel, hf⟩ := h
  rcases Go.Deep.open_slice Tryd.underlying46 hf with ⟨hcs, _⟩ | ⟨ad, len', cap', m, n, D, Pl, hcs, hb, hl, hm, hmm, _, hx⟩
  · simp [Value.cells] at hcs
    obtain ⟨rfl, rfl, rfl⟩ := hcs
    exact ⟨[], ⟨none, 0, rfl, fun h => by simp at h⟩, fun x h => by simp at h⟩
  · simp [Value.cells] at hcs
    obtain ⟨rfl, rfl, rfl⟩ := hcs
    have hlm : len0 ≤ m := by rw [hmm]; split <;> omega
    have each : ∀ i, i < len0 → ∃ o : Actx, o.Ok W ∧ W.cell? ((ad.add (i * 4)).add 0) = some (.string o.kind) ∧ W.cell? ((ad.add (i * 4)).add 1) = some (.string o.s) ∧ W.cell? ((ad.add (i * 4)).add 2) = some (.int .i64 o.n) ∧ W.cell? ((ad.add (i * 4)).add 3) = some o.mv := by
      intro i hi
      obtain ⟨cs', h1, h2⟩ := hx i (by omega)
      rw [Tryd.acells56] at h1
      exact act_of_trod h1 h2
    have hin : Inhabited Actx := ⟨⟨⟨#[]⟩, ⟨#[]⟩, 0, .nilIface, []⟩⟩
    obtain ⟨f, hf⟩ := Go.Deep.choose_lt each
    have hll : ((List.range len0).map f).length = len0 := by simp
    refine ⟨(List.range len0).map f, ⟨some ad, cap0, by rw [hll], fun hp => ?_⟩, fun x hx => ?_⟩
    · obtain ⟨bl, off, spot⟩ := ad
      have h0 := (hf 0 (by omega)).2.1
      have hspot : spot = none := by simpa [Addr.add] using World.cell?_spot h0
      subst hspot
      refine ⟨bl, off, rfl, fun j hj => ?_⟩
      have hj' : j < len0 := by omega
      obtain ⟨_, k0, k1, k2, k3⟩ := hf j hj'
      have eg : ((List.range len0).map f)[j] = f j := by simp
      rw [eg]
      rw [Go.Deep.add_add, add_plain] at k0 k1 k2 k3
      exact ⟨by simpa using k0, by simpa [Nat.add_assoc] using k1, by simpa [Nat.add_assoc] using k2, by simpa [Nat.add_assoc] using k3⟩
    · obtain ⟨i, hi, rfl⟩ := List.mem_map.1 hx
      exact (hf i (List.mem_range.1 hi)).1
end Go.Proofs.YtaambclpkghddaaDoor
