/-
  An argument of type []api.Block reads as blocks.
-/
import Derived.Test.YtgcpljgdeoeppabDoorRowIn
import Derived.Deep.Slices
import Derived.Deep.Strs
namespace Go.Proofs.YtgcpljgdeoeppabDoor
open Go.ChangeShapes Go.WideShapes Go.ChangeAt Go.RowKit
open Go.Sign (Blk)

theorem Tryd.cells60 : Tryd.prog.cellsOf 60 = 3 := by kernel_rfl
theorem Tryd.cells3 : Tryd.prog.cellsOf 3 = 1 := by kernel_rfl
theorem Tryd.cells22 : Tryd.prog.cellsOf 22 = 1 := by kernel_rfl
theorem ustrong_bounds {a : Int} (h : (Lit.int .u32 a).wf = true) : 0 ≤ a ∧ a < 4294967296 := by
  simp only [Lit.wf, Bool.and_eq_true, decide_eq_true_eq] at h
  have h1 : IntKind.u32.min = 0 := rfl
  have h2 : IntKind.u32.max = 4294967295 := rfl
  omega

theorem list3 {α : Type} {l : List α} (h : l.length = 3) : ∃ a b c, l = [a, b, c] := by
  match l, h with
  | [a, b, c], _ => exact ⟨a, b, c, rfl⟩

set_option maxRecDepth 100000 in
/-- One element. -/
theorem blk_of_trod {H : Type} {enc : TypeId × Value → H} {W : World} {base : Nat} {spare : Nat → Bool} {held : Bool} {n : Nat} {ad : Addr} {cs : List Value} {x : DataW H × List MemPlace}
    (h1 : W.cells? base ad 3 = some cs) (h2 : DataW.trod enc Tryd.prog W base spare held n 60 cs = some x) :
    ∃ b : Blk, b.strong < 4294967296 ∧ W.cell? (ad.add 0) = some (.int .i64 b.n) ∧ W.cell? (ad.add 1) = some (.int .i64 b.weak) ∧ W.cell? (ad.add 2) = some (.int .u32 b.strong) := by
  obtain ⟨_, hlen, hcell⟩ := World.cells?_some h1
  obtain ⟨v0, v1, v2, rfl⟩ := list3 hlen
  obtain ⟨y0, y1, y2, k, _, _, g0, g1, g2⟩ := Go.Deep.trod_struct3 Tryd.underlying60 h2
  simp only [Tryd.cells3, Tryd.cells22] at g0 g1 g2
  obtain ⟨z0, e0, _, _⟩ := DataW.trod_int Tryd.underlying3 g0
  obtain ⟨z1, e1, _, _⟩ := DataW.trod_int Tryd.underlying3 g1
  obtain ⟨z2, e2, _, hw⟩ := DataW.trod_int Tryd.underlying22 g2
  simp at e0 e1 e2
  subst e0 e1 e2
  have hb := ustrong_bounds hw
  have c0 := hcell 0 (by omega)
  have c1 := hcell 1 (by omega)
  have c2 := hcell 2 (by omega)
  refine ⟨⟨z0, z1, z2.toNat⟩, by simp only; omega, by simpa using c0, by simpa using c1, ?_⟩
  have e : ((z2.toNat : Nat) : Int) = z2 := by omega
  rw [e]
  simpa using c2

theorem row_of_trod {H : Type} {enc : TypeId × Value → H} {W : World} {base : Nat} {spare : Nat → Bool} {held : Bool} {fuel : Nat} {a : Option Addr} {len cap : Nat} {x : DataW H × List MemPlace}
    (h : DataW.trod enc Tryd.prog W base spare held fuel 35 [.slice a len cap] = some x) : ∃ l : List Blk, l.length = len ∧ RowIn W (.slice a l.length cap) l ∧ ∀ b ∈ l, b.strong < 4294967296 := by
  rcases Go.Deep.open_slice Tryd.underlying35 h with ⟨hcs, _⟩ | ⟨ad, len', cap', m, n, D, Pl, hcs, hb, hl, hm, hmm, rfl, hx⟩
  · simp at hcs
    obtain ⟨rfl, rfl, rfl⟩ := hcs
    exact ⟨[], rfl, ⟨none, 0, rfl, fun h => by simp at h⟩, fun b hb => by cases hb⟩
  · simp at hcs
    obtain ⟨rfl, rfl, rfl⟩ := hcs
    have hlm : len ≤ m := by rw [hmm]; split <;> omega
    have each : ∀ i, i < len → ∃ b : Blk, b.strong < 4294967296 ∧ W.cell? ((ad.add (i * 3)).add 0) = some (.int .i64 b.n) ∧ W.cell? ((ad.add (i * 3)).add 1) = some (.int .i64 b.weak) ∧ W.cell? ((ad.add (i * 3)).add 2) = some (.int .u32 b.strong) := by
      intro i hi
      obtain ⟨cs', h1, h2⟩ := hx i (by omega)
      rw [Tryd.cells60] at h1
      exact blk_of_trod h1 h2
    obtain ⟨f, hf⟩ := Go.Deep.choose_lt each
    have hll : ((List.range len).map f).length = len := by simp
    refine ⟨(List.range len).map f, hll, ⟨some ad, cap, rfl, fun hp => ?_⟩, fun b hb => ?_⟩
    · obtain ⟨bl, off, spot⟩ := ad
      have h0 := (hf 0 (by omega)).2.1
      have hspot : spot = none := by simpa [Addr.add] using World.cell?_spot h0
      subst hspot
      refine ⟨bl, off, rfl, fun j hj => ?_⟩
      have hj' : j < len := by omega
      obtain ⟨_, k0, k1, k2⟩ := hf j hj'
      have eg : ((List.range len).map f)[j] = f j := by simp
      rw [eg]
      rw [Go.Deep.add_add, add_plain] at k0 k1 k2
      exact ⟨by simpa using k0, by simpa [Nat.add_assoc] using k1, by simpa [Nat.add_assoc] using k2⟩
    · simp only [List.mem_map, List.mem_range] at hb
      obtain ⟨j, hj, rfl⟩ := hb
      exact (hf j hj).1
end Go.Proofs.YtgcpljgdeoeppabDoor
