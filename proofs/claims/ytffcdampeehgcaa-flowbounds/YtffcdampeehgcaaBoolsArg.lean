/-
  An argument of type []bool reads as a list.
-/
import Derived.Test.YtffcdampeehgcaaRowVal
import Derived.ChangeOld
import Derived.Carry
import Derived.Deep.Grids
namespace Go.Proofs.Ytffcdampeehgcaa
open Go.ChangeShapes Go.WideShapes Go.ChangeAt Go.RowKit

theorem row1_fn {α : Type} {f : α → Value} {W : World} {Z : Nat → α} {x : Addr} {len cap : Nat} (hcell : ∀ j, j < len → W.cell? (x.add j) = some (f (Z j))) : Row1 f W (.slice (some x) len cap) ((List.range len).map Z) := by
  have hlt : ((List.range len).map Z).length = len := by simp
  obtain ⟨b, off, spot⟩ := x
  refine ⟨some ⟨b, off, spot⟩, cap, by rw [hlt], fun hp => ?_⟩
  have hspot : spot = none := by simpa [Addr.add] using World.cell?_spot (hcell 0 (by omega))
  subst hspot
  refine ⟨b, off, rfl, fun j hj => ?_⟩
  have hj' : j < len := by omega
  have := hcell j hj'
  rw [add_plain] at this
  rw [this]
  simp
set_option maxRecDepth 100000 in
theorem bools_arg {H : Type} {enc : TypeId × Value → H} {W : World} {b base : Nat} {held : Bool} {v : Value} {d : DataW H} {p : List MemPlace} (hv : Value.okWide Try.prog W .any b 22 v) (h : DataW.Trod enc Try.prog W base (fun _ => true) held 22 v d p) :
    ∃ P : List Bool, Row1 boolV W v P ∧ ∀ n c, v = .slice none n c → c = 0 := by
  obtain ⟨a0, len0, cap0, rfl⟩ := okWide_slice Try.underlying22 hv
  obtain ⟨fuel, hf⟩ := h
  rcases Go.Deep.open_bools Try.underlying22 Try.underlying4 (by kernel_rfl) hf with ⟨hcs, _⟩ | ⟨x, l, c, B, hcs, _, hl, _, _, hcell⟩
  · simp [Value.cells] at hcs
    obtain ⟨rfl, rfl, rfl⟩ := hcs
    exact ⟨[], Row1.nil W, fun n c e => by cases e; rfl⟩
  · simp [Value.cells] at hcs
    obtain ⟨rfl, rfl, rfl⟩ := hcs
    exact ⟨_, row1_fn (Z := B) (fun j hj => hcell j (by omega)), fun n c e => by cases e⟩
end Go.Proofs.Ytffcdampeehgcaa
