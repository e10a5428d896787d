/-
  An argument of type []string reads as a list.
-/
import Derived.Test.YtogpjblikphpcaaGreatDoorRowVal
import Derived.ChangeOld
import Derived.Carry
import Derived.SliceStrings
namespace Go.Proofs.YtogpjblikphpcaaGreatDoor
open Go.ChangeShapes Go.WideShapes Go.ChangeAt Go.RowKit

theorem row1_mk {α : Type} {f : α → Value} {W : World} {zs : List α} {x : Addr} {len cap : Nat} (hlen : len ≤ zs.length) (hcell : ∀ j (h : j < zs.length), W.cell? (x.add j) = some (f zs[j])) : Row1 f W (.slice (some x) len cap) (zs.take len) := by
  have hlt : (zs.take len).length = len := by simp; omega
  obtain ⟨b, off, spot⟩ := x
  refine ⟨some ⟨b, off, spot⟩, cap, by rw [hlt], fun hp => ?_⟩
  have hz : 0 < zs.length := by omega
  have hspot : spot = none := by simpa [Addr.add] using World.cell?_spot (hcell 0 hz)
  subst hspot
  refine ⟨b, off, rfl, fun j hj => ?_⟩
  have hj' : j < zs.length := by omega
  have := hcell j hj'
  rw [add_plain] at this
  rw [this]
  simp
set_option maxRecDepth 100000 in
theorem strs_arg {H : Type} {enc : TypeId × Value → H} {W : World} {b base : Nat} {sp : Nat → Bool} {held : Bool} {v : Value} {d : DataW H} {p : List MemPlace} (hv : Value.okWide Tryz.prog W .any b 22 v) (h : DataW.Trod enc Tryz.prog W base sp held 22 v d p) :
    ∃ T : List ByteArray, Row1 strV W v T := by
  obtain ⟨a0, len0, cap0, rfl⟩ := okWide_slice Tryz.underlying22 hv
  obtain ⟨fuel, hf⟩ := h
  rcases open_strings Tryz.underlying22 Tryz.underlying9 (by kernel_rfl) hf with ⟨hcs, _⟩ | ⟨x, l, c, zs, hcs, _, hl, hm, hz, _, hcell, hwz⟩
  · simp [Value.cells] at hcs
    obtain ⟨rfl, rfl, rfl⟩ := hcs
    exact ⟨[], Row1.nil W⟩
  · simp [Value.cells] at hcs
    obtain ⟨rfl, rfl, rfl⟩ := hcs
    have hz' : len0 ≤ zs.length := by rw [hz]; split <;> omega
    exact ⟨zs.take len0, row1_mk hz' (fun j hj => by rw [hcell j hj]; simp [strV, List.getD, hj])⟩
set_option maxRecDepth 100000 in
theorem strs_cap {H : Type} {enc : TypeId × Value → H} {W : World} {base : Nat} {sp : Nat → Bool} {held : Bool} {v : Value} {d : DataW H} {p : List MemPlace} (h : DataW.Trod enc Tryz.prog W base sp held 22 v d p) :
    ∀ a n c, v = .slice a n c → n ≤ c := by
  rintro a0 len0 cap0 rfl
  obtain ⟨fuel, hf⟩ := h
  rcases open_strings Tryz.underlying22 Tryz.underlying9 (by kernel_rfl) hf with ⟨hcs, _⟩ | ⟨x, l, c, zs, hcs, _, hl, hm, hz, _, hcell, hwz⟩
  · simp [Value.cells] at hcs
    obtain ⟨rfl, rfl, rfl⟩ := hcs
    exact Nat.le_refl _
  · simp [Value.cells] at hcs
    obtain ⟨rfl, rfl, rfl⟩ := hcs
    exact hl
end Go.Proofs.YtogpjblikphpcaaGreatDoor
