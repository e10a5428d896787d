/-
  A row that is laid anew turns its own block alone. No function of the program.
-/
import Derived.Test.YtogpjblikphpcaaGreatDoorBase
import Derived.Sort.Grow
namespace Go.Proofs.YtogpjblikphpcaaGreatDoor
open Go.RowKit

theorem block_putRow {α : Type} [Inhabited α] (enc : α → Value) (w : World) (blk off : Nat) (d : Array α) (k : Nat) (h : k ≠ blk) : (Sort.putRow enc w blk off d).heap[k]? = w.heap[k]? := by
  simp only [Sort.putRow, Sort.mapBlock, Array.getElem?_modify]
  rw [if_neg (fun e => h e.symm)]
theorem below_putRow {α : Type} [Inhabited α] (enc : α → Value) {B : Nat} {w W : World} {blk : Nat} (off : Nat) (d : Array α) (h : Below B w W) (hb : B ≤ blk) : Below B w (Sort.putRow enc W blk off d) :=
  ⟨h.os, h.tape, h.output, by simpa [Sort.putRow, Sort.mapBlock] using h.size, fun k hk => (block_putRow enc W blk off d k (by omega)).trans (h.block k hk)⟩
theorem below_grow' {B : Nat} {w W : World} (os : Array Obj) (h : Below B w W) (hB : B ≤ W.heap.size) : Below B w (Sort.grow W os) :=
  ⟨h.os, h.tape, h.output, by simpa using Nat.le_trans h.size (Nat.le_add_right _ _), fun k hk => by
    show (W.heap ++ os)[k]? = _
    rw [Array.getElem?_append_left (by omega)]
    exact h.block k hk⟩
end Go.Proofs.YtogpjblikphpcaaGreatDoor
