/-
  Two texts of the same bytes, of others. No function of the program.
-/
import Derived.Test.YtogpjblikphpcaaGreatDoorBase
namespace Go.Proofs.YtogpjblikphpcaaGreatDoor
theorem same_bytes {a b : ByteArray} (h : a = b) : (a.toList == b.toList) = true := by rw [h]; simp
theorem other_bytes {a b : ByteArray} (h : a ≠ b) : (a.toList == b.toList) = false := by
  rw [beq_eq_false_iff_ne]
  exact fun e => h (bytes_ext e)
theorem kind_is {x : ByteArray} {l : List UInt8} (h : x = str l) : (x.toList == l) = true := by
  subst h
  rw [ByteArray.toList_eq, strL]
  simp
theorem kind_not {x : ByteArray} {l : List UInt8} (h : x ≠ str l) : (x.toList == l) = false := by
  rw [beq_eq_false_iff_ne]
  intro e
  apply h
  apply bytes_ext
  rw [e, ByteArray.toList_eq, strL]
end Go.Proofs.YtogpjblikphpcaaGreatDoor
