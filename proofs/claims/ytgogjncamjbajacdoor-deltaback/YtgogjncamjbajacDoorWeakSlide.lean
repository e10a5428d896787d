/-
  The halves of a sum that rolls, slid by one.
-/
import Derived.Test.YtgogjncamjbajacDoorHalvesRoll
import Derived.Test.YtgogjncamjbajacDoorWeakSumOf
import Derived.Deep.RegionWith
namespace Go.Proofs.YtgogjncamjbajacDoor
open Go.RowKit

/-- The halves, rolled. -/
theorem rollA_eq (x y : UInt8) (r : List UInt8) : rollA (hA (x :: r)) x.toNat y.toNat = hA (r ++ [y]) := by
  have ra := Go.Weak.roll_a x y r
  unfold rollA hA; omega
theorem rollB_eq (x y : UInt8) (r : List UInt8) : rollB (hA (x :: r)) (hB (x :: r)) ((r.length + 1 : Nat) : Int) x.toNat y.toNat = hB (r ++ [y]) := by
  have rb := Go.Weak.roll_b x y r
  have e1 : ((hA (x :: r) - x.toNat) % 65536 + y.toNat) % 65536 = hA (r ++ [y]) := rollA_eq x y r
  unfold rollB
  rw [e1]
  unfold hA hB
  generalize ((r.length + 1 : Nat) : Int) * (x.toNat : Int) = m at *
  omega

/-- The part of n bytes from i on, slid by one: its halves. -/
theorem slideAB (l : List UInt8) (i n : Nat) (hn : 0 < n) (h : i + n < l.length) :
    rollA (hA (Go.Weak.part l i n)) (l[i].toNat : Int) (l[i + n].toNat : Int) = hA (Go.Weak.part l (i + 1) n) ∧
    rollB (hA (Go.Weak.part l i n)) (hB (Go.Weak.part l i n)) (n : Int) (l[i].toNat : Int) (l[i + n].toNat : Int) = hB (Go.Weak.part l (i + 1) n) := by
  obtain ⟨r, e1, e2, hr⟩ := Go.Weak.part_slide l i n hn h
  rw [e1, e2]
  have hc : (n : Int) = ((r.length + 1 : Nat) : Int) := by rw [hr]
  exact ⟨rollA_eq _ _ _, by rw [hc]; exact rollB_eq _ _ _⟩
end Go.Proofs.YtgogjncamjbajacDoor
