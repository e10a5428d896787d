/-
  What the sums that roll come to: rolled, slid, joined; and the closed fact of three bytes.
-/
import Derived.Test.YtbfgjehkjmmceabWeakSum
namespace Go.Proofs.Ytbfgjehkjmmceab
open Go.RowKit

def str (l : List UInt8) : ByteArray := ⟨l.toArray⟩
theorem strL (l : List UInt8) : (str l).data.toList = l := by simp [str]
theorem str_len (l : List UInt8) : (str l).size = l.length := by rw [← lenL, strL]

theorem weighed_ok (w : World) : Calls Try.prog 4 #[] w fun r w' => r = .returned (.bool true) ∧ Below w.heap.size w w' := by
  have e : wk (ByteArray.mk #[97, 98, 99]).data.toList = 38404390 := by rw [wk_weak]; decide
  have H := hide (fun W => sum_ok ⟨#[97, 98, 99]⟩ W (by decide))
  rw [e] at H
  clear e
  go_enter Try.func4, Try.ntmps4
  go_wp2_with fail
  refine (H.out _).mono ?_
  rintro e w1 ⟨rfl, hb1⟩
  have Hb1 := hide hb1
  clear hb1
  go_wp2_with fail
  go_ret
  exact ⟨rfl, Hb1.out⟩

/-- The halves, rolled. -/
theorem rollA_eq (x y : UInt8) (r : List UInt8) : rollA (hA (x :: r)) x.toNat y.toNat = hA (r ++ [y]) := by
  have ra := Go.Weak.roll_a x y r
  unfold rollA hA; omega
theorem rollB_eq (x y : UInt8) (r : List UInt8) : rollB (hA (x :: r)) (hB (x :: r)) ((r.length + 1 : Nat) : Int) x.toNat y.toNat = hB (r ++ [y]) := by
  have rb := Go.Weak.roll_b x y r
  have e1 : ((hA (x :: r) - x.toNat) % 65536 + y.toNat) % 65536 = hA (r ++ [y]) := rollA_eq x y r
  unfold rollB
  rw [e1]
  unfold hA hB
  generalize ((r.length + 1 : Nat) : Int) * (x.toNat : Int) = m at *
  omega

/-- What is rolled is what is summed anew. -/
theorem roll_wk (x y : UInt8) (r : List UInt8) (h : r.length + 1 ≤ 4000) : rollOut (wk (x :: r)) ((r.length + 1 : Nat) : Int) x.toNat y.toNat = wk (r ++ [y]) := by
  have hb := wk_bounds (x :: r)
  have ea : wk (x :: r) % 65536 = hA (x :: r) := by
    have := hA_nonneg (x :: r); have := hA_lt (x :: r); unfold wk; omega
  have eb : wk (x :: r) / 65536 = hB (x :: r) := by
    have := hA_nonneg (x :: r); have := hA_lt (x :: r); unfold wk; omega
  rw [rollOut, if_pos ⟨hb, by omega, by omega⟩, ea, eb, rollA_eq, rollB_eq, wk]

/-- The part of n bytes from i on, slid by one. -/
theorem slide (l : List UInt8) (i n : Nat) (hn : 0 < n) (h : i + n < l.length) :
    rollA (hA (Go.Weak.part l i n)) (l[i].toNat : Int) (l[i + n].toNat : Int) = hA (Go.Weak.part l (i + 1) n) ∧
    rollB (hA (Go.Weak.part l i n)) (hB (Go.Weak.part l i n)) (n : Int) (l[i].toNat : Int) (l[i + n].toNat : Int) = hB (Go.Weak.part l (i + 1) n) ∧
    (n ≤ 4000 → rollOut (wk (Go.Weak.part l i n)) (n : Int) (l[i].toNat : Int) (l[i + n].toNat : Int) = wk (Go.Weak.part l (i + 1) n)) := by
  obtain ⟨r, e1, e2, hr⟩ := Go.Weak.part_slide l i n hn h
  rw [e1, e2]
  have hc : (n : Int) = ((r.length + 1 : Nat) : Int) := by rw [hr]
  exact ⟨rollA_eq _ _ _, by rw [hc]; exact rollB_eq _ _ _, fun h4 => by rw [hc]; exact roll_wk _ _ _ (by omega)⟩

end Go.Proofs.Ytbfgjehkjmmceab
