/-
  Plain mathematics of how package tape finds one record: by what stands ahead of a colon, and by holding the record anew against the bytes.
-/
import Derived.Test.YtledipmimfphdaaDoorTapeMath
import Derived.Test.YtledipmimfphdaaDoorLibDig
import Derived.Lib.AtoiTie
namespace Go.Tape
open Go.Digits (digits)
open Go.Gate (brk brk_of)

/-- What stands ahead of the first colon, and behind it. -/
def aheadC (b : List UInt8) : List UInt8 := match brk 58 b with
  | some p => p.1
  | none => b
def behindC (b : List UInt8) : List UInt8 := match brk 58 b with
  | some p => p.2
  | none => []
theorem prefix_some {b x : List UInt8} (h : Lib.hasPrefix b x = true) : ∃ r, b = x ++ r := by
  unfold Lib.hasPrefix at h
  obtain ⟨r, hr⟩ := List.isPrefixOf_iff_prefix.1 h
  exact ⟨r, hr.symm⟩
theorem one_none {b s : List UInt8} (h : oneR b = none) (hs : s.length ≤ 20000) : Lib.hasPrefix b (recB s) = false := by
  cases hp : Lib.hasPrefix b (recB s) with
  | false => rfl
  | true =>
    obtain ⟨r, rfl⟩ := prefix_some hp
    rw [oneR_rec hs] at h
    cases h
theorem one_some {b s r : List UInt8} (h : oneR b = some (s, r)) : aheadC b = digits s.length ∧ behindC b = s ++ ([10, 46] ++ r) ∧ Lib.hasPrefix b (recB s) = true ∧ s.length ≤ 20000 := by
  obtain ⟨rfl, hs⟩ := oneR_some h
  have e : recB s ++ r = digits s.length ++ 58 :: (s ++ ([10, 46] ++ r)) := by simp [recB]
  refine ⟨?_, ?_, ?_, hs⟩
  · rw [aheadC, e, brk_of (out_58 _)]
  · rw [behindC, e, brk_of (out_58 _)]
  · unfold Lib.hasPrefix
    exact List.isPrefixOf_iff_prefix.2 ⟨r, rfl⟩
theorem atoi_len {n : Nat} (h : n ≤ 20000) : Lib.atoiAll (digits n) = .ok (n : Int) := by
  rw [Lib.atoiAll_short _ (by have := digits5 h; omega), Go.Digits.atoi_digits]
  rfl
theorem behind_le (b : List UInt8) : (behindC b).length ≤ b.length := by
  unfold behindC
  cases h : brk 58 b with
  | none => exact Nat.zero_le _
  | some p =>
    obtain ⟨x, y⟩ := p
    have := (Go.Gate.brk_some h).1
    simp only [this, List.length_append, List.length_cons]
    omega
theorem ahead_le (b : List UInt8) : (aheadC b).length ≤ b.length := by
  unfold aheadC
  cases h : brk 58 b with
  | none => exact Nat.le_refl _
  | some p =>
    obtain ⟨x, y⟩ := p
    have := (Go.Gate.brk_some h).1
    simp only [this, List.length_append, List.length_cons]
    omega
end Go.Tape
