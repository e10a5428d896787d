/-
  Plain: a text's pieces at one byte, at most so many, against all its parts. No program.
-/
import Derived.Test.YtogpjblikphpcaaGreatDoorCutC
import Derived.Lib.Split
import Derived.Lib.IndexBytes
namespace Go.Gate
open Go.Proofs.YtogpjblikphpcaaGreatDoor (str strL str_len lenL ext_of_list extractL)

theorem cutC_pos (c : UInt8) (l : List UInt8) : 0 < (cutC c l).length := by
  cases h : brk c l with
  | none => rw [cutC_none h]; simp
  | some p =>
    obtain ⟨x, y⟩ := p
    rw [cutC_some h]; simp
theorem index_brk (c : UInt8) (s : ByteArray) : (brk c s.data.toList = none ∧ Lib.indexB s ⟨#[c]⟩ = -1) ∨ ∃ x y, brk c s.data.toList = some (x, y) ∧ Lib.indexB s ⟨#[c]⟩ = (x.length : Nat) := by
  have e : Lib.indexB s ⟨#[c]⟩ = Lib.indexByte s.data.toList c := Lib.index_one _ _
  rw [e]
  cases h : brk c s.data.toList with
  | none => exact .inl ⟨rfl, (brk_none h).2⟩
  | some p => exact .inr ⟨p.1, p.2, rfl, (brk_some h).2.2⟩
theorem splitB_step {c : UInt8} {k : Nat} {s : ByteArray} {x y : List UInt8} (h : brk c s.data.toList = some (x, y)) (hi : Lib.indexB s ⟨#[c]⟩ = (x.length : Nat)) : Lib.splitB ⟨#[c]⟩ 0 (k + 1) s = str x :: Lib.splitB ⟨#[c]⟩ 0 k (str y) := by
  obtain ⟨h1, _, _⟩ := brk_some h
  rw [Lib.splitB_hit _ _ _ _ _ hi]
  congr 1
  · refine ext_of_list ?_
    rw [extractL, strL, h1]
    simp
  · congr 1
    refine ext_of_list ?_
    rw [extractL, strL, ← lenL s, h1, show (ByteArray.mk #[c]).size = 1 from rfl]
    simp only [List.length_append, List.length_cons]
    rw [List.drop_append, List.drop_of_length_le (by omega), List.nil_append, show x.length + 1 - x.length = 1 by omega, List.drop_succ_cons, List.drop_zero, List.take_of_length_le (by omega)]
/-- Where there are no more parts than that: all of them. -/
theorem splitB_all' (c : UInt8) : ∀ (k : Nat) (s : ByteArray), (cutC c s.data.toList).length ≤ k + 1 → Lib.splitB ⟨#[c]⟩ 0 k s = (cutC c s.data.toList).map str
  | 0, s, h => by
    rcases index_brk c s with ⟨h1, h2⟩ | ⟨x, y, h1, h2⟩
    · rw [cutC_none h1, Lib.splitB_zero]
      simp only [List.map_cons, List.map_nil, List.cons.injEq, and_true]
      exact (ext_of_list (strL _)).symm
    · rw [cutC_some h1] at h
      have := cutC_pos c y
      simp only [List.length_cons] at h
      omega
  | k + 1, s, h => by
    rcases index_brk c s with ⟨h1, h2⟩ | ⟨x, y, h1, h2⟩
    · rw [cutC_none h1, Lib.splitB_miss _ _ _ _ h2]
      simp only [List.map_cons, List.map_nil, List.cons.injEq, and_true]
      exact (ext_of_list (strL _)).symm
    · rw [splitB_step h1 h2, cutC_some h1]
      rw [cutC_some h1] at h
      simp only [List.length_cons] at h
      rw [splitB_all' c k (str y) (by rw [strL]; omega), strL]
      rfl
/-- Where there are more: as many as that. -/
theorem splitB_many (c : UInt8) : ∀ (k : Nat) (s : ByteArray), k + 1 < (cutC c s.data.toList).length → (Lib.splitB ⟨#[c]⟩ 0 k s).length = k + 1
  | 0, s, _ => rfl
  | k + 1, s, h => by
    rcases index_brk c s with ⟨h1, h2⟩ | ⟨x, y, h1, h2⟩
    · rw [cutC_none h1] at h; simp at h
    · rw [splitB_step h1 h2, List.length_cons]
      rw [cutC_some h1] at h
      simp only [List.length_cons] at h
      rw [splitB_many c k (str y) (by rw [strL]; omega)]
/-- Three pieces of at most four: just where there are three parts. -/
theorem split_three {c : UInt8} {s : ByteArray} {k : Nat} (hk : k = min 4 (s.size + 1)) :
    (∃ x y z, cutC c s.data.toList = [x, y, z] ∧ Lib.splitB ⟨#[c]⟩ 0 (k - 1) s = [str x, str y, str z] ∧ 3 ≤ k) ∨ ((cutC c s.data.toList).length ≠ 3 ∧ (Lib.splitB ⟨#[c]⟩ 0 (k - 1) s).length ≠ 3) := by
  have hl := cutC_len c s.data.toList
  rw [lenL] at hl
  by_cases h : (cutC c s.data.toList).length ≤ k - 1 + 1
  · have e := splitB_all' c _ _ h
    by_cases h3 : (cutC c s.data.toList).length = 3
    · left
      match hc : cutC c s.data.toList, h3 with
      | [x, y, z], _ => exact ⟨x, y, z, rfl, by rw [e, hc]; rfl, by omega⟩
    · right
      exact ⟨h3, by rw [e, List.length_map]; exact h3⟩
  · right
    have e := splitB_many c (k - 1) s (by omega)
    exact ⟨by omega, by omega⟩
end Go.Gate
