/-
  Plain: a text's parts between bytes of one kind. No program.
-/
import Derived.Test.YtogpjblikphpcaaGreatDoorGateRead
namespace Go.Gate

/-- A text's parts between such bytes. -/
def cutC (c : UInt8) : List UInt8 → List (List UInt8)
  | [] => [[]]
  | b :: r => if b = c then [] :: cutC c r else match cutC c r with | x :: t => (b :: x) :: t | [] => [[b]]
theorem cutC_some {c : UInt8} : ∀ {s x y : List UInt8}, brk c s = some (x, y) → cutC c s = x :: cutC c y
  | [], _, _, h => by cases h
  | b :: r, x, y, h => by
    rw [brk] at h
    rw [cutC]
    split at h
    · rename_i e
      cases h
      rw [if_pos e]
    · rename_i e
      cases hr : brk c r with
      | none => rw [hr] at h; cases h
      | some p =>
        obtain ⟨x', y'⟩ := p
        rw [hr] at h
        cases h
        rw [if_neg e, cutC_some hr]
theorem cutC_none {c : UInt8} : ∀ {s : List UInt8}, brk c s = none → cutC c s = [s]
  | [], _ => rfl
  | b :: r, h => by
    rw [brk] at h
    split at h
    · cases h
    · rename_i e
      have hr : brk c r = none := by
        cases hr : brk c r with
        | none => rfl
        | some p => rw [hr] at h; cases h
      rw [cutC, if_neg e, cutC_none hr]
theorem brk_not {c : UInt8} : ∀ {l : List UInt8}, c ∉ l → brk c l = none
  | [], _ => rfl
  | b :: r, h => by
    simp only [List.mem_cons, not_or] at h
    rw [brk, if_neg (fun e => h.1 e.symm), brk_not h.2]
    rfl
theorem cutC_part {c : UInt8} {x : List UInt8} (h : c ∉ x) (y : List UInt8) : cutC c (x ++ c :: y) = x :: cutC c y := cutC_some (brk_of h)
theorem cutC_last {c : UInt8} {x : List UInt8} (h : c ∉ x) : cutC c x = [x] := cutC_none (brk_not h)
theorem cutC_len (c : UInt8) : ∀ s : List UInt8, (cutC c s).length ≤ s.length + 1
  | [] => by simp [cutC]
  | b :: r => by
    have := cutC_len c r
    rw [cutC]
    split
    · simp only [List.length_cons]; omega
    · split
      · rename_i x t e
        rw [e] at this
        simp only [List.length_cons] at this ⊢
        omega
      · simp
theorem cutC_parts (c : UInt8) : ∀ s x : List UInt8, x ∈ cutC c s → x.length ≤ s.length
  | [], x, h => by simp [cutC] at h; subst h; simp
  | b :: r, x, h => by
    rw [cutC] at h
    split at h
    · rcases List.mem_cons.1 h with h | h
      · subst h; simp
      · have := cutC_parts c r x h
        simp only [List.length_cons]; omega
    · split at h
      · rename_i y t e
        rcases List.mem_cons.1 h with h | h
        · subst h
          have := cutC_parts c r y (by rw [e]; exact List.mem_cons_self ..)
          simp only [List.length_cons]; omega
        · have := cutC_parts c r x (by rw [e]; exact List.mem_cons_of_mem _ h)
          simp only [List.length_cons]; omega
      · simp at h; subst h; simp
theorem cutC_step {c : UInt8} {S : List UInt8} {outs : List (List UInt8)} {f i : Nat} (hi : i < S.length) (hf : f ≤ i) (h10 : c ∉ (S.take i).drop f) (h : outs ++ cutC c (S.drop f) = cutC c S) (hb : S[i] = c) :
    outs ++ [(S.take i).drop f] ++ cutC c (S.drop (i + 1)) = cutC c S := by
  have e : S.drop f = (S.take i).drop f ++ c :: S.drop (i + 1) := by
    have h1 : S = S.take i ++ S[i] :: S.drop (i + 1) := by rw [← List.drop_eq_getElem_cons hi, List.take_append_drop]
    conv => lhs; rw [h1]
    rw [List.drop_append, hb, List.length_take, Nat.min_eq_left (by omega), show f - i = 0 by omega, List.drop_zero]
  rw [← h, e, cutC_some (brk_of h10), List.append_assoc]
  rfl
theorem cutC_grow {c : UInt8} {S : List UInt8} {f i : Nat} (hi : i < S.length) (hf : f ≤ i) (h10 : c ∉ (S.take i).drop f) (hb : S[i] ≠ c) : c ∉ (S.take (i + 1)).drop f := by
  rw [List.take_succ_eq_append_getElem hi, List.drop_append, List.length_take, Nat.min_eq_left (by omega), show f - i = 0 by omega, List.drop_zero]
  simp only [List.mem_append, List.mem_singleton, not_or]
  exact ⟨h10, fun e => hb e.symm⟩
theorem cutC_end {c : UInt8} {S : List UInt8} {outs : List (List UInt8)} {f : Nat} (h10 : c ∉ (S.take S.length).drop f) (h : outs ++ cutC c (S.drop f) = cutC c S) : outs ++ [S.drop f] = cutC c S := by
  rw [List.take_length] at h10
  rw [← h, cutC_none (brk_not h10)]
end Go.Gate
