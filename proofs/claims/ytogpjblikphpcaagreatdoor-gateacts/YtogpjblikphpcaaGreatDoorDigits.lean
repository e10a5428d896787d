/-
  Plain mathematics of a number's digits: written without needless zeros, read back. No program, no walk.
-/
import Derived.Test.YtogpjblikphpcaaGreatDoorBase
namespace Go.Digits

/-- The digits of a number, the highest first. -/
def digits (n : Nat) : List UInt8 := if n < 10 then [UInt8.ofNat (48 + n)] else digits (n / 10) ++ [UInt8.ofNat (48 + n % 10)]
  termination_by n
def isDigit (b : UInt8) : Bool := decide (48 ≤ b.toNat ∧ b.toNat ≤ 57)
/-- What digits come to. -/
def value (acc : Nat) (l : List UInt8) : Nat := l.foldl (fun n b => 10 * n + (b.toNat - 48)) acc
/-- A number of so many digits at most, without needless zeros. -/
def numberOf (s : List UInt8) (most : Nat) : Option Nat :=
  if s = [] ∨ most < s.length ∨ (1 < s.length ∧ s.head? = some 48) ∨ s.all isDigit = false then none else some (value 0 s)

theorem digit_nat (k : Nat) (h : k < 10) : (UInt8.ofNat (48 + k)).toNat = 48 + k := by rw [UInt8.toNat_ofNat']; omega
theorem digits_small {n : Nat} (h : n < 10) : digits n = [UInt8.ofNat (48 + n)] := by rw [digits, if_pos h]
theorem digits_big {n : Nat} (h : 10 ≤ n) : digits n = digits (n / 10) ++ [UInt8.ofNat (48 + n % 10)] := by rw [digits, if_neg (by omega)]
theorem value_snoc (acc : Nat) (l : List UInt8) (b : UInt8) : value acc (l ++ [b]) = 10 * value acc l + (b.toNat - 48) := by simp [value]
theorem digits_ne (n : Nat) : digits n ≠ [] := by
  rw [digits]
  split <;> simp
theorem digits_value (n : Nat) : value 0 (digits n) = n := by
  induction n using Nat.strongRecOn with
  | _ n ih =>
    by_cases h : n < 10
    · rw [digits_small h]
      simp only [value, List.foldl_cons, List.foldl_nil]
      rw [digit_nat n h]
      omega
    · rw [digits_big (by omega), value_snoc, ih (n / 10) (by omega), digit_nat _ (Nat.mod_lt _ (by decide))]
      omega
theorem digits_all (n : Nat) : (digits n).all isDigit = true := by
  induction n using Nat.strongRecOn with
  | _ n ih =>
    by_cases h : n < 10
    · rw [digits_small h]
      simp only [List.all_cons, List.all_nil, Bool.and_true, isDigit, digit_nat n h, decide_eq_true_eq]
      omega
    · have hm : n % 10 < 10 := Nat.mod_lt _ (by decide)
      rw [digits_big (by omega), List.all_append, ih (n / 10) (by omega)]
      simp only [List.all_cons, List.all_nil, Bool.and_true, Bool.true_and, isDigit, digit_nat _ hm, decide_eq_true_eq]
      omega
theorem digits_head (n : Nat) (h : 0 < n) : (digits n).head? ≠ some 48 := by
  induction n using Nat.strongRecOn with
  | _ n ih =>
    by_cases h9 : n < 10
    · rw [digits_small h9]
      simp only [List.head?_cons, ne_eq, Option.some.injEq]
      intro e
      have := congrArg UInt8.toNat e
      rw [digit_nat n h9] at this
      have h48 : (48 : UInt8).toNat = 48 := rfl
      omega
    · rw [digits_big (by omega), List.head?_append]
      have := ih (n / 10) (by omega) (by omega)
      cases e : (digits (n / 10)).head? with
      | none => exact absurd (List.head?_eq_none_iff.1 e) (digits_ne _)
      | some x => rw [e] at this; simpa using this
theorem digits_length_pos (n : Nat) : 1 ≤ (digits n).length := by
  rcases h : digits n with _ | ⟨a, l⟩
  · exact absurd h (digits_ne n)
  · simp
theorem digits_length (n k : Nat) (h : n < 10 ^ (k + 1)) : (digits n).length ≤ k + 1 := by
  induction k generalizing n with
  | zero => rw [digits_small (by simpa using h)]; simp
  | succ k ih =>
    by_cases h9 : n < 10
    · rw [digits_small h9]; simp
    · rw [digits_big (by omega), List.length_append]
      have := ih (n / 10) (by rw [Nat.pow_succ] at h; omega)
      simp only [List.length_cons, List.length_nil]
      omega
/-- What was written is read. -/
theorem number_digits (n most : Nat) (h : (digits n).length ≤ most) : numberOf (digits n) most = some n := by
  unfold numberOf
  rw [if_neg, digits_value]
  rintro (k | k | ⟨k1, k2⟩ | k)
  · exact digits_ne n k
  · omega
  · by_cases h0 : 0 < n
    · exact digits_head n h0 k2
    · obtain rfl : n = 0 := by omega
      rw [digits_small (by decide)] at k1
      simp at k1
  · rw [digits_all] at k; cases k
theorem value_le (l : List UInt8) (hl : l.all isDigit = true) (h0 : 1 < l.length → l.head? ≠ some 48) (hn : l ≠ []) : digits (value 0 l) = l := by
  induction hk : l.length generalizing l with
  | zero => exact absurd (List.length_eq_zero_iff.1 hk) hn
  | succ k ih0 =>
    obtain ⟨l', b, rfl⟩ : ∃ l' b, l = l' ++ [b] := ⟨l.dropLast, l.getLast hn, (List.dropLast_concat_getLast hn).symm⟩
    have ih : l'.all isDigit = true → (1 < l'.length → l'.head? ≠ some 48) → l' ≠ [] → digits (value 0 l') = l' := fun a b c => ih0 l' a b c (by simpa using hk)
    clear ih0 hk
    generalize l' = l at *
    rw [List.all_append] at hl
    simp only [List.all_cons, List.all_nil, Bool.and_true, Bool.and_eq_true, isDigit, decide_eq_true_eq] at hl
    obtain ⟨h1, hb1, hb2⟩ := hl
    rw [value_snoc]
    have hbb : UInt8.ofNat (48 + (b.toNat - 48)) = b := by
      apply UInt8.toNat_inj.1
      rw [UInt8.toNat_ofNat']
      omega
    by_cases hl0 : l = []
    · subst hl0
      simp only [value, List.foldl_nil]
      rw [digits_small (by omega)]
      simp only [Nat.mul_zero, Nat.zero_add, List.nil_append]
      rw [hbb]
    · have hpos : 0 < l.length := List.length_pos_iff.2 hl0
      have hhead : l.head? ≠ some 48 := by
        have := h0 (by simp; omega)
        rwa [List.head?_append, show (l.head?.or [b].head?) = l.head? by cases l with | nil => exact absurd rfl hl0 | cons a l => rfl] at this
      have hd := ih h1 (fun _ => hhead) hl0
      have hv : 1 ≤ value 0 l := by
        rcases Nat.eq_zero_or_pos (value 0 l) with e | e
        · rw [e, digits_small (by decide)] at hd
          rw [← hd] at hhead
          exact absurd rfl hhead
        · exact e
      have hm : (10 * value 0 l + (b.toNat - 48)) % 10 = b.toNat - 48 := by omega
      have hq : (10 * value 0 l + (b.toNat - 48)) / 10 = value 0 l := by omega
      rw [digits_big (by omega), hm, hq, hd, hbb]
/-- What is read is written as it was. -/
theorem number_canon {s : List UInt8} {most n : Nat} (h : numberOf s most = some n) : s = digits n ∧ s.length ≤ most := by
  unfold numberOf at h
  split at h
  · cases h
  · rename_i hc
    simp only [not_or, not_and, Bool.not_eq_false] at hc
    obtain ⟨h1, h2, h3, h4⟩ := hc
    cases h
    exact ⟨(value_le s h4 h3 h1).symm, by omega⟩
end Go.Digits
