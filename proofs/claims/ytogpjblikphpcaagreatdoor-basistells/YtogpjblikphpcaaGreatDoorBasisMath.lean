/-
  Plain mathematics of marks: their texts, how far a file is right, a file's own marks. No program, no walk.
-/
import Derived.Test.YtogpjblikphpcaaGreatDoorCutC
import Derived.Test.YtogpjblikphpcaaGreatDoorSumMath
namespace Go.Basis
open Go.Digits (digits numberOf)
open Go.Gate (cutC cutC_part cutC_last)
open Go.Files (isNm okc)
open Go.Proofs.YtogpjblikphpcaaGreatDoor (str strL str_len lenL ext_of_list)

/-- A mark: a file's name, how many bytes, their sum. -/
structure Mk where
  name : ByteArray
  n : Int
  c : Int
def noMk : Mk := ⟨⟨#[]⟩, 0, 0⟩
def markE (m : Mk) : Nat := if isNm m.name = false then 5 else if m.n < 0 ∨ 4000 < m.n then 2 else 0
def lineM (m : Mk) : List UInt8 := m.name.data.toList ++ 32 :: (digits m.n.toNat ++ 32 :: digits m.c.toNat)
def textM (m : Mk) : ByteArray := if markE m = 0 then str (lineM m) else ⟨#[]⟩
def readM (s : List UInt8) : Nat × Mk := match cutC 32 s with
  | [nm, x, y] => match numberOf x 10, numberOf y 10 with
    | some n, some c => if isNm (str nm) = false then (5, noMk) else if 4000 < n ∨ 4294967295 < c then (2, noMk) else (0, ⟨str nm, n, c⟩)
    | _, _ => (1, noMk)
  | _ => (1, noMk)
/-- The sum of the first so many bytes. -/
def sumTo (data : ByteArray) (n : Nat) : Int := (Go.Crc.crc 0 (data.data.toList.take n) : Nat)
def hasM (l : List Mk) (nm data : ByteArray) (n : Nat) : Bool := l.any fun m => decide (m.name = nm) && (decide (m.n = n) && decide (sumTo data n = m.c))
def farF (l : List Mk) (nm data : ByteArray) : Nat → Nat
  | 0 => 0
  | n + 1 => if hasM l nm data (n + 1) = true then n + 1 else farF l nm data n
def farL (l : List Mk) (nm data : ByteArray) : Nat := farF l nm data data.size
def marksE (nm : ByteArray) (size : Nat) (step : Int) : Nat := if isNm nm = false then 5 else if 4000 < size ∨ step < 1 ∨ 4000 < step then 2 else 0
def marksL (nm data : ByteArray) (step : Nat) : List Mk := (List.range (data.size / step)).map fun i => ⟨nm, ((step * (i + 1) : Nat) : Int), sumTo data (step * (i + 1))⟩

theorem nm_word {nm : ByteArray} (h : isNm nm = true) : (32 : UInt8) ∉ nm.data.toList := by
  unfold isNm at h
  rw [Bool.and_eq_true] at h
  intro hm
  have := List.all_eq_true.1 h.1 _ hm
  revert this
  decide
theorem digits_word (n : Nat) : (32 : UInt8) ∉ digits n := by
  intro h
  have := List.all_eq_true.1 (Go.Digits.digits_all n) _ h
  revert this
  decide
theorem digits10 {n : Nat} (h : n ≤ 4294967295) : (digits n).length ≤ 10 := Go.Digits.digits_length n 9 (by omega)
/-- A mark is read as it was written. -/
theorem read_text {m : Mk} (h : markE m = 0) (h0 : 0 ≤ m.c) (h1 : m.c ≤ 4294967295) : readM (lineM m) = (0, m) := by
  obtain ⟨nm, n, c⟩ := m
  unfold markE at h
  split at h
  · cases h
  rename_i hn
  split at h
  · cases h
  rename_i hb
  simp only at h0 h1 hn hb
  have hn' : isNm nm = true := by cases e : isNm nm with | true => rfl | false => exact absurd e hn
  have ea : numberOf (digits n.toNat) 10 = some n.toNat := Go.Digits.number_digits _ _ (digits10 (by omega))
  have eb : numberOf (digits c.toNat) 10 = some c.toNat := Go.Digits.number_digits _ _ (digits10 (by omega))
  unfold readM
  rw [lineM, cutC_part (nm_word hn'), cutC_part (digits_word _), cutC_last (digits_word _)]
  simp only [ea, eb]
  have e : str nm.data.toList = nm := ext_of_list (strL _)
  rw [e, if_neg hn, if_neg (by omega)]
  congr 2
  · omega
  · omega
theorem farF_le (l : List Mk) (nm data : ByteArray) : ∀ n, farF l nm data n ≤ n
  | 0 => Nat.le_refl _
  | n + 1 => by
    rw [farF]
    split
    · exact Nat.le_refl _
    · exact Nat.le_succ_of_le (farF_le l nm data n)
theorem farF_ge {l : List Mk} {nm data : ByteArray} {k : Nat} (h : hasM l nm data k = true) : ∀ n, k ≤ n → k ≤ farF l nm data n
  | 0, hk => by omega
  | n + 1, hk => by
    rw [farF]
    split
    · exact hk
    · rename_i hn
      by_cases e : k = n + 1
      · subst e; exact absurd h hn
      · exact farF_ge h n (by omega)
theorem farF_none {l : List Mk} {nm data : ByteArray} {n : Nat} : (∀ k, 1 ≤ k → k ≤ n → hasM l nm data k = false) → farF l nm data n = 0 := by
  induction n with
  | zero => intro _; rfl
  | succ n ih =>
    intro h
    rw [farF, h (n + 1) (by omega) (Nat.le_refl _)]
    exact ih fun k h1 h2 => h k h1 (by omega)
theorem farF_max {l : List Mk} {nm data : ByteArray} {k n : Nat} (hk : k ≤ n) (h : 1 ≤ k → hasM l nm data k = true) (h2 : ∀ j, k < j → j ≤ n → hasM l nm data j = false) : farF l nm data n = k := by
  have h1 : farF l nm data n ≤ k := by
    clear h
    induction n with
    | zero => rw [farF]; omega
    | succ n ih =>
      by_cases e : k = n + 1
      · subst e; exact farF_le _ _ _ _
      · rw [farF, h2 (n + 1) (by omega) (Nat.le_refl _)]
        exact ih (by omega) (fun j a b => h2 j a (by omega))
  by_cases e : 1 ≤ k
  · have := farF_ge (h e) n hk; omega
  · omega
theorem farL_nil (nm data : ByteArray) : farL [] nm data = 0 := farF_none fun _ _ _ => rfl
theorem hasM_marks {nm data other : ByteArray} {step k : Nat} : hasM (marksL nm data step) nm other k = true ↔ ∃ i, i < data.size / step ∧ k = step * (i + 1) ∧ sumTo other k = sumTo data k := by
  unfold hasM marksL
  simp only [List.any_map, List.any_eq_true, List.mem_range, Function.comp, decide_true, Bool.true_and, Bool.and_eq_true, decide_eq_true_eq]
  constructor
  · rintro ⟨i, hi, h1, h2⟩
    have e : k = step * (i + 1) := by omega
    exact ⟨i, hi, e, by rw [h2, e]⟩
  · rintro ⟨i, hi, rfl, h2⟩
    exact ⟨i, hi, rfl, h2⟩
/-- Of a file's own marks the last one holds. -/
theorem far_own {nm data : ByteArray} {step : Nat} : farL (marksL nm data step) nm data = data.size - data.size % step := by
  have hdm := Nat.div_add_mod data.size step
  have hle : data.size % step ≤ data.size := Nat.mod_le _ _
  have e : data.size - data.size % step = step * (data.size / step) := by omega
  rw [e]
  refine farF_max (by omega) (fun h1 => ?_) (fun j h1 h2 => ?_)
  · refine hasM_marks.2 ⟨data.size / step - 1, ?_, ?_, rfl⟩
    · rcases Nat.eq_zero_or_pos (data.size / step) with h0 | h0
      · rw [h0] at h1; simp at h1
      · omega
    · rcases Nat.eq_zero_or_pos (data.size / step) with h0 | h0
      · rw [h0] at h1; simp at h1
      · rw [Nat.sub_add_cancel h0]
  · cases hh : hasM (marksL nm data step) nm data j with
    | false => rfl
    | true =>
      obtain ⟨i, hi, rfl, _⟩ := hasM_marks.1 hh
      have := Nat.mul_le_mul_left step (show i + 1 ≤ data.size / step by omega)
      omega
theorem far_other {nm other data : ByteArray} {step : Nat} (hn : nm ≠ other) : farL (marksL nm data step) other data = 0 := by
  refine farF_none fun k _ _ => ?_
  unfold hasM marksL
  simp only [List.any_map, List.any_eq_false, List.mem_range, Function.comp]
  intro i _
  simp [hn]
/-- A file that is alike up to a mark is right as far. -/
theorem far_mixed {nm data mixed : ByteArray} {step cut : Nat} (hc : cut ≤ data.size) (hm : cut ≤ mixed.size) (ha : mixed.data.toList.take cut = data.data.toList.take cut) : cut - cut % step ≤ farL (marksL nm data step) nm mixed := by
  have hdm := Nat.div_add_mod cut step
  have hle : cut % step ≤ cut := Nat.mod_le _ _
  have e : cut - cut % step = step * (cut / step) := by omega
  rw [e]
  rcases Nat.eq_zero_or_pos (cut / step) with h0 | h0
  · rw [h0]; simp
  · refine farF_ge (hasM_marks.2 ⟨cut / step - 1, ?_, by rw [Nat.sub_add_cancel h0], ?_⟩) _ (by omega)
    · have := Nat.div_le_div_right (c := step) hc
      omega
    · unfold sumTo
      have h1 : ∀ l : List UInt8, l.take (step * (cut / step)) = (l.take cut).take (step * (cut / step)) := fun l => by rw [List.take_take, Nat.min_eq_left (by omega)]
      rw [h1, h1 data.data.toList, ha]
theorem marks_at {nm data : ByteArray} {step i : Nat} (hi : i < (marksL nm data step).length) : (marksL nm data step)[i] = ⟨nm, ((step * (i + 1) : Nat) : Int), sumTo data (step * (i + 1))⟩ := by simp [marksL]
theorem marks_len (nm data : ByteArray) (step : Nat) : (marksL nm data step).length = data.size / step := by simp [marksL]
theorem sumTo_lt (data : ByteArray) (n : Nat) : 0 ≤ sumTo data n ∧ sumTo data n ≤ 4294967295 := by
  have := Go.Crc.crc_lt 0 (data.data.toList.take n) (by decide)
  unfold sumTo
  omega
theorem marks_fit {nm data : ByteArray} {step : Nat} (h : marksE nm data.size step = 0) : ∀ m ∈ marksL nm data step, markE m = 0 ∧ 0 ≤ m.c ∧ m.c ≤ 4294967295 := by
  intro m hm
  unfold marksL at hm
  obtain ⟨i, hi, rfl⟩ := List.mem_map.1 hm
  rw [List.mem_range] at hi
  unfold marksE at h
  split at h
  · cases h
  rename_i h1
  split at h
  · cases h
  rename_i h2
  have h3 := Nat.mul_le_mul_left step (show i + 1 ≤ data.size / step by omega)
  have h4 := Nat.mul_div_le data.size step
  refine ⟨?_, sumTo_lt _ _⟩
  unfold markE
  rw [if_neg h1, if_neg (by simp only; omega)]
end Go.Basis
