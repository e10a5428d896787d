/-
  Plain mathematics of sums that roll: 'wa' (all bytes), 'wb' (each byte times its place from the end), 'weak' (both modulo 65536); what is rolled, and what is joined. No program, no walk.
-/
namespace Go.Weak

def wa : List UInt8 → Nat
  | [] => 0
  | b :: r => b.toNat + wa r
def wb : List UInt8 → Nat
  | [] => 0
  | b :: r => (r.length + 1) * b.toNat + wb r
def weak (l : List UInt8) : Nat := wa l % 65536 + 65536 * (wb l % 65536)

theorem wa_append (l m : List UInt8) : wa (l ++ m) = wa l + wa m := by
  induction l with
  | nil => simp [wa]
  | cons b r ih => simp only [List.cons_append, wa, ih]; omega

theorem wb_append (l m : List UInt8) : wb (l ++ m) = wb l + m.length * wa l + wb m := by
  induction l with
  | nil => simp [wa, wb]
  | cons b r ih =>
    simp only [List.cons_append, wa, wb, ih, List.length_append, Nat.mul_add, Nat.add_mul]
    omega

theorem wa_snoc (l : List UInt8) (b : UInt8) : wa (l ++ [b]) = wa l + b.toNat := by rw [wa_append]; simp [wa]
theorem wb_snoc (l : List UInt8) (b : UInt8) : wb (l ++ [b]) = wb l + wa l + b.toNat := by rw [wb_append]; simp [wb]

theorem weak_lt (l : List UInt8) : weak l < 4294967296 := by unfold weak; omega

/-- The halves of a sum. -/
theorem weak_mod (l : List UInt8) : weak l % 65536 = wa l % 65536 := by unfold weak; omega
theorem weak_div (l : List UInt8) : weak l / 65536 = wb l % 65536 := by unfold weak; omega

theorem take_snoc (l : List UInt8) (i : Nat) (h : i < l.length) : l.take (i + 1) = l.take i ++ [l[i]] := List.take_succ_eq_append_getElem h
theorem drop_cons (l : List UInt8) (i : Nat) (h : i < l.length) : l.drop i = l[i] :: l.drop (i + 1) := List.drop_eq_getElem_cons h

/-- The part of n bytes from i on. -/
def part (l : List UInt8) (i n : Nat) : List UInt8 := (l.drop i).take n

theorem part_length (l : List UInt8) (i n : Nat) (h : i + n ≤ l.length) : (part l i n).length = n := by simp [part]; omega

theorem part_slide (l : List UInt8) (i n : Nat) (hn : 0 < n) (h : i + n < l.length) :
    ∃ r, part l i n = l[i] :: r ∧ part l (i + 1) n = r ++ [l[i + n]] ∧ r.length + 1 = n := by
  obtain ⟨m, rfl⟩ : ∃ m, n = m + 1 := ⟨n - 1, by omega⟩
  refine ⟨(l.drop (i + 1)).take m, ?_, ?_, ?_⟩
  · rw [part, drop_cons l i (by omega), List.take_succ_cons]
  · rw [part, List.take_succ_eq_append_getElem (by simp; omega)]
    simp [Nat.add_comm, Nat.add_left_comm]
  · simp; omega

/-- Rolling, on the halves: the first byte goes, one comes behind. -/
theorem roll_a (b c : UInt8) (r : List UInt8) : (wa (b :: r) : Int) - b.toNat + c.toNat = wa (r ++ [c]) := by
  rw [wa_snoc]; simp only [wa]; omega
theorem roll_b (b c : UInt8) (r : List UInt8) : (wb (b :: r) : Int) - ((r.length + 1 : Nat) : Int) * b.toNat + wa (r ++ [c]) = wb (r ++ [c]) := by
  rw [wb_snoc, wa_snoc]; simp only [wb]
  have := Int.natCast_mul (r.length + 1) b.toNat
  omega

end Go.Weak
