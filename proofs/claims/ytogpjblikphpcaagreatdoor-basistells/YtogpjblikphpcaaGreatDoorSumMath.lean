/-
  Plain mathematics of CRC-32: 'sh' (a bit), 'shs' (many bits), 'run' (a text), 'crc' (what More answers); they are linear over the exclusive or; what is joined; a table of what each bit makes. No program, no walk.
-/
import Derived.Lib.TrailingZeros
namespace Go.Crc

def sh (c : Nat) : Nat := c / 2 ^^^ 3988292384 * (c % 2)
def shs : Nat → Nat → Nat
  | 0, c => c
  | k + 1, c => sh (shs k c)
def run (c : Nat) : List UInt8 → Nat
  | [] => c
  | b :: r => run (shs 8 (c ^^^ b.toNat)) r
def ones : Nat := 4294967295
def crc (c : Nat) (l : List UInt8) : Nat := run (c ^^^ ones) l ^^^ ones

theorem xor_mod2 (a b : Nat) : (a ^^^ b) % 2 = (a + b) % 2 := by
  have h := Nat.testBit_xor a b 0
  rw [Nat.testBit_zero, Nat.testBit_zero, Nat.testBit_zero] at h
  rcases Nat.mod_two_eq_zero_or_one (a ^^^ b) with e | e <;> rcases Nat.mod_two_eq_zero_or_one a with ha | ha <;> rcases Nat.mod_two_eq_zero_or_one b with hb | hb <;> simp [e, ha, hb] at h <;> omega

theorem xor_ac (a b c d : Nat) : (a ^^^ b) ^^^ (c ^^^ d) = (a ^^^ c) ^^^ (b ^^^ d) := by
  rw [Nat.xor_assoc, ← Nat.xor_assoc b c d, Nat.xor_comm b c, Nat.xor_assoc c b d, ← Nat.xor_assoc]
theorem sh_xor (a b : Nat) : sh (a ^^^ b) = sh a ^^^ sh b := by
  unfold sh
  rw [Nat.xor_div_two, xor_ac, xor_mod2]
  congr 1
  rcases Nat.mod_two_eq_zero_or_one a with ha | ha <;> rcases Nat.mod_two_eq_zero_or_one b with hb | hb <;> simp [Nat.add_mod, ha, hb]
theorem sh_zero : sh 0 = 0 := rfl
theorem sh_lt (c : Nat) (h : c < 2 ^ 32) : sh c < 2 ^ 32 := by
  unfold sh
  refine Nat.xor_lt_two_pow (by omega) ?_
  have := Nat.mod_two_eq_zero_or_one c
  rcases this with e | e <;> rw [e] <;> decide
theorem sh_ker (c : Nat) (h : c < 2 ^ 32) (e : sh c = 0) : c = 0 := by
  unfold sh at e
  have e' : c / 2 = 3988292384 * (c % 2) := by
    have h := congrArg (· ^^^ 3988292384 * (c % 2)) e
    simp only [Nat.xor_assoc, Nat.xor_self, Nat.xor_zero, Nat.zero_xor] at h
    exact h
  omega

theorem shs_xor (k a b : Nat) : shs k (a ^^^ b) = shs k a ^^^ shs k b := by
  induction k with
  | zero => rfl
  | succ k ih => rw [shs, shs, shs, ih, sh_xor]
theorem shs_zero (k : Nat) : shs k 0 = 0 := by
  induction k with
  | zero => rfl
  | succ k ih => rw [shs, ih, sh_zero]
theorem shs_lt (k c : Nat) (h : c < 2 ^ 32) : shs k c < 2 ^ 32 := by
  induction k with
  | zero => exact h
  | succ k ih => exact sh_lt _ ih
theorem shs_ker (k c : Nat) (h : c < 2 ^ 32) (e : shs k c = 0) : c = 0 := by
  induction k with
  | zero => exact e
  | succ k ih => exact ih (sh_ker _ (shs_lt k c h) e)
theorem shs_add (j k c : Nat) : shs (j + k) c = shs j (shs k c) := by
  induction j with
  | zero => rw [Nat.zero_add]; rfl
  | succ j ih => rw [Nat.succ_add, shs, shs, ih]
theorem shs_inner (k c : Nat) : shs (k + 1) c = shs k (sh c) := shs_add k 1 c

theorem byte_lt32 (b : UInt8) : b.toNat < 2 ^ 32 := by have := b.toNat_lt; omega
theorem run_lt (c : Nat) (l : List UInt8) (h : c < 2 ^ 32) : run c l < 2 ^ 32 := by
  induction l generalizing c with
  | nil => exact h
  | cons b r ih => exact ih _ (shs_lt 8 _ (Nat.xor_lt_two_pow h (byte_lt32 b)))
theorem run_append (c : Nat) (l m : List UInt8) : run c (l ++ m) = run (run c l) m := by
  induction l generalizing c with
  | nil => rfl
  | cons b r ih => exact ih _
theorem run_snoc (c : Nat) (l : List UInt8) (b : UInt8) : run c (l ++ [b]) = shs 8 (run c l ^^^ b.toNat) := by
  rw [run_append]; rfl
theorem run_xor (c d : Nat) (l : List UInt8) : run (c ^^^ d) l = run c l ^^^ shs (8 * l.length) d := by
  induction l generalizing c d with
  | nil => rfl
  | cons b r ih =>
    rw [run, run, show c ^^^ d ^^^ b.toNat = (c ^^^ b.toNat) ^^^ d by rw [Nat.xor_assoc, Nat.xor_comm d, ← Nat.xor_assoc], shs_xor, ih, List.length_cons, Nat.mul_add, shs_add]

theorem ones_lt : ones < 2 ^ 32 := by decide
theorem crc_lt (c : Nat) (l : List UInt8) (h : c < 2 ^ 32) : crc c l < 2 ^ 32 :=
  Nat.xor_lt_two_pow (run_lt _ _ (Nat.xor_lt_two_pow h ones_lt)) ones_lt
theorem xor_twice (a b : Nat) : a ^^^ b ^^^ b = a := by rw [Nat.xor_assoc, Nat.xor_self, Nat.xor_zero]
theorem crc_append (c : Nat) (l m : List UInt8) : crc (crc c l) m = crc c (l ++ m) := by
  unfold crc
  rw [xor_twice, run_append]
theorem crc_nil (c : Nat) : crc c [] = c := xor_twice c ones
/-- What is joined is what is summed at once. -/
theorem crc_join (c : Nat) (l m : List UInt8) : shs (8 * m.length) (crc c l) ^^^ crc 0 m = crc c (l ++ m) := by
  rw [← crc_append]
  generalize crc c l = x
  rw [crc, crc, Nat.zero_xor, Nat.xor_comm x, run_xor, ← Nat.xor_assoc, Nat.xor_comm (shs _ _)]
theorem join_join (j k a b c : Nat) : shs (8 * k) (shs (8 * j) a ^^^ b) ^^^ c = shs (8 * (j + k)) a ^^^ (shs (8 * k) b ^^^ c) := by
  rw [shs_xor, ← shs_add, Nat.xor_assoc, ← Nat.mul_add, Nat.add_comm k j]

/-- A bit that is turned, in a byte: the sums part by what that bit makes over the rest. -/
theorem crc_turn (l m : List UInt8) (b d : UInt8) : crc 0 (l ++ b :: m) ^^^ crc 0 (l ++ d :: m) = shs (8 * m.length) (shs 8 (b.toNat ^^^ d.toNat)) := by
  have key : ∀ c x y : Nat, ∀ m : List UInt8, run (shs 8 (c ^^^ x)) m ^^^ run (shs 8 (c ^^^ y)) m = shs (8 * m.length) (shs 8 (x ^^^ y)) := by
    intro c x y m
    have e : shs 8 (c ^^^ x) = shs 8 (c ^^^ y) ^^^ shs 8 (x ^^^ y) := by
      rw [← shs_xor]
      congr 1
      rw [xor_ac, Nat.xor_self, Nat.xor_zero]
    rw [e, run_xor, Nat.xor_comm, ← Nat.xor_assoc, Nat.xor_self, Nat.zero_xor]
  unfold crc
  rw [run_append, run_append, run, run, xor_ac, Nat.xor_self, Nat.xor_zero, key]
theorem shs_ne (k c : Nat) (h : c < 2 ^ 32) (h0 : c ≠ 0) : shs k c ≠ 0 := fun e => h0 (shs_ker k c h e)
theorem xor_ne {a b : Nat} (h : a ^^^ b ≠ 0) : a ≠ b := fun e => h (by rw [e, Nat.xor_self])

/-- The lowest bit of a number, and the rest of them. -/
theorem low_rest (c : Nat) (h0 : c ≠ 0) (h : c < 2 ^ 32) : c = (c &&& (c - 1)) ^^^ 2 ^ Lib.ctz 32 c ∧ c &&& (c - 1) < c ∧ Lib.ctz 32 c < 32 := by
  obtain ⟨m, hm, hk⟩ := Lib.ctzFrom_spec 32 c (by omega) h
  rw [Lib.ctz, if_neg h0]
  generalize Lib.ctzFrom 32 c = k at *
  have hp : 0 < 2 ^ k := Nat.two_pow_pos k
  have ha : c &&& (c - 1) = 2 ^ k * (2 * m) := by
    rw [hm]
    apply Nat.eq_of_testBit_eq
    intro i
    have e : 2 ^ k * (2 * m + 1) - 1 = 2 ^ k * (2 * m) + (2 ^ k - 1) := by rw [Nat.mul_add, Nat.mul_one]; omega
    rw [e, Nat.testBit_and]
    by_cases hik : i < k
    · have : (2 ^ k * (2 * m + 1)).testBit i = false := by rw [Nat.mul_comm, Nat.testBit_mul_two_pow]; simp; omega
      rw [this, Bool.false_and, Nat.mul_comm, Nat.testBit_mul_two_pow]; simp; omega
    · rw [Nat.testBit_two_pow_mul_add _ (by omega), if_neg hik, Nat.mul_comm, Nat.testBit_mul_two_pow, Nat.mul_comm (2 ^ k), Nat.testBit_mul_two_pow]
      by_cases he : i = k
      · subst he; simp [Nat.testBit_zero]
      · obtain ⟨j, hj⟩ : ∃ j, i - k = j + 1 := ⟨i - k - 1, by omega⟩
        rw [hj, Nat.testBit_succ, Nat.testBit_succ, show (2 * m + 1) / 2 = 2 * m / 2 by omega]
        simp
  refine ⟨?_, ?_, hk⟩
  · rw [ha]
    conv => lhs; rw [hm]
    apply Nat.eq_of_testBit_eq
    intro i
    rw [Nat.testBit_xor, Nat.testBit_two_pow, Nat.mul_comm, Nat.testBit_mul_two_pow, Nat.mul_comm (2 ^ k), Nat.testBit_mul_two_pow]
    by_cases hik : k ≤ i
    · by_cases he : k = i
      · subst he; simp [Nat.testBit_zero]
      · obtain ⟨j, hj⟩ : ∃ j, i - k = j + 1 := ⟨i - k - 1, by omega⟩
        rw [hj, Nat.testBit_succ, Nat.testBit_succ, show (2 * m + 1) / 2 = 2 * m / 2 by omega]
        simp [he]
    · simp [hik]; omega
  · rw [ha, hm, Nat.mul_add]; omega
end Go.Crc
