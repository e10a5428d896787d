/-
  Plain mathematics of numbers as bytes: 'enc' (seven bits a byte, the lowest first) and 'scan' (the reader's loop), and that what was written is read back, whatever stands behind. No program, no walk.
-/
namespace Go.Num

/-- The bytes of n, with fuel: at most k + 1 bytes. -/
def encF : Nat → Nat → List UInt8
  | 0, n => [UInt8.ofNat n]
  | k + 1, n => if n < 128 then [UInt8.ofNat n] else UInt8.ofNat (n % 128 + 128) :: encF k (n / 128)
def enc (n : Nat) : List UInt8 := encF 5 n

theorem encF_length_pos (k n : Nat) : 0 < (encF k n).length := by
  cases k with
  | zero => simp [encF]
  | succ k => unfold encF; split <;> simp

theorem encF_length_le (k n : Nat) : (encF k n).length ≤ k + 1 := by
  induction k generalizing n with
  | zero => simp [encF]
  | succ k ih => unfold encF; split
                 · simp
                 · have := ih (n / 128); simp; omega

theorem enc_length_le (n : Nat) : (enc n).length ≤ 6 := encF_length_le 5 n

/-- A small number is one byte, whatever the fuel. -/
theorem encF_small (k n : Nat) (h : n < 128) : encF k n = [UInt8.ofNat n] := by
  cases k with
  | zero => rfl
  | succ k => unfold encF; rw [if_pos h]
theorem encF_big (k n : Nat) (h : 128 ≤ n) : encF (k + 1) n = UInt8.ofNat (n % 128 + 128) :: encF k (n / 128) := by
  rw [encF, if_neg (by omega)]

theorem toNat_ofNat (n : Nat) (h : n < 256) : (UInt8.ofNat n).toNat = n := by
  rw [UInt8.toNat_ofNat']; omega

/-- The reader's loop: fuel, what is left, the sum so far, the place. Answers the number and the last byte's place. -/
def scan : Nat → List UInt8 → Nat → Nat → Option (Nat × Nat)
  | 0, _, _, _ => none
  | _ + 1, [], _, _ => none
  | k + 1, b :: r, acc, i => if b.toNat < 128 then some (acc + b.toNat % 128 * 128 ^ i, i) else scan k r (acc + b.toNat % 128 * 128 ^ i) (i + 1)

theorem scan_enc (k : Nat) : ∀ (n acc i : Nat) (more : List UInt8), n < 128 ^ (k + 1) →
    scan (k + 1) (encF k n ++ more) acc i = some (acc + n * 128 ^ i, i + (encF k n).length - 1) := by
  induction k with
  | zero =>
    intro n acc i more h
    have h' : n < 128 := by simpa using h
    simp [encF, scan, toNat_ofNat n (by omega), h', Nat.mod_eq_of_lt h']
  | succ k ih =>
    intro n acc i more h
    by_cases hn : n < 128
    · rw [encF_small _ _ hn]
      simp [scan, toNat_ofNat n (by omega), hn, Nat.mod_eq_of_lt hn]
    · rw [encF_big _ _ (by omega)]
      have hb : (UInt8.ofNat (n % 128 + 128)).toNat = n % 128 + 128 := toNat_ofNat _ (by omega)
      have hd : n / 128 < 128 ^ (k + 1) := by
        rw [Nat.div_lt_iff_lt_mul (by omega)]
        rw [Nat.pow_succ] at h; exact h
      rw [List.cons_append, scan, hb, if_neg (by omega), ih _ _ _ _ hd]
      have e1 : (n % 128 + 128) % 128 = n % 128 := by omega
      have e2 : n = n % 128 + 128 * (n / 128) := by omega
      have hp := encF_length_pos k (n / 128)
      rw [e1, Nat.pow_succ]
      congr 2
      · generalize 128 ^ i = p
        conv => rhs; rw [e2]
        rw [Nat.add_mul, Nat.add_assoc]
        congr 2
        rw [Nat.mul_comm p 128, ← Nat.mul_assoc, Nat.mul_comm (n / 128) 128]
      · simp

theorem encF_last (k : Nat) : ∀ n, n < 128 ^ (k + 1) → 0 < n → (encF k n)[(encF k n).length - 1]? ≠ some 0 := by
  induction k with
  | zero =>
    intro n h hn
    have h' : n < 128 := by simpa using h
    simp only [encF, List.length_singleton, Nat.sub_self]
    intro e
    have e' : UInt8.ofNat n = 0 := by simpa using e
    have := toNat_ofNat n (by omega)
    rw [e'] at this
    simp at this; omega
  | succ k ih =>
    intro n h hn
    by_cases hs : n < 128
    · rw [encF_small _ _ hs]
      intro e
      have e' : UInt8.ofNat n = 0 := by simpa using e
      have := toNat_ofNat n (by omega)
      rw [e'] at this
      simp at this; omega
    · rw [encF_big _ _ (by omega)]
      have hd : n / 128 < 128 ^ (k + 1) := by
        rw [Nat.div_lt_iff_lt_mul (by omega)]
        rw [Nat.pow_succ] at h; exact h
      have hp := encF_length_pos k (n / 128)
      have := ih (n / 128) hd (by omega)
      have e : (UInt8.ofNat (n % 128 + 128) :: encF k (n / 128)).length - 1 = ((encF k (n / 128)).length - 1) + 1 := by simp; omega
      rw [e, List.getElem?_cons_succ]
      exact this

/-- What Get answers: an error's number, or the number and how many bytes it took. -/
def dec (s : List UInt8) : Except Nat (Nat × Nat) :=
  match scan 6 s 0 0 with
  | none => .error 1
  | some (n, i) => if 0 < i ∧ s[i]? = some 0 then .error 1 else if 1099511627776 < n then .error 2 else .ok (n, i + 1)

theorem dec_enc (n : Nat) (h : n ≤ 1099511627776) (more : List UInt8) : dec (enc n ++ more) = .ok (n, (enc n).length) := by
  have hs := scan_enc 5 n 0 0 more (by omega)
  have hp := encF_length_pos 5 n
  unfold dec enc
  rw [hs]
  have hz : ¬ (0 < 0 + (encF 5 n).length - 1 ∧ (encF 5 n ++ more)[0 + (encF 5 n).length - 1]? = some 0) := by
    rintro ⟨h1, h2⟩
    rw [Nat.zero_add] at h1 h2
    rw [List.getElem?_append_left (by omega)] at h2
    refine encF_last 5 n (by omega) ?_ h2
    rcases Nat.eq_zero_or_pos n with e | e
    · subst e; exact absurd h1 (by decide)
    · exact e
  simp only [if_neg hz]
  rw [if_neg (by omega)]
  simp
  omega

/-- No number's bytes begin another one's. -/
theorem enc_prefix (n m : Nat) (hn : n ≤ 1099511627776) (hm : m ≤ 1099511627776) (h : (enc m).take (enc n).length = enc n) : n = m := by
  have e : enc m = enc n ++ (enc m).drop (enc n).length := by
    conv => lhs; rw [← List.take_append_drop (enc n).length (enc m)]
    rw [h]
  have h1 := dec_enc m hm []
  rw [List.append_nil, e, dec_enc n hn] at h1
  simp at h1
  exact h1.1

end Go.Num
