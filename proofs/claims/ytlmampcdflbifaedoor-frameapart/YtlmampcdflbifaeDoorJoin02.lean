/-
  Plain mathematics of CRC-32: 'sh' (a bit), 'shs' (many bits), 'run' (a text), 'crc' (what More answers); they are linear over the exclusive or; what is joined; a table of what each bit makes. No program, no walk.
  Plain mathematics of frames: their bytes, how they are read; a frame is read as it was written; what is read was written so; one bit turned: none. No program, no walk.
  Frames as values and at a block; what a text makes of them; parts of a text. No function of the program.
  An error that is nil where there is none.
  What the laws of stage 8 ask of package frame, as contracts (to be shown over the program's own text); the closed fact of stage 8.
-/
import Derived.Lib.TrailingZeros
import Derived.Test.YtlmampcdflbifaeDoorJoin01
namespace Go.Crc

def sh (c : Nat) : Nat := c / 2 ^^^ 3988292384 * (c % 2)
def shs : Nat → Nat → Nat
  | 0, c => c
  | k + 1, c => sh (shs k c)
def run (c : Nat) : List UInt8 → Nat
  | [] => c
  | b :: r => run (shs 8 (c ^^^ b.toNat)) r
def ones : Nat := 4294967295
def crc (c : Nat) (l : List UInt8) : Nat := run (c ^^^ ones) l ^^^ ones

theorem xor_mod2 (a b : Nat) : (a ^^^ b) % 2 = (a + b) % 2 := by
  have h := Nat.testBit_xor a b 0
  rw [Nat.testBit_zero, Nat.testBit_zero, Nat.testBit_zero] at h
  rcases Nat.mod_two_eq_zero_or_one (a ^^^ b) with e | e <;> rcases Nat.mod_two_eq_zero_or_one a with ha | ha <;> rcases Nat.mod_two_eq_zero_or_one b with hb | hb <;> simp [e, ha, hb] at h <;> omega

theorem xor_ac (a b c d : Nat) : (a ^^^ b) ^^^ (c ^^^ d) = (a ^^^ c) ^^^ (b ^^^ d) := by
  rw [Nat.xor_assoc, ← Nat.xor_assoc b c d, Nat.xor_comm b c, Nat.xor_assoc c b d, ← Nat.xor_assoc]
theorem sh_xor (a b : Nat) : sh (a ^^^ b) = sh a ^^^ sh b := by
  unfold sh
  rw [Nat.xor_div_two, xor_ac, xor_mod2]
  congr 1
  rcases Nat.mod_two_eq_zero_or_one a with ha | ha <;> rcases Nat.mod_two_eq_zero_or_one b with hb | hb <;> simp [Nat.add_mod, ha, hb]
theorem sh_zero : sh 0 = 0 := rfl
theorem sh_lt (c : Nat) (h : c < 2 ^ 32) : sh c < 2 ^ 32 := by
  unfold sh
  refine Nat.xor_lt_two_pow (by omega) ?_
  have := Nat.mod_two_eq_zero_or_one c
  rcases this with e | e <;> rw [e] <;> decide
theorem sh_ker (c : Nat) (h : c < 2 ^ 32) (e : sh c = 0) : c = 0 := by
  unfold sh at e
  have e' : c / 2 = 3988292384 * (c % 2) := by
    have h := congrArg (· ^^^ 3988292384 * (c % 2)) e
    simp only [Nat.xor_assoc, Nat.xor_self, Nat.xor_zero, Nat.zero_xor] at h
    exact h
  omega

theorem shs_xor (k a b : Nat) : shs k (a ^^^ b) = shs k a ^^^ shs k b := by
  induction k with
  | zero => rfl
  | succ k ih => rw [shs, shs, shs, ih, sh_xor]
theorem shs_zero (k : Nat) : shs k 0 = 0 := by
  induction k with
  | zero => rfl
  | succ k ih => rw [shs, ih, sh_zero]
theorem shs_lt (k c : Nat) (h : c < 2 ^ 32) : shs k c < 2 ^ 32 := by
  induction k with
  | zero => exact h
  | succ k ih => exact sh_lt _ ih
theorem shs_ker (k c : Nat) (h : c < 2 ^ 32) (e : shs k c = 0) : c = 0 := by
  induction k with
  | zero => exact e
  | succ k ih => exact ih (sh_ker _ (shs_lt k c h) e)
theorem shs_add (j k c : Nat) : shs (j + k) c = shs j (shs k c) := by
  induction j with
  | zero => rw [Nat.zero_add]; rfl
  | succ j ih => rw [Nat.succ_add, shs, shs, ih]
theorem shs_inner (k c : Nat) : shs (k + 1) c = shs k (sh c) := shs_add k 1 c

theorem byte_lt32 (b : UInt8) : b.toNat < 2 ^ 32 := by have := b.toNat_lt; omega
theorem run_lt (c : Nat) (l : List UInt8) (h : c < 2 ^ 32) : run c l < 2 ^ 32 := by
  induction l generalizing c with
  | nil => exact h
  | cons b r ih => exact ih _ (shs_lt 8 _ (Nat.xor_lt_two_pow h (byte_lt32 b)))
theorem run_append (c : Nat) (l m : List UInt8) : run c (l ++ m) = run (run c l) m := by
  induction l generalizing c with
  | nil => rfl
  | cons b r ih => exact ih _
theorem run_snoc (c : Nat) (l : List UInt8) (b : UInt8) : run c (l ++ [b]) = shs 8 (run c l ^^^ b.toNat) := by
  rw [run_append]; rfl
theorem run_xor (c d : Nat) (l : List UInt8) : run (c ^^^ d) l = run c l ^^^ shs (8 * l.length) d := by
  induction l generalizing c d with
  | nil => rfl
  | cons b r ih =>
    rw [run, run, show c ^^^ d ^^^ b.toNat = (c ^^^ b.toNat) ^^^ d by rw [Nat.xor_assoc, Nat.xor_comm d, ← Nat.xor_assoc], shs_xor, ih, List.length_cons, Nat.mul_add, shs_add]

theorem ones_lt : ones < 2 ^ 32 := by decide
theorem crc_lt (c : Nat) (l : List UInt8) (h : c < 2 ^ 32) : crc c l < 2 ^ 32 :=
  Nat.xor_lt_two_pow (run_lt _ _ (Nat.xor_lt_two_pow h ones_lt)) ones_lt
theorem xor_twice (a b : Nat) : a ^^^ b ^^^ b = a := by rw [Nat.xor_assoc, Nat.xor_self, Nat.xor_zero]
theorem crc_append (c : Nat) (l m : List UInt8) : crc (crc c l) m = crc c (l ++ m) := by
  unfold crc
  rw [xor_twice, run_append]
theorem crc_nil (c : Nat) : crc c [] = c := xor_twice c ones
/-- What is joined is what is summed at once. -/
theorem crc_join (c : Nat) (l m : List UInt8) : shs (8 * m.length) (crc c l) ^^^ crc 0 m = crc c (l ++ m) := by
  rw [← crc_append]
  generalize crc c l = x
  rw [crc, crc, Nat.zero_xor, Nat.xor_comm x, run_xor, ← Nat.xor_assoc, Nat.xor_comm (shs _ _)]
theorem join_join (j k a b c : Nat) : shs (8 * k) (shs (8 * j) a ^^^ b) ^^^ c = shs (8 * (j + k)) a ^^^ (shs (8 * k) b ^^^ c) := by
  rw [shs_xor, ← shs_add, Nat.xor_assoc, ← Nat.mul_add, Nat.add_comm k j]

/-- A bit that is turned, in a byte: the sums part by what that bit makes over the rest. -/
theorem crc_turn (l m : List UInt8) (b d : UInt8) : crc 0 (l ++ b :: m) ^^^ crc 0 (l ++ d :: m) = shs (8 * m.length) (shs 8 (b.toNat ^^^ d.toNat)) := by
  have key : ∀ c x y : Nat, ∀ m : List UInt8, run (shs 8 (c ^^^ x)) m ^^^ run (shs 8 (c ^^^ y)) m = shs (8 * m.length) (shs 8 (x ^^^ y)) := by
    intro c x y m
    have e : shs 8 (c ^^^ x) = shs 8 (c ^^^ y) ^^^ shs 8 (x ^^^ y) := by
      rw [← shs_xor]
      congr 1
      rw [xor_ac, Nat.xor_self, Nat.xor_zero]
    rw [e, run_xor, Nat.xor_comm, ← Nat.xor_assoc, Nat.xor_self, Nat.zero_xor]
  unfold crc
  rw [run_append, run_append, run, run, xor_ac, Nat.xor_self, Nat.xor_zero, key]
theorem shs_ne (k c : Nat) (h : c < 2 ^ 32) (h0 : c ≠ 0) : shs k c ≠ 0 := fun e => h0 (shs_ker k c h e)
theorem xor_ne {a b : Nat} (h : a ^^^ b ≠ 0) : a ≠ b := fun e => h (by rw [e, Nat.xor_self])

/-- The lowest bit of a number, and the rest of them. -/
theorem low_rest (c : Nat) (h0 : c ≠ 0) (h : c < 2 ^ 32) : c = (c &&& (c - 1)) ^^^ 2 ^ Lib.ctz 32 c ∧ c &&& (c - 1) < c ∧ Lib.ctz 32 c < 32 := by
  obtain ⟨m, hm, hk⟩ := Lib.ctzFrom_spec 32 c (by omega) h
  rw [Lib.ctz, if_neg h0]
  generalize Lib.ctzFrom 32 c = k at *
  have hp : 0 < 2 ^ k := Nat.two_pow_pos k
  have ha : c &&& (c - 1) = 2 ^ k * (2 * m) := by
    rw [hm]
    apply Nat.eq_of_testBit_eq
    intro i
    have e : 2 ^ k * (2 * m + 1) - 1 = 2 ^ k * (2 * m) + (2 ^ k - 1) := by rw [Nat.mul_add, Nat.mul_one]; omega
    rw [e, Nat.testBit_and]
    by_cases hik : i < k
    · have : (2 ^ k * (2 * m + 1)).testBit i = false := by rw [Nat.mul_comm, Nat.testBit_mul_two_pow]; simp; omega
      rw [this, Bool.false_and, Nat.mul_comm, Nat.testBit_mul_two_pow]; simp; omega
    · rw [Nat.testBit_two_pow_mul_add _ (by omega), if_neg hik, Nat.mul_comm, Nat.testBit_mul_two_pow, Nat.mul_comm (2 ^ k), Nat.testBit_mul_two_pow]
      by_cases he : i = k
      · subst he; simp [Nat.testBit_zero]
      · obtain ⟨j, hj⟩ : ∃ j, i - k = j + 1 := ⟨i - k - 1, by omega⟩
        rw [hj, Nat.testBit_succ, Nat.testBit_succ, show (2 * m + 1) / 2 = 2 * m / 2 by omega]
        simp
  refine ⟨?_, ?_, hk⟩
  · rw [ha]
    conv => lhs; rw [hm]
    apply Nat.eq_of_testBit_eq
    intro i
    rw [Nat.testBit_xor, Nat.testBit_two_pow, Nat.mul_comm, Nat.testBit_mul_two_pow, Nat.mul_comm (2 ^ k), Nat.testBit_mul_two_pow]
    by_cases hik : k ≤ i
    · by_cases he : k = i
      · subst he; simp [Nat.testBit_zero]
      · obtain ⟨j, hj⟩ : ∃ j, i - k = j + 1 := ⟨i - k - 1, by omega⟩
        rw [hj, Nat.testBit_succ, Nat.testBit_succ, show (2 * m + 1) / 2 = 2 * m / 2 by omega]
        simp [he]
    · simp [hik]; omega
  · rw [ha, hm, Nat.mul_add]; omega
end Go.Crc

namespace Go.Num
/-- What is read as a number was written so. -/
theorem scan_canon : ∀ (k : Nat) (L : List UInt8) (acc i n j : Nat), scan (k + 1) L acc i = some (n, j) →
    i ≤ j ∧ j - i < L.length ∧ ∃ m, n = acc + m * 128 ^ i ∧ (j = i → m < 128) ∧ (L[j - i]? ≠ some 0 → 1 ≤ m) ∧ (i < j → L[j - i]? ≠ some 0 → 128 ≤ m) ∧ ((j = i ∨ L[j - i]? ≠ some 0) → L = encF k m ++ L.drop (j - i + 1)) := by
  intro k
  induction k with
  | zero =>
    intro L acc i n j h
    cases L with
    | nil => simp [scan] at h
    | cons b r =>
      rw [scan] at h
      split at h
      · rename_i hb
        cases h
        refine ⟨Nat.le_refl _, by simp, b.toNat, by rw [Nat.mod_eq_of_lt hb], fun _ => hb, fun h => ?_, fun h => by omega, fun _ => ?_⟩
        · simp only [Nat.sub_self, List.getElem?_cons_zero] at h
          rcases Nat.eq_zero_or_pos b.toNat with e | e
          · exact absurd (congrArg some (UInt8.toNat_inj.1 (by simpa using e))) h
          · exact e
        · simp [encF]
      · simp [scan] at h
  | succ k ih =>
    intro L acc i n j h
    cases L with
    | nil => simp [scan] at h
    | cons b r =>
      rw [scan] at h
      split at h
      · rename_i hb
        cases h
        refine ⟨Nat.le_refl _, by simp, b.toNat, by rw [Nat.mod_eq_of_lt hb], fun _ => hb, fun h => ?_, fun h => by omega, fun _ => ?_⟩
        · simp only [Nat.sub_self, List.getElem?_cons_zero] at h
          rcases Nat.eq_zero_or_pos b.toNat with e | e
          · exact absurd (congrArg some (UInt8.toNat_inj.1 (by simpa using e))) h
          · exact e
        · rw [encF_small _ _ hb]; simp
      · rename_i hb
        obtain ⟨h1, h2, m, h3, h4, h5, h6, h7⟩ := ih r _ _ n j h
        have hbl := b.toNat_lt
        have e : ∀ t, (b :: r)[j - i]? = t ↔ r[j - (i + 1)]? = t := fun t => by
          rw [show j - i = (j - (i + 1)) + 1 by omega, List.getElem?_cons_succ]
        refine ⟨by omega, by simp; omega, b.toNat % 128 + 128 * m, ?_, fun hji => by omega, fun hz => ?_, fun _ hz => ?_, fun hor => ?_⟩
        · rw [h3, Nat.pow_succ, Nat.add_mul, Nat.add_assoc]
          congr 1
          rw [Nat.mul_comm 128 m, Nat.mul_assoc, Nat.mul_comm 128]
        · have hz' : r[j - (i + 1)]? ≠ some 0 := fun h => hz ((e _).2 h)
          have := h5 hz'
          omega
        · have hz' : r[j - (i + 1)]? ≠ some 0 := fun h => hz ((e _).2 h)
          have := h5 hz'
          omega
        · have hz : (b :: r)[j - i]? ≠ some 0 := hor.resolve_left (by omega)
          have hz' : r[j - (i + 1)]? ≠ some 0 := fun h => hz ((e _).2 h)
          have hm := h5 hz'
          rw [encF_big _ _ (by omega)]
          have h8 := h7 (Or.inr hz')
          rw [show (b.toNat % 128 + 128 * m) % 128 = b.toNat % 128 by omega, show (b.toNat % 128 + 128 * m) / 128 = m by omega]
          rw [show b.toNat % 128 + 128 = b.toNat by omega, show j - i + 1 = (j - (i + 1) + 1) + 1 by omega, List.drop_succ_cons, List.cons_append, ← h8]
          simp
theorem dec_canon {s : List UInt8} {n k : Nat} (h : dec s = .ok (n, k)) : s = enc n ++ s.drop k ∧ n ≤ 1099511627776 := by
  unfold dec at h
  split at h
  · cases h
  · rename_i n' i hs
    split at h
    · cases h
    · rename_i hz
      split at h
      · cases h
      · rename_i hn
        cases h
        obtain ⟨_, _, m, h3, _, _, _, h7⟩ := scan_canon 5 s 0 0 n i hs
        simp only [Nat.zero_add, Nat.pow_zero, Nat.mul_one, Nat.sub_zero] at h3 h7
        subst h3
        refine ⟨h7 ?_, by omega⟩
        rcases Nat.eq_zero_or_pos i with e | e
        · exact Or.inl e
        · exact Or.inr fun hq => hz ⟨e, hq⟩
end Go.Num
namespace Go.Sign
theorem num_canon {s r : List UInt8} {n : Nat} (h : num s = .ok (n, r)) : s = Go.Num.enc n ++ r ∧ n ≤ 1099511627776 := by
  unfold num at h
  split at h
  · rename_i n' k hd
    cases h
    exact Go.Num.dec_canon hd
  · cases h
end Go.Sign
namespace Go.Frame
open Go.Proofs.YtlmampcdflbifaeDoor (lenL str strL str_len ext_of_list)
open Go.Sign (num num_enc num_canon)
open Go.Delta (txt txt_enc)
open Go.Crc (crc crc_lt)

theorem txt_canon {s r d : List UInt8} (h : txt s = .ok (d, r)) : s = Go.Num.enc d.length ++ (d ++ r) ∧ d.length ≤ 20000 := by
  unfold txt at h
  split at h
  · cases h
  · rename_i n s1 h1
    obtain ⟨e1, _⟩ := num_canon h1
    split at h
    · cases h
    · split at h
      · cases h
      · rename_i h2 h3
        cases h
        have hl : (s1.take n).length = n := by rw [List.length_take]; omega
        rw [hl, List.take_append_drop]
        exact ⟨e1, by omega⟩

/-- A frame. -/
structure Fr where
  kind : UInt8
  epoch : Int
  seq : Int
  data : ByteArray
deriving DecidableEq, Inhabited
/-- An error's number. -/
def frErr (f : Fr) : Nat :=
  if f.kind.toNat < 97 ∨ 122 < f.kind.toNat then 4 else if f.epoch < 0 ∨ 2147483648 < f.epoch ∨ f.seq < 0 ∨ 65536 ≤ f.seq ∨ 20000 < f.data.size then 2 else 0
theorem frErr_code (f : Fr) : frErr f = 0 ∨ frErr f = 4 ∨ frErr f = 2 := by
  unfold frErr
  split
  · simp
  · split <;> simp
theorem frErr_zero {f : Fr} (h : frErr f = 0) : (97 ≤ f.kind.toNat ∧ f.kind.toNat ≤ 122) ∧ (0 ≤ f.epoch ∧ f.epoch ≤ 2147483648) ∧ (0 ≤ f.seq ∧ f.seq < 65536) ∧ f.data.size ≤ 20000 := by
  unfold frErr at h
  split at h
  · cases h
  · split at h
    · cases h
    · omega
/-- A sum's four bytes, the lowest first. -/
def low4 (n : Nat) : List UInt8 := [UInt8.ofNat (n % 256), UInt8.ofNat (n / 256 % 256), UInt8.ofNat (n / 65536 % 256), UInt8.ofNat (n / 16777216)]
theorem low4_length (n : Nat) : (low4 n).length = 4 := rfl
theorem low4_inj {n m : Nat} (hn : n < 4294967296) (hm : m < 4294967296) (h : low4 n = low4 m) : n = m := by
  simp only [low4, List.cons.injEq, and_true] at h
  obtain ⟨h0, h1, h2, h3⟩ := h
  have t : ∀ a b, a < 256 → b < 256 → UInt8.ofNat a = UInt8.ofNat b → a = b := fun a b ha hb e => by
    have := congrArg UInt8.toNat e
    rwa [Go.Num.toNat_ofNat _ ha, Go.Num.toNat_ofNat _ hb] at this
  have k0 := t _ _ (by omega) (by omega) h0
  have k1 := t _ _ (by omega) (by omega) h1
  have k2 := t _ _ (by omega) (by omega) h2
  have k3 := t _ _ (by omega) (by omega) h3
  omega
/-- A frame's bytes but its sum; with its sum. -/
def bodyF (f : Fr) : List UInt8 := f.kind :: (Go.Num.enc f.epoch.toNat ++ (Go.Num.enc f.seq.toNat ++ (Go.Num.enc f.data.size ++ f.data.data.toList)))
def encF (f : Fr) : List UInt8 := bodyF f ++ low4 (crc 0 (bodyF f))
/-- What stands ahead of the sum. -/
def rdB (s : List UInt8) : Except Nat Fr :=
  match s with
  | [] => .error 1
  | k :: r =>
    match num r with
    | .error c => .error c
    | .ok (e, r1) =>
      match num r1 with
      | .error c => .error c
      | .ok (q, r2) =>
        match txt r2 with
        | .error c => .error c
        | .ok (d, r3) => if r3 = [] then (if frErr ⟨k, (e : Int), (q : Int), str d⟩ = 0 then .ok ⟨k, (e : Int), (q : Int), str d⟩ else .error (frErr ⟨k, (e : Int), (q : Int), str d⟩)) else .error 1
def rdF (s : List UInt8) : Except Nat Fr :=
  if s.length < 4 then .error 1 else if low4 (crc 0 (s.take (s.length - 4))) = s.drop (s.length - 4) then rdB (s.take (s.length - 4)) else .error 10
theorem rdB_body {f : Fr} (h : frErr f = 0) : rdB (bodyF f) = .ok f := by
  obtain ⟨_, h1, h2, h3⟩ := frErr_zero h
  obtain ⟨k, e, q, d⟩ := f
  simp only at h1 h2 h3
  obtain ⟨e, rfl⟩ := Int.eq_ofNat_of_zero_le h1.1
  obtain ⟨q, rfl⟩ := Int.eq_ofNat_of_zero_le h2.1
  unfold bodyF rdB
  simp only [Int.toNat_natCast]
  rw [num_enc _ (by omega)]
  simp only []
  rw [num_enc _ (by omega)]
  simp only []
  have ht := txt_enc d.data.toList [] (by rw [lenL]; exact h3)
  rw [List.append_nil, lenL] at ht
  rw [ht]
  simp only [if_true]
  have hs : str d.data.toList = d := ext_of_list (strL _)
  rw [hs, if_pos h]
theorem encF_parts (f : Fr) : (encF f).take ((encF f).length - 4) = bodyF f ∧ (encF f).drop ((encF f).length - 4) = low4 (crc 0 (bodyF f)) ∧ 4 ≤ (encF f).length := by
  have hl : (encF f).length - 4 = (bodyF f).length := by rw [encF, List.length_append, low4_length]; omega
  rw [hl]
  refine ⟨by rw [encF, List.take_left'  rfl], by rw [encF, List.drop_left' rfl], ?_⟩
  rw [encF, List.length_append, low4_length]
  omega
/-- A frame is read as it was written. -/
theorem rdF_enc {f : Fr} (h : frErr f = 0) : rdF (encF f) = .ok f := by
  obtain ⟨h1, h2, h3⟩ := encF_parts f
  rw [rdF, if_neg (by omega), h1, h2, if_pos rfl, rdB_body h]
theorem rdB_canon {s : List UInt8} {f : Fr} (h : rdB s = .ok f) : s = bodyF f ∧ frErr f = 0 := by
  unfold rdB at h
  split at h
  · cases h
  · rename_i k r
    split at h
    · cases h
    · rename_i e r1 h1
      split at h
      · cases h
      · rename_i q r2 h2
        split at h
        · cases h
        · rename_i d r3 h3
          split at h
          · rename_i hr
            subst hr
            split at h
            · rename_i hz
              cases h
              obtain ⟨e1, _⟩ := num_canon h1
              obtain ⟨e2, _⟩ := num_canon h2
              obtain ⟨e3, _⟩ := txt_canon h3
              refine ⟨?_, hz⟩
              rw [bodyF, e1, e2, e3]
              simp only [Int.toNat_natCast, str_len, strL, List.append_nil]
            · cases h
          · cases h
/-- What is read was written so. -/
theorem rdF_canon {s : List UInt8} {f : Fr} (h : rdF s = .ok f) : s = encF f ∧ frErr f = 0 := by
  unfold rdF at h
  split at h
  · cases h
  · split at h
    · rename_i hl hs
      obtain ⟨hb, hz⟩ := rdB_canon h
      refine ⟨?_, hz⟩
      rw [encF, ← hb, hs, List.take_append_drop]
    · cases h
/-- Two frames that are one text are one. -/
theorem encF_inj {f g : Fr} (hf : frErr f = 0) (hg : frErr g = 0) : encF f = encF g ↔ f = g := by
  constructor
  · intro h
    have h1 := rdF_enc hf
    rw [h, rdF_enc hg] at h1
    cases h1
    rfl
  · intro h; rw [h]
/-- What Encode answers: its text. -/
def encOut (f : Fr) : List UInt8 := if frErr f = 0 then encF f else []
/-- A text's error's number. -/
def rdOut (s : List UInt8) : Fr × Nat := match rdF s with | .ok f => (f, 0) | .error c => (⟨0, 0, 0, ⟨#[]⟩⟩, c)
/-- One bit turned: none. -/
theorem rdF_turned {f : Fr} {i : Nat} {d : UInt8} (hi : i < (encF f).length) (hd : (encF f)[i] ≠ d)
    (hc : ∀ (l : List UInt8) (j : Nat) (hj : j < l.length), l[j] ≠ d → crc 0 l ≠ crc 0 (l.set j d)) : rdF ((encF f).set i d) = .error 10 := by
  obtain ⟨h1, h2, h3⟩ := encF_parts f
  have hlb : (encF f).length - 4 = (bodyF f).length := by rw [encF, List.length_append, low4_length]; omega
  rw [rdF, List.length_set, if_neg (by omega), if_neg ?_]
  by_cases hb : i < (bodyF f).length
  · have e1 : ((encF f).set i d).take ((encF f).length - 4) = (bodyF f).set i d := by rw [List.take_set, h1]
    have e2 : ((encF f).set i d).drop ((encF f).length - 4) = low4 (crc 0 (bodyF f)) := by rw [List.drop_set_of_lt (by omega), h2]
    rw [e1, e2]
    intro e
    have hne : (bodyF f)[i] ≠ d := by
      have : (encF f)[i] = (bodyF f)[i] := by simp only [encF]; rw [List.getElem_append_left hb]
      rw [← this]; exact hd
    exact hc (bodyF f) i hb hne (low4_inj (crc_lt _ _ (by decide)) (crc_lt _ _ (by decide)) e).symm
  · have e1 : ((encF f).set i d).take ((encF f).length - 4) = bodyF f := by rw [List.take_set_of_le (by omega), h1]
    rw [e1, ← h2]
    intro e
    apply hd
    have hk : i - ((encF f).length - 4) < ((encF f).drop ((encF f).length - 4)).length := by rw [List.length_drop]; omega
    have e2 : ((encF f).drop ((encF f).length - 4))[i - ((encF f).length - 4)]? = (((encF f).set i d).drop ((encF f).length - 4))[i - ((encF f).length - 4)]? := by rw [e]
    rw [List.getElem?_drop, List.getElem?_drop, show (encF f).length - 4 + (i - ((encF f).length - 4)) = i by omega, List.getElem?_set_self hi, List.getElem?_eq_getElem hi] at e2
    exact Option.some.inj e2
end Go.Frame

namespace Go.Proofs.YtlmampcdflbifaeDoor
open Go.RowKit
open Go.Frame (Fr frErr low4 bodyF encF rdB rdF rdOut)

/-- A frame as a value. -/
abbrev frV (f : Fr) : Value := .agg #[.int .u8 f.kind.toNat, .int .i64 f.epoch, .int .i64 f.seq, .string f.data]
abbrev frC (f : Fr) : Array Value := #[.int .u8 f.kind.toNat, .int .i64 f.epoch, .int .i64 f.seq, .string f.data]

/-- Four cells that are a frame. -/
structure FrAt (p : Nat) (w : World) (f : Fr) : Prop where
  c0 : w.cell? ⟨p, 0, none⟩ = some (.int .u8 f.kind.toNat)
  c1 : w.cell? ⟨p, 1, none⟩ = some (.int .i64 f.epoch)
  c2 : w.cell? ⟨p, 2, none⟩ = some (.int .i64 f.seq)
  c3 : w.cell? ⟨p, 3, none⟩ = some (.string f.data)
  f0 : w.frozen? ⟨p, 0, none⟩ = false
  f1 : w.frozen? ⟨p, 1, none⟩ = false
  f2 : w.frozen? ⟨p, 2, none⟩ = false
  f3 : w.frozen? ⟨p, 3, none⟩ = false
  lt : p < w.heap.size
def zeroF : Fr := ⟨0, 0, 0, ⟨#[]⟩⟩
theorem FrAt.fresh (w : World) (f : Fr) (T : TypeId) : FrAt w.heap.size (w.alloc (.cells #[.int .u8 f.kind.toNat, .int .i64 f.epoch, .int .i64 f.seq, .string f.data] T)) f :=
  ⟨by simp, by simp, by simp, by simp, by simp, by simp, by simp, by simp, by simp⟩
theorem FrAt.below {p B : Nat} {w w' : World} {f : Fr} (h : FrAt p w f) (hb : Below B w w') (hp : p < B) : FrAt p w' f :=
  ⟨(hb.cell (p := ⟨p, 0, none⟩) hp).trans h.c0, (hb.cell (p := ⟨p, 1, none⟩) hp).trans h.c1, (hb.cell (p := ⟨p, 2, none⟩) hp).trans h.c2, (hb.cell (p := ⟨p, 3, none⟩) hp).trans h.c3, (hb.frozen (p := ⟨p, 0, none⟩) hp).trans h.f0, (hb.frozen (p := ⟨p, 1, none⟩) hp).trans h.f1, (hb.frozen (p := ⟨p, 2, none⟩) hp).trans h.f2, (hb.frozen (p := ⟨p, 3, none⟩) hp).trans h.f3, Nat.lt_of_lt_of_le h.lt hb.size⟩
theorem FrAt.set {p : Nat} {w : World} {g : Fr} (h : FrAt p w g) (f : Fr) : FrAt p ((((w.setCell ⟨p, 0, none⟩ (.int .u8 f.kind.toNat)).setCell ⟨p, 1, none⟩ (.int .i64 f.epoch)).setCell ⟨p, 2, none⟩ (.int .i64 f.seq)).setCell ⟨p, 3, none⟩ (.string f.data)) f := by
  obtain ⟨c0, c1, c2, c3, f0, f1, f2, f3, lt⟩ := h
  refine ⟨?_, ?_, ?_, ?_, by simpa using f0, by simpa using f1, by simpa using f2, by simpa using f3, by simpa using lt⟩
  · rw [World.cell?_setCell_other _ _ _ _ (by simp), World.cell?_setCell_other _ _ _ _ (by simp), World.cell?_setCell_other _ _ _ _ (by simp)]; exact World.cell?_setCell_same _ _ _ c0
  · rw [World.cell?_setCell_other _ _ _ _ (by simp), World.cell?_setCell_other _ _ _ _ (by simp)]; exact World.cell?_setCell_same _ _ _ (by rw [World.cell?_setCell_other _ _ _ _ (by simp)]; exact c1)
  · rw [World.cell?_setCell_other _ _ _ _ (by simp)]; exact World.cell?_setCell_same _ _ _ (by rw [World.cell?_setCell_other _ _ _ _ (by simp), World.cell?_setCell_other _ _ _ _ (by simp)]; exact c2)
  · exact World.cell?_setCell_same _ _ _ (by rw [World.cell?_setCell_other _ _ _ _ (by simp), World.cell?_setCell_other _ _ _ _ (by simp), World.cell?_setCell_other _ _ _ _ (by simp)]; exact c3)

theorem rdOut_err {s : List UInt8} {c : Nat} (h : rdF s = .error c) : rdOut s = (zeroF, c) := by unfold rdOut; rw [h]; rfl
theorem rdOut_ok {s : List UInt8} {f : Fr} (h : rdF s = .ok f) : rdOut s = (f, 0) := by unfold rdOut; rw [h]

theorem body_list (s : ByteArray) : (s.extract 0 (s.size - 4)).data.toList = s.data.toList.take (s.data.toList.length - 4) := by
  rw [extractL, lenL]; simp
theorem tail_list (s : ByteArray) : (s.extract (s.size - 4) s.size).data.toList = s.data.toList.drop (s.data.toList.length - 4) := by
  rw [extractL, lenL]
  exact List.take_of_length_le (by rw [List.length_drop, lenL]; omega)
theorem eqb_list (a b : ByteArray) : (a.toList == b.toList) = decide (a.data.toList = b.data.toList) := by
  rw [ByteArray.toList_eq, ByteArray.toList_eq, Bool.eq_iff_iff]; simp
end Go.Proofs.YtlmampcdflbifaeDoor

namespace Go.Proofs.YtlmampcdflbifaeDoor
open Go.RowKit

/-- Nil where there is no error. -/
structure NilOr (x : Value) (c : Nat) : Prop where
  none : c = 0 → x = .nilIface
  some : c ≠ 0 → ∃ t y, x = .iface t y
end Go.Proofs.YtlmampcdflbifaeDoor

namespace Go.Proofs.YtlmampcdflbifaeDoor
open Go.RowKit
open Go.Frame (Fr frErr encF encOut rdOut)

/-- Where it is asked no more than whether there is an error: Env: what the errors' variables hold. -/
structure FrameAll (Env : World → Prop) : Prop where
  encode : ∀ f W, f.data.size ≤ 1000000 → Env W → Calls Tryd.prog 6 #[frV f] W fun r w' => (∃ x, r = .returned (.tuple #[.string (str (encOut f)), x]) ∧ NilOr x (frErr f)) ∧ Below W.heap.size W w'
  decode : ∀ s W, s.size ≤ 1000000 → Env W → Calls Tryd.prog 7 #[.string s] W fun r w' => (∃ x, r = .returned (.tuple #[frV (rdOut s.data.toList).1, x]) ∧ NilOr x (rdOut s.data.toList).2) ∧ Below W.heap.size W w'

def fr0 : Fr := ⟨97, 1, 2, ⟨#[120, 121]⟩⟩
theorem fr0_ok : frErr fr0 = 0 := by decide
set_option maxRecDepth 100000 in
theorem fr0_enc : encOut fr0 = [97, 1, 2, 2, 120, 121, 111, 114, 184, 40] := by decide

set_option maxHeartbeats 1000000 in
set_option maxRecDepth 100000 in
/-- The closed fact. -/
theorem framed_ok (Env : World → Prop) (w : World) (hS : Env w) (hEB : ∀ w w', Env w → Below w.heap.size w w' → Env w') (hA : FrameAll Env) :
    Calls Tryd.prog 5 #[] w fun r w' => r = .returned (.bool true) ∧ Below w.heap.size w w' := by
  have HE := hide (hA.encode fr0 w (by decide) hS)
  have HD := hide (fun W (h : Env W) => hA.decode (str (encOut fr0)) W (by rw [fr0_enc]; decide) h)
  have hrd : rdOut (str (encOut fr0)).data.toList = (fr0, 0) := by
    rw [strL, encOut, if_pos fr0_ok]
    exact rdOut_ok (Go.Frame.rdF_enc fr0_ok)
  rw [hrd] at HD
  rw [fr0_ok] at HE
  have hz : ((str (encOut fr0)).size : Int) = 10 := by rw [fr0_enc]; rfl
  have hx : (str (encOut fr0)).extract 0 6 = ⟨#[97, 1, 2, 2, 120, 121]⟩ := by rw [fr0_enc]; rfl
  have HV := hide (fun w' hb => hEB w w' hS hb)
  generalize str (encOut fr0) = S at *
  simp only [frV, fr0] at HE HD
  rw [show ((97 : UInt8).toNat : Int) = 97 from rfl] at HE HD
  clear hS hEB hA hrd
  go_enter Tryd.func5, Tryd.ntmps5
  go_wp2_with fail
  refine HE.out.mono ?_
  rintro r w1 ⟨⟨x1, rfl, hx1⟩, hb1⟩
  obtain rfl := hx1.none rfl
  have Hb1 := hide hb1
  clear hb1 hx1 HE
  go_wp2_with fail
  refine (HD.out _ (HV.out _ Hb1.out)).mono ?_
  rintro r w2 ⟨⟨x2, rfl, hx2⟩, hb2⟩
  obtain rfl := hx2.none rfl
  have Hb2 := hide (bthen Hb1.out hb2)
  clear hb2 hx2 HD
  have Hb3 := hide (Hb2.out.alloc Hb2.out.size (.cells #[.int .u8 97, .int .i64 1, .int .i64 2, .string ⟨#[120, 121]⟩] 25))
  have hz6 : (6 : Int) ≤ S.size := by omega
  go_wp2
  go_ret
  exact ⟨rfl, Hb3.out⟩
end Go.Proofs.YtlmampcdflbifaeDoor
