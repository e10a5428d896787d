/-
  Plain mathematics of signatures: blocks, what is wrong with a list of them, their bytes and how they are read. No program, no walk.
-/
import Derived.Test.YtgogjncamjbajacDoorMath
namespace Go.Sign
open Go.Num

/-- A block: how many bytes, and both sums. -/
structure Blk where
  n : Int
  weak : Int
  strong : Nat
deriving DecidableEq, Inhabited

/-- May it stand there? -/
def fits (size : Int) (last : Bool) (b : Blk) : Bool :=
  (b.n == size || (last && decide (1 ≤ b.n) && decide (b.n < size))) && (decide (0 ≤ b.weak) && decide (b.weak < 4294967296))

/-- The first wrong one, from place i on, with so many bytes ahead: its place and an error's number. -/
def scanW (size : Int) : List Blk → Nat → Int → Option (Nat × Nat)
  | [], _, _ => none
  | b :: r, i, all => if fits size r.isEmpty b then (if 4000 < all + b.n then some (i, 8) else scanW size r (i + 1) (all + b.n)) else some (i, 2)

/-- An error's number (0: none) and its place (-1: nowhere). -/
def fault (l : List Blk) (size : Int) : Nat × Int :=
  if 1 ≤ size ∧ size ≤ 64 then (match scanW size l 0 0 with | none => (0, -1) | some (i, c) => (c, i)) else (2, -1)

theorem fits_bounds {size : Int} {last : Bool} {b : Blk} (h : fits size last b = true) (h1 : 1 ≤ size) : 1 ≤ b.n ∧ b.n ≤ size ∧ 0 ≤ b.weak ∧ b.weak < 4294967296 := by
  simp only [fits, Bool.and_eq_true, Bool.or_eq_true, beq_iff_eq, decide_eq_true_eq] at h
  obtain ⟨h | h, h2, h3⟩ := h <;> omega

/-- Of right blocks each is right, and they are no more than their bytes. -/
theorem scanW_none {size : Int} (h1 : 1 ≤ size) : ∀ (l : List Blk) (i : Nat) (all : Int), scanW size l i all = none → 
    (∀ b ∈ l, 1 ≤ b.n ∧ b.n ≤ size ∧ 0 ≤ b.weak ∧ b.weak < 4294967296) ∧ (l ≠ [] → all + l.length ≤ 4000)
  | [], _, _, _ => ⟨fun b hb => (by cases hb), fun h => absurd rfl h⟩
  | b :: r, i, all, h => by
    rw [scanW] at h
    split at h
    · rename_i hf
      split at h
      · cases h
      · rename_i hn
        have hb := fits_bounds hf h1
        have ⟨a1, a2⟩ := scanW_none h1 r (i + 1) (all + b.n) h
        refine ⟨fun x hx => ?_, fun _ => ?_⟩
        · rcases List.mem_cons.1 hx with rfl | hx
          · exact hb
          · exact a1 x hx
        · cases r with
          | nil => simp; omega
          | cons c r => have := a2 (by simp); simp at this ⊢; omega
    · cases h

/-- What is wrong is ErrBound or ErrFull. -/
theorem scanW_code {size : Int} : ∀ (l : List Blk) (i : Nat) (all : Int) (k c : Nat), scanW size l i all = some (k, c) → (c = 2 ∨ c = 8) ∧ k < i + l.length
  | [], _, _, _, _, h => by cases h
  | b :: r, i, all, k, c, h => by
    rw [scanW] at h
    split at h
    · split at h
      · cases h; simp
      · have := scanW_code r _ _ _ _ h; simp; omega
    · cases h; simp

theorem fault_zero {l : List Blk} {size : Int} (h : (fault l size).1 = 0) : (1 ≤ size ∧ size ≤ 64) ∧ scanW size l 0 0 = none := by
  unfold fault at h
  split at h
  · rename_i hs
    refine ⟨hs, ?_⟩
    split at h
    · assumption
    · rename_i i c hc
      have : c ≠ 0 := by rcases (scanW_code _ _ _ _ _ hc).1 with rfl | rfl <;> decide
      exact absurd h this
  · cases h

/-! ### Bytes -/
def encB (b : Blk) : List UInt8 := enc b.n.toNat ++ enc b.weak.toNat ++ enc b.strong
def encBs (l : List Blk) : List UInt8 := (l.map encB).flatten
theorem encBs_cons (b : Blk) (l : List Blk) : encBs (b :: l) = encB b ++ encBs l := by simp [encBs]
theorem encBs_snoc (l : List Blk) (b : Blk) : encBs (l ++ [b]) = encBs l ++ encB b := by simp [encBs]
def encS (l : List Blk) (size : Nat) : List UInt8 := enc size ++ enc l.length ++ encBs l
theorem encB_length (b : Blk) : (encB b).length ≤ 18 := by
  have := enc_length_le b.n.toNat; have := enc_length_le b.weak.toNat; have := enc_length_le b.strong
  simp [encB]; omega
theorem encBs_length (l : List Blk) : (encBs l).length ≤ 18 * l.length := by
  induction l with
  | nil => simp [encBs]
  | cons b l ih => rw [encBs_cons, List.length_append, List.length_cons]; have := encB_length b; omega

/-! ### Reading -/
/-- A number, and what is left. -/
def num (s : List UInt8) : Except Nat (Nat × List UInt8) :=
  match dec s with
  | .ok (n, k) => .ok (n, s.drop k)
  | .error c => .error c
def rdB (s : List UInt8) : Except Nat (Blk × List UInt8) :=
  match num s with
  | .error c => .error c
  | .ok (a, s1) =>
    match num s1 with
    | .error c => .error c
    | .ok (b, s2) =>
      match num s2 with
      | .error c => .error c
      | .ok (c, s3) => if 4294967295 < c then .error 1 else .ok (⟨a, b, c⟩, s3)
def rdBs : Nat → List UInt8 → Except Nat (List Blk × List UInt8)
  | 0, s => .ok ([], s)
  | k + 1, s =>
    match rdB s with
    | .error c => .error c
    | .ok (b, s1) =>
      match rdBs k s1 with
      | .error c => .error c
      | .ok (l, s2) => .ok (b :: l, s2)
/-- Just these bytes, but not looked at. -/
def rdAll (s : List UInt8) : Except Nat (List Blk × Nat) :=
  match num s with
  | .error c => .error c
  | .ok (size, s1) =>
    match num s1 with
    | .error c => .error c
    | .ok (many, s2) =>
      match rdBs many s2 with
      | .error c => .error c
      | .ok (l, s3) => if s3 = [] then .ok (l, size) else .error 1
def rdS (s : List UInt8) : Except Nat (List Blk × Nat) :=
  match rdAll s with
  | .error c => .error c
  | .ok (l, size) => if (fault l size).1 = 0 then .ok (l, size) else .error (fault l size).1

theorem num_enc (n : Nat) (h : n ≤ 1099511627776) (more : List UInt8) : num (enc n ++ more) = .ok (n, more) := by
  rw [num, dec_enc n h more]
  simp
theorem rdB_enc (b : Blk) (more : List UInt8) (h0 : 0 ≤ b.n) (h1 : b.n ≤ 64) (h2 : 0 ≤ b.weak) (h3 : b.weak < 4294967296) (h4 : b.strong < 4294967296) : rdB (encB b ++ more) = .ok (b, more) := by
  have e : encB b ++ more = enc b.n.toNat ++ (enc b.weak.toNat ++ (enc b.strong ++ more)) := by simp [encB]
  rw [e, rdB, num_enc _ (by omega)]
  simp only []
  rw [num_enc _ (by omega)]
  simp only []
  rw [num_enc _ (by omega)]
  simp only []
  rw [if_neg (by omega)]
  have e1 : (b.n.toNat : Int) = b.n := by omega
  have e2 : (b.weak.toNat : Int) = b.weak := by omega
  rw [e1, e2]
theorem rdBs_enc (l : List Blk) (more : List UInt8) (h : ∀ b ∈ l, (0 ≤ b.n ∧ b.n ≤ 64) ∧ (0 ≤ b.weak ∧ b.weak < 4294967296) ∧ b.strong < 4294967296) : rdBs l.length (encBs l ++ more) = .ok (l, more) := by
  induction l with
  | nil => simp [rdBs, encBs]
  | cons b l ih =>
    obtain ⟨⟨h0, h1⟩, ⟨h2, h3⟩, h4⟩ := h b (List.mem_cons_self ..)
    rw [encBs_cons, List.append_assoc, List.length_cons, rdBs, rdB_enc b _ h0 h1 h2 h3 h4]
    simp only []
    rw [ih fun x hx => h x (List.mem_cons_of_mem _ hx)]
/-- A signature is read as it was written. -/
theorem rdS_enc (l : List Blk) (size : Nat) (hf : (fault l size).1 = 0) (h : ∀ b ∈ l, b.strong < 4294967296) : rdS (encS l size) = .ok (l, size) := by
  obtain ⟨hs, hn⟩ := fault_zero hf
  have ⟨h1, h2⟩ := scanW_none hs.1 l 0 0 hn
  have hl : l.length ≤ 4000 := by
    cases l with
    | nil => simp
    | cons b l => have := h2 (by simp); omega
  have e : encS l size = enc size ++ (enc l.length ++ (encBs l ++ [])) := by simp [encS]
  have : rdAll (encS l size) = .ok (l, size) := by
    rw [e, rdAll, num_enc _ (by omega)]
    simp only []
    rw [num_enc _ (by omega)]
    simp only []
    rw [rdBs_enc l [] fun b hb => ⟨⟨by have := h1 b hb; omega, by have := h1 b hb; omega⟩, ⟨(h1 b hb).2.2.1, (h1 b hb).2.2.2⟩, h b hb⟩]
    simp
  rw [rdS, this]
  simp only [hf, if_true]

/-! ### One block more -/
/-- Blocks that were read already, ahead of what is read from here. -/
def ahead (l : List Blk) : Except Nat (List Blk × List UInt8) → Except Nat (List Blk × List UInt8)
  | .error c => .error c
  | .ok (m, s) => .ok (l ++ m, s)
theorem ahead_nil (x : Except Nat (List Blk × List UInt8)) : ahead [] x = x := by
  cases x with
  | error c => rfl
  | ok p => obtain ⟨m, s⟩ := p; rfl
theorem ahead_ok {l : List Blk} {k : Nat} {s s1 : List UInt8} {b : Blk} (h : rdB s = .ok (b, s1)) : ahead l (rdBs (k + 1) s) = ahead (l ++ [b]) (rdBs k s1) := by
  rw [rdBs, h]
  simp only []
  cases rdBs k s1 with
  | error c => rfl
  | ok p => obtain ⟨m, s⟩ := p; simp [ahead]
theorem ahead_error {l : List Blk} {k : Nat} {s : List UInt8} {c : Nat} (h : rdB s = .error c) : ahead l (rdBs (k + 1) s) = .error c := by
  rw [rdBs, h]; rfl
end Go.Sign
