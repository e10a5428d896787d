/-
  ErrBound's variable in the program's table; what an error made by errors.New is made of.
  Small facts that every text of ours uses.
  Plain mathematics of numbers as bytes: 'enc' (seven bits a byte, the lowest first) and 'scan' (the reader's loop), and that what was written is read back, whatever stands behind. No program, no walk.
  Plain mathematics of signatures: blocks, what is wrong with a list of them, their bytes and how they are read. No program, no walk.
  Plain mathematics of deltas: ops, what is wrong with one, their bytes and how they are read, and the ops that a file comes to. No program, no walk.
-/
import Derived.Test.YtlmampcdflbifaeDoorRows
import Derived.Test.YtlmampcdflbifaeDoorChecked
import Derived.ProofKit
import Derived.LaidMore
import Derived.OpenShut
import Derived.ShutString
import Derived.Stop.LaidErr
import Derived.Stop.Joined
import Derived.WalkKit
import Derived.WalkSpells
import Derived.Handy
import Derived.OwnWalk
namespace Go.Proofs.YtlmampcdflbifaeDoor
open Go.ChangeShapes Go.WideShapes Go.ChangeAt Go.RowKit

theorem Tryd.own : ownKnob Tryd.prog.godebug = none := by kernel_rfl
theorem Tryd.gBound : Tryd.prog.globalNamed "packhorse/api.ErrBound" = some 1 := by kernel_rfl
theorem Tryd.tBound : (Tryd.prog.globals[1]?).map (·.type) = some 27 := by kernel_rfl
theorem Tryd.cells118 : Tryd.prog.cellsOf 118 = 1 := by kernel_rfl
theorem Tryd.cells9 : Tryd.prog.cellsOf 9 = 1 := by kernel_rfl
theorem starErr : "*" ++ "errors.errorString" = "*errors.errorString" := by decide
theorem Tryd.row99 (u : TypeId) (h : Tryd.prog.typeName? 3 u = some "*errors.errorString") : u = 99 :=
  typeName_ptr_named (nm := "errors.errorString") (by rw [starErr]; kernel_rfl) (by kernel_rfl) (by decide) u (by rw [starErr]; exact h)
end Go.Proofs.YtlmampcdflbifaeDoor

namespace Go.Proofs.YtlmampcdflbifaeDoor
open Go.RowKit

theorem iwrap_id (x : Int) (h0 : -9223372036854775808 ≤ x) (h1 : x ≤ 9223372036854775807) : IntKind.i64.wrap x = x := by rw [IntKind.wrap_i64]; omega
theorem hide {p : Prop} (h : p) : Hid p := h
theorem bthen {w w1 w2 : World} (h : Below w.heap.size w w1) (k : Below w1.heap.size w1 w2) : Below w.heap.size w w2 := h.trans (k.mono h.size)
theorem ret_bool {a b : Bool} (h : a = b) : Ending.returned (.bool a) = .returned (.bool b) := by rw [h]
theorem ret_int {a b : Int} (h : a = b) : Ending.returned (.int .i64 a) = .returned (.int .i64 b) := by rw [h]
theorem lenL (s : ByteArray) : s.data.toList.length = s.size := by rw [Array.length_toList]; rfl
theorem getL (s : ByteArray) (j : Nat) (h : j < s.size) : s.data.toList[j]? = some s[j] := by
  rw [List.getElem?_eq_getElem (by rw [lenL]; exact h)]; rfl
theorem atL (s : ByteArray) (j : Nat) (h : j < s.size) : s.data.toList[j]'(by rw [lenL]; exact h) = s[j] := rfl
theorem dropL (s : ByteArray) (j : Nat) (h : j < s.size) : s.data.toList.drop j = s[j] :: s.data.toList.drop (j + 1) :=
  List.drop_eq_getElem_cons (by rw [lenL]; exact h)
theorem takeL (s : ByteArray) (j : Nat) (h : j < s.size) : s.data.toList.take (j + 1) = s.data.toList.take j ++ [s[j]] :=
  List.take_succ_eq_append_getElem (by rw [lenL]; exact h)
theorem u8_bounds {a : Int} (h : (Lit.int .u8 a).wf = true) : 0 ≤ a ∧ a < 256 := by
  simp only [Lit.wf, Bool.and_eq_true, decide_eq_true_eq] at h
  have h1 : IntKind.u8.min = 0 := rfl
  have h2 : IntKind.u8.max = 255 := rfl
  omega
theorem byte_lt (b : UInt8) : b.toNat < 256 := b.toNat_lt
/-- A part of a text, as a list. -/
theorem extractL (s : ByteArray) (i j : Nat) : (s.extract i j).data.toList = (s.data.toList.drop i).take (j - i) := by
  rw [ByteArray.data_extract, Array.toList_extract, List.extract_eq_take_drop]
theorem appendL (s t : ByteArray) : (s ++ t).data.toList = s.data.toList ++ t.data.toList := by
  rw [ByteArray.data_append, Array.toList_append]
theorem ext_of_list {a b : ByteArray} (h : a.data.toList = b.data.toList) : a = b := by
  apply ByteArray.ext
  exact Array.toList_inj.1 h
theorem bytes_ext {a b : ByteArray} (h : a.toList = b.toList) : a = b := by
  rw [ByteArray.toList_eq, ByteArray.toList_eq] at h
  exact ByteArray.ext (Array.ext' h)
def str (l : List UInt8) : ByteArray := ⟨l.toArray⟩
theorem strL (l : List UInt8) : (str l).data.toList = l := by simp [str]
theorem str_len (l : List UInt8) : (str l).size = l.length := by rw [← lenL, strL]
theorem str_app (a b : List UInt8) : str a ++ str b = str (a ++ b) := by
  apply ByteArray.ext
  rw [ByteArray.data_append]
  simp [str]
/-- A row of one element or more is no nil. -/
theorem own_form {w : World} {base : Nat} {e : TypeId} {size : Nat} {v : Value} {n : Nat} {xs : List Value} (h : w.ownsRow base e size v (n + 1) xs) : ∃ g c, v = .slice (some ⟨g, 0, none⟩) (n + 1) c := by
  rcases h.2 with ⟨_, h⟩ | ⟨g, c, _, h, _⟩
  · omega
  · exact ⟨g, c, h⟩
/-- Nil, or written out. -/
theorem own_forms {w : World} {base size n : Nat} {e : TypeId} {v : Value} {xs : List Value} (h : w.ownsRow base e size v n xs) : (v = .slice none 0 0 ∧ n = 0) ∨ ∃ g c, v = .slice (some ⟨g, 0, none⟩) n c := by
  rcases h.2 with h0 | ⟨g, c, _, hv, _⟩
  · exact Or.inl h0
  · exact Or.inr ⟨g, c, hv⟩
theorem own_mono {w : World} {b b' : Nat} {e : TypeId} {size : Nat} {v : Value} {n : Nat} {xs : List Value} (h : w.ownsRow b e size v n xs) (hb : b' ≤ b) : w.ownsRow b' e size v n xs := by
  rcases h with ⟨h1, h2 | ⟨g, c, cur, e1, e2, e3⟩⟩
  · exact ⟨h1, Or.inl h2⟩
  · exact ⟨h1, Or.inr ⟨g, c, cur, e1, Nat.le_trans hb e2, e3⟩⟩

theorem own_below {w w' : World} {b : Nat} {e : TypeId} {size : Nat} {v : Value} {n : Nat} {xs : List Value} (h : w.ownsRow b e size v n xs) (hb : Below w.heap.size w w') : w'.ownsRow b e size v n xs := by
  rcases h with ⟨h1, h2 | ⟨g, c, cur, e1, e2, e3, e4⟩⟩
  · exact ⟨h1, Or.inl h2⟩
  · refine ⟨h1, Or.inr ⟨g, c, cur, e1, e2, (hb.block g ?_).trans e3, e4⟩⟩
    rcases Nat.lt_or_ge g w.heap.size with h | h
    · exact h
    · rw [Array.getElem?_eq_none h] at e3; cases e3
end Go.Proofs.YtlmampcdflbifaeDoor

namespace Go.Num

/-- The bytes of n, with fuel: at most k + 1 bytes. -/
def encF : Nat → Nat → List UInt8
  | 0, n => [UInt8.ofNat n]
  | k + 1, n => if n < 128 then [UInt8.ofNat n] else UInt8.ofNat (n % 128 + 128) :: encF k (n / 128)
def enc (n : Nat) : List UInt8 := encF 5 n

theorem encF_length_pos (k n : Nat) : 0 < (encF k n).length := by
  cases k with
  | zero => simp [encF]
  | succ k => unfold encF; split <;> simp

theorem encF_length_le (k n : Nat) : (encF k n).length ≤ k + 1 := by
  induction k generalizing n with
  | zero => simp [encF]
  | succ k ih => unfold encF; split
                 · simp
                 · have := ih (n / 128); simp; omega

theorem enc_length_le (n : Nat) : (enc n).length ≤ 6 := encF_length_le 5 n

/-- A small number is one byte, whatever the fuel. -/
theorem encF_small (k n : Nat) (h : n < 128) : encF k n = [UInt8.ofNat n] := by
  cases k with
  | zero => rfl
  | succ k => unfold encF; rw [if_pos h]
theorem encF_big (k n : Nat) (h : 128 ≤ n) : encF (k + 1) n = UInt8.ofNat (n % 128 + 128) :: encF k (n / 128) := by
  rw [encF, if_neg (by omega)]

theorem toNat_ofNat (n : Nat) (h : n < 256) : (UInt8.ofNat n).toNat = n := by
  rw [UInt8.toNat_ofNat']; omega

/-- The reader's loop: fuel, what is left, the sum so far, the place. Answers the number and the last byte's place. -/
def scan : Nat → List UInt8 → Nat → Nat → Option (Nat × Nat)
  | 0, _, _, _ => none
  | _ + 1, [], _, _ => none
  | k + 1, b :: r, acc, i => if b.toNat < 128 then some (acc + b.toNat % 128 * 128 ^ i, i) else scan k r (acc + b.toNat % 128 * 128 ^ i) (i + 1)

theorem scan_enc (k : Nat) : ∀ (n acc i : Nat) (more : List UInt8), n < 128 ^ (k + 1) →
    scan (k + 1) (encF k n ++ more) acc i = some (acc + n * 128 ^ i, i + (encF k n).length - 1) := by
  induction k with
  | zero =>
    intro n acc i more h
    have h' : n < 128 := by simpa using h
    simp [encF, scan, toNat_ofNat n (by omega), h', Nat.mod_eq_of_lt h']
  | succ k ih =>
    intro n acc i more h
    by_cases hn : n < 128
    · rw [encF_small _ _ hn]
      simp [scan, toNat_ofNat n (by omega), hn, Nat.mod_eq_of_lt hn]
    · rw [encF_big _ _ (by omega)]
      have hb : (UInt8.ofNat (n % 128 + 128)).toNat = n % 128 + 128 := toNat_ofNat _ (by omega)
      have hd : n / 128 < 128 ^ (k + 1) := by
        rw [Nat.div_lt_iff_lt_mul (by omega)]
        rw [Nat.pow_succ] at h; exact h
      rw [List.cons_append, scan, hb, if_neg (by omega), ih _ _ _ _ hd]
      have e1 : (n % 128 + 128) % 128 = n % 128 := by omega
      have e2 : n = n % 128 + 128 * (n / 128) := by omega
      have hp := encF_length_pos k (n / 128)
      rw [e1, Nat.pow_succ]
      congr 2
      · generalize 128 ^ i = p
        conv => rhs; rw [e2]
        rw [Nat.add_mul, Nat.add_assoc]
        congr 2
        rw [Nat.mul_comm p 128, ← Nat.mul_assoc, Nat.mul_comm (n / 128) 128]
      · simp

theorem encF_last (k : Nat) : ∀ n, n < 128 ^ (k + 1) → 0 < n → (encF k n)[(encF k n).length - 1]? ≠ some 0 := by
  induction k with
  | zero =>
    intro n h hn
    have h' : n < 128 := by simpa using h
    simp only [encF, List.length_singleton, Nat.sub_self]
    intro e
    have e' : UInt8.ofNat n = 0 := by simpa using e
    have := toNat_ofNat n (by omega)
    rw [e'] at this
    simp at this; omega
  | succ k ih =>
    intro n h hn
    by_cases hs : n < 128
    · rw [encF_small _ _ hs]
      intro e
      have e' : UInt8.ofNat n = 0 := by simpa using e
      have := toNat_ofNat n (by omega)
      rw [e'] at this
      simp at this; omega
    · rw [encF_big _ _ (by omega)]
      have hd : n / 128 < 128 ^ (k + 1) := by
        rw [Nat.div_lt_iff_lt_mul (by omega)]
        rw [Nat.pow_succ] at h; exact h
      have hp := encF_length_pos k (n / 128)
      have := ih (n / 128) hd (by omega)
      have e : (UInt8.ofNat (n % 128 + 128) :: encF k (n / 128)).length - 1 = ((encF k (n / 128)).length - 1) + 1 := by simp; omega
      rw [e, List.getElem?_cons_succ]
      exact this

/-- What Get answers: an error's number, or the number and how many bytes it took. -/
def dec (s : List UInt8) : Except Nat (Nat × Nat) :=
  match scan 6 s 0 0 with
  | none => .error 1
  | some (n, i) => if 0 < i ∧ s[i]? = some 0 then .error 1 else if 1099511627776 < n then .error 2 else .ok (n, i + 1)

theorem dec_enc (n : Nat) (h : n ≤ 1099511627776) (more : List UInt8) : dec (enc n ++ more) = .ok (n, (enc n).length) := by
  have hs := scan_enc 5 n 0 0 more (by omega)
  have hp := encF_length_pos 5 n
  unfold dec enc
  rw [hs]
  have hz : ¬ (0 < 0 + (encF 5 n).length - 1 ∧ (encF 5 n ++ more)[0 + (encF 5 n).length - 1]? = some 0) := by
    rintro ⟨h1, h2⟩
    rw [Nat.zero_add] at h1 h2
    rw [List.getElem?_append_left (by omega)] at h2
    refine encF_last 5 n (by omega) ?_ h2
    rcases Nat.eq_zero_or_pos n with e | e
    · subst e; exact absurd h1 (by decide)
    · exact e
  simp only [if_neg hz]
  rw [if_neg (by omega)]
  simp
  omega

/-- No number's bytes begin another one's. -/
theorem enc_prefix (n m : Nat) (hn : n ≤ 1099511627776) (hm : m ≤ 1099511627776) (h : (enc m).take (enc n).length = enc n) : n = m := by
  have e : enc m = enc n ++ (enc m).drop (enc n).length := by
    conv => lhs; rw [← List.take_append_drop (enc n).length (enc m)]
    rw [h]
  have h1 := dec_enc m hm []
  rw [List.append_nil, e, dec_enc n hn] at h1
  simp at h1
  exact h1.1

end Go.Num

namespace Go.Sign
open Go.Num

/-- A block: how many bytes, and both sums. -/
structure Blk where
  n : Int
  weak : Int
  strong : Nat
deriving DecidableEq, Inhabited

/-- May it stand there? -/
def fits (size : Int) (last : Bool) (b : Blk) : Bool :=
  (b.n == size || (last && decide (1 ≤ b.n) && decide (b.n < size))) && (decide (0 ≤ b.weak) && decide (b.weak < 4294967296))

/-- The first wrong one, from place i on, with so many bytes ahead: its place and an error's number. -/
def scanW (size : Int) : List Blk → Nat → Int → Option (Nat × Nat)
  | [], _, _ => none
  | b :: r, i, all => if fits size r.isEmpty b then (if 4000 < all + b.n then some (i, 8) else scanW size r (i + 1) (all + b.n)) else some (i, 2)

/-- An error's number (0: none) and its place (-1: nowhere). -/
def fault (l : List Blk) (size : Int) : Nat × Int :=
  if 1 ≤ size ∧ size ≤ 64 then (match scanW size l 0 0 with | none => (0, -1) | some (i, c) => (c, i)) else (2, -1)

theorem fits_bounds {size : Int} {last : Bool} {b : Blk} (h : fits size last b = true) (h1 : 1 ≤ size) : 1 ≤ b.n ∧ b.n ≤ size ∧ 0 ≤ b.weak ∧ b.weak < 4294967296 := by
  simp only [fits, Bool.and_eq_true, Bool.or_eq_true, beq_iff_eq, decide_eq_true_eq] at h
  obtain ⟨h | h, h2, h3⟩ := h <;> omega

/-- Of right blocks each is right, and they are no more than their bytes. -/
theorem scanW_none {size : Int} (h1 : 1 ≤ size) : ∀ (l : List Blk) (i : Nat) (all : Int), scanW size l i all = none → 
    (∀ b ∈ l, 1 ≤ b.n ∧ b.n ≤ size ∧ 0 ≤ b.weak ∧ b.weak < 4294967296) ∧ (l ≠ [] → all + l.length ≤ 4000)
  | [], _, _, _ => ⟨fun b hb => (by cases hb), fun h => absurd rfl h⟩
  | b :: r, i, all, h => by
    rw [scanW] at h
    split at h
    · rename_i hf
      split at h
      · cases h
      · rename_i hn
        have hb := fits_bounds hf h1
        have ⟨a1, a2⟩ := scanW_none h1 r (i + 1) (all + b.n) h
        refine ⟨fun x hx => ?_, fun _ => ?_⟩
        · rcases List.mem_cons.1 hx with rfl | hx
          · exact hb
          · exact a1 x hx
        · cases r with
          | nil => simp; omega
          | cons c r => have := a2 (by simp); simp at this ⊢; omega
    · cases h

/-- What is wrong is ErrBound or ErrFull. -/
theorem scanW_code {size : Int} : ∀ (l : List Blk) (i : Nat) (all : Int) (k c : Nat), scanW size l i all = some (k, c) → (c = 2 ∨ c = 8) ∧ k < i + l.length
  | [], _, _, _, _, h => by cases h
  | b :: r, i, all, k, c, h => by
    rw [scanW] at h
    split at h
    · split at h
      · cases h; simp
      · have := scanW_code r _ _ _ _ h; simp; omega
    · cases h; simp

theorem fault_zero {l : List Blk} {size : Int} (h : (fault l size).1 = 0) : (1 ≤ size ∧ size ≤ 64) ∧ scanW size l 0 0 = none := by
  unfold fault at h
  split at h
  · rename_i hs
    refine ⟨hs, ?_⟩
    split at h
    · assumption
    · rename_i i c hc
      have : c ≠ 0 := by rcases (scanW_code _ _ _ _ _ hc).1 with rfl | rfl <;> decide
      exact absurd h this
  · cases h

/-! ### Bytes -/
def encB (b : Blk) : List UInt8 := enc b.n.toNat ++ enc b.weak.toNat ++ enc b.strong
def encBs (l : List Blk) : List UInt8 := (l.map encB).flatten
theorem encBs_cons (b : Blk) (l : List Blk) : encBs (b :: l) = encB b ++ encBs l := by simp [encBs]
theorem encBs_snoc (l : List Blk) (b : Blk) : encBs (l ++ [b]) = encBs l ++ encB b := by simp [encBs]
def encS (l : List Blk) (size : Nat) : List UInt8 := enc size ++ enc l.length ++ encBs l
theorem encB_length (b : Blk) : (encB b).length ≤ 18 := by
  have := enc_length_le b.n.toNat; have := enc_length_le b.weak.toNat; have := enc_length_le b.strong
  simp [encB]; omega
theorem encBs_length (l : List Blk) : (encBs l).length ≤ 18 * l.length := by
  induction l with
  | nil => simp [encBs]
  | cons b l ih => rw [encBs_cons, List.length_append, List.length_cons]; have := encB_length b; omega

/-! ### Reading -/
/-- A number, and what is left. -/
def num (s : List UInt8) : Except Nat (Nat × List UInt8) :=
  match dec s with
  | .ok (n, k) => .ok (n, s.drop k)
  | .error c => .error c
def rdB (s : List UInt8) : Except Nat (Blk × List UInt8) :=
  match num s with
  | .error c => .error c
  | .ok (a, s1) =>
    match num s1 with
    | .error c => .error c
    | .ok (b, s2) =>
      match num s2 with
      | .error c => .error c
      | .ok (c, s3) => if 4294967295 < c then .error 1 else .ok (⟨a, b, c⟩, s3)
def rdBs : Nat → List UInt8 → Except Nat (List Blk × List UInt8)
  | 0, s => .ok ([], s)
  | k + 1, s =>
    match rdB s with
    | .error c => .error c
    | .ok (b, s1) =>
      match rdBs k s1 with
      | .error c => .error c
      | .ok (l, s2) => .ok (b :: l, s2)
/-- Just these bytes, but not looked at. -/
def rdAll (s : List UInt8) : Except Nat (List Blk × Nat) :=
  match num s with
  | .error c => .error c
  | .ok (size, s1) =>
    match num s1 with
    | .error c => .error c
    | .ok (many, s2) =>
      match rdBs many s2 with
      | .error c => .error c
      | .ok (l, s3) => if s3 = [] then .ok (l, size) else .error 1
def rdS (s : List UInt8) : Except Nat (List Blk × Nat) :=
  match rdAll s with
  | .error c => .error c
  | .ok (l, size) => if (fault l size).1 = 0 then .ok (l, size) else .error (fault l size).1

theorem num_enc (n : Nat) (h : n ≤ 1099511627776) (more : List UInt8) : num (enc n ++ more) = .ok (n, more) := by
  rw [num, dec_enc n h more]
  simp
theorem rdB_enc (b : Blk) (more : List UInt8) (h0 : 0 ≤ b.n) (h1 : b.n ≤ 64) (h2 : 0 ≤ b.weak) (h3 : b.weak < 4294967296) (h4 : b.strong < 4294967296) : rdB (encB b ++ more) = .ok (b, more) := by
  have e : encB b ++ more = enc b.n.toNat ++ (enc b.weak.toNat ++ (enc b.strong ++ more)) := by simp [encB]
  rw [e, rdB, num_enc _ (by omega)]
  simp only []
  rw [num_enc _ (by omega)]
  simp only []
  rw [num_enc _ (by omega)]
  simp only []
  rw [if_neg (by omega)]
  have e1 : (b.n.toNat : Int) = b.n := by omega
  have e2 : (b.weak.toNat : Int) = b.weak := by omega
  rw [e1, e2]
theorem rdBs_enc (l : List Blk) (more : List UInt8) (h : ∀ b ∈ l, (0 ≤ b.n ∧ b.n ≤ 64) ∧ (0 ≤ b.weak ∧ b.weak < 4294967296) ∧ b.strong < 4294967296) : rdBs l.length (encBs l ++ more) = .ok (l, more) := by
  induction l with
  | nil => simp [rdBs, encBs]
  | cons b l ih =>
    obtain ⟨⟨h0, h1⟩, ⟨h2, h3⟩, h4⟩ := h b (List.mem_cons_self ..)
    rw [encBs_cons, List.append_assoc, List.length_cons, rdBs, rdB_enc b _ h0 h1 h2 h3 h4]
    simp only []
    rw [ih fun x hx => h x (List.mem_cons_of_mem _ hx)]
/-- A signature is read as it was written. -/
theorem rdS_enc (l : List Blk) (size : Nat) (hf : (fault l size).1 = 0) (h : ∀ b ∈ l, b.strong < 4294967296) : rdS (encS l size) = .ok (l, size) := by
  obtain ⟨hs, hn⟩ := fault_zero hf
  have ⟨h1, h2⟩ := scanW_none hs.1 l 0 0 hn
  have hl : l.length ≤ 4000 := by
    cases l with
    | nil => simp
    | cons b l => have := h2 (by simp); omega
  have e : encS l size = enc size ++ (enc l.length ++ (encBs l ++ [])) := by simp [encS]
  have : rdAll (encS l size) = .ok (l, size) := by
    rw [e, rdAll, num_enc _ (by omega)]
    simp only []
    rw [num_enc _ (by omega)]
    simp only []
    rw [rdBs_enc l [] fun b hb => ⟨⟨by have := h1 b hb; omega, by have := h1 b hb; omega⟩, ⟨(h1 b hb).2.2.1, (h1 b hb).2.2.2⟩, h b hb⟩]
    simp
  rw [rdS, this]
  simp only [hf, if_true]

/-! ### One block more -/
/-- Blocks that were read already, ahead of what is read from here. -/
def ahead (l : List Blk) : Except Nat (List Blk × List UInt8) → Except Nat (List Blk × List UInt8)
  | .error c => .error c
  | .ok (m, s) => .ok (l ++ m, s)
theorem ahead_nil (x : Except Nat (List Blk × List UInt8)) : ahead [] x = x := by
  cases x with
  | error c => rfl
  | ok p => obtain ⟨m, s⟩ := p; rfl
theorem ahead_ok {l : List Blk} {k : Nat} {s s1 : List UInt8} {b : Blk} (h : rdB s = .ok (b, s1)) : ahead l (rdBs (k + 1) s) = ahead (l ++ [b]) (rdBs k s1) := by
  rw [rdBs, h]
  simp only []
  cases rdBs k s1 with
  | error c => rfl
  | ok p => obtain ⟨m, s⟩ := p; simp [ahead]
theorem ahead_error {l : List Blk} {k : Nat} {s : List UInt8} {c : Nat} (h : rdB s = .error c) : ahead l (rdBs (k + 1) s) = .error c := by
  rw [rdBs, h]; rfl
end Go.Sign

namespace Go.Delta
open Go.Num Go.Sign
open Go.Proofs.YtlmampcdflbifaeDoor (str strL lenL str_len ext_of_list appendL)

/-- An op. -/
structure Opx where
  kind : ByteArray
  at_ : Int
  n : Int
  data : ByteArray
deriving DecidableEq, Inhabited

def kCopy : ByteArray := ⟨#[99, 111, 112, 121]⟩
def kData : ByteArray := ⟨#[100, 97, 116, 97]⟩
def noBytes : ByteArray := ⟨#[]⟩
theorem kinds_ne : kCopy ≠ kData := by decide
def copyOp (k n : Int) : Opx := ⟨kCopy, k, n, noBytes⟩
def dataOp (l : List UInt8) : Opx := ⟨kData, 0, 0, str l⟩

/-! ### What a file comes to -/
def addCopy (out : List Opx) (k : Int) : List Opx :=
  match out.getLast? with
  | some o => if o.kind = kCopy ∧ o.at_ + o.n = k then out.dropLast ++ [⟨o.kind, o.at_, o.n + 1, o.data⟩] else out ++ [copyOp k 1]
  | none => out ++ [copyOp k 1]
def addData (out : List Opx) (l : List UInt8) : List Opx := if l = [] then out else out ++ [dataOp l]
def addByte (out : List Opx) (b : UInt8) : List Opx :=
  match out.getLast? with
  | some o => if o.kind = kData then out.dropLast ++ [⟨o.kind, o.at_, o.n, o.data ++ str [b]⟩] else out ++ [dataOp [b]]
  | none => out ++ [dataOp [b]]
theorem addCopy_nil (k : Int) : addCopy [] k = [copyOp k 1] := rfl
theorem addCopy_snoc (r : List Opx) (o : Opx) (k : Int) : addCopy (r ++ [o]) k = if o.kind = kCopy ∧ o.at_ + o.n = k then r ++ [⟨o.kind, o.at_, o.n + 1, o.data⟩] else r ++ [o] ++ [copyOp k 1] := by
  simp [addCopy]
theorem addByte_nil (b : UInt8) : addByte [] b = [dataOp [b]] := rfl
theorem addByte_snoc (r : List Opx) (o : Opx) (b : UInt8) : addByte (r ++ [o]) b = if o.kind = kData then r ++ [⟨o.kind, o.at_, o.n, o.data ++ str [b]⟩] else r ++ [o] ++ [dataOp [b]] := by
  simp [addByte]

section
variable (find : List UInt8 → Int) (size : Nat)

/-- As the document tells it: from what is left, behind the ops so far. -/
def gd : List UInt8 → List Opx → List Opx
  | [], out => out
  | b :: r, out => if 0 ≤ find ((b :: r).take size) then gd (r.drop (size - 1)) (addCopy out (find ((b :: r).take size))) else gd r (addByte out b)
termination_by l => l.length
decreasing_by all_goals (simp; try omega)

/-- As the program does it: bytes that are new wait till a block is found. -/
def pd : List UInt8 → List UInt8 → List Opx → List Opx
  | [], pend, out => addData out pend
  | b :: r, pend, out => if 0 ≤ find ((b :: r).take size) then pd (r.drop (size - 1)) [] (addCopy (addData out pend) (find ((b :: r).take size))) else pd r (pend ++ [b]) out
termination_by l => l.length
decreasing_by all_goals (simp; try omega)

def NotData (out : List Opx) : Prop := ∀ o, out.getLast? = some o → o.kind ≠ kData
theorem notData_nil : NotData [] := fun o h => by simp at h
theorem notData_copy (out : List Opx) (k : Int) : NotData (addCopy out k) := by
  intro o h
  have aux : ∀ x : Opx, x.kind = kCopy → o = x → o.kind ≠ kData := fun x hx e => by rw [e, hx]; exact kinds_ne
  unfold addCopy at h
  split at h
  · split at h
    · rename_i hc
      simp at h
      subst h
      simp only
      rw [hc.1]; exact kinds_ne
    · simp at h; exact aux _ rfl h.symm
  · simp at h; exact aux _ rfl h.symm
theorem addByte_data {out : List Opx} (h : NotData out) (l : List UInt8) (b : UInt8) : addByte (addData out l) b = addData out (l ++ [b]) := by
  unfold addData
  rw [if_neg (show ¬ l ++ [b] = [] by simp)]
  by_cases hl : l = []
  · subst hl
    rw [if_pos rfl, List.nil_append]
    rcases List.eq_nil_or_concat out with rfl | ⟨r, o, rfl⟩
    · rfl
    · rw [List.concat_eq_append] at h ⊢
      rw [addByte_snoc, if_neg (h o (by simp))]
  · rw [if_neg hl, addByte_snoc, if_pos (show (dataOp l).kind = kData from rfl)]
    simp only [dataOp]
    rw [Go.Proofs.YtlmampcdflbifaeDoor.str_app]
theorem pd_gd : ∀ (m : Nat) (rest pend : List UInt8) (out : List Opx), rest.length ≤ m → NotData out → pd find size rest pend out = gd find size rest (addData out pend) := by
  intro m
  induction m with
  | zero =>
    intro rest pend out hl h
    have : rest = [] := List.length_eq_zero_iff.1 (by omega)
    subst this
    rw [pd, gd]
  | succ m ih =>
    intro rest pend out hl h
    cases rest with
    | nil => rw [pd, gd]
    | cons b r =>
      rw [List.length_cons] at hl
      rw [pd, gd]
      split
      · rw [ih _ _ _ (by simp; omega) (notData_copy _ _)]
        simp [addData]
      · rw [ih _ _ _ (by omega) h, addByte_data h]
theorem pd_all (s : List UInt8) : pd find size s [] [] = gd find size s [] := by
  rw [pd_gd find size s.length s [] [] (Nat.le_refl _) notData_nil]
  simp [addData]
end

/-! ### What is wrong with an op -/
def opFault (o : Opx) : Nat :=
  if o.kind = kCopy then (if o.data ≠ noBytes then 3 else if 0 ≤ o.at_ ∧ o.at_ ≤ 4000 ∧ 1 ≤ o.n ∧ o.n ≤ 4000 then 0 else 2)
  else if o.kind = kData then (if o.at_ = 0 ∧ o.n = 0 then (if 1 ≤ o.data.size ∧ o.data.size ≤ 4000 then 0 else 2) else 3)
  else 4
theorem opFault_code (o : Opx) : opFault o = 0 ∨ opFault o = 2 ∨ opFault o = 3 ∨ opFault o = 4 := by
  unfold opFault
  repeat' split
  all_goals simp
/-- The first wrong one from place i on: its place and an error's number. -/
def scanO : List Opx → Nat → Option (Nat × Nat)
  | [], _ => none
  | o :: r, i => if opFault o = 0 then scanO r (i + 1) else some (i, opFault o)
theorem scanO_none : ∀ (l : List Opx) (i : Nat), scanO l i = none ↔ ∀ o ∈ l, opFault o = 0
  | [], i => by simp [scanO]
  | o :: r, i => by
    rw [scanO]
    split
    · rename_i h; rw [scanO_none r]; simp [h]
    · rename_i h; simp [h]
theorem scanO_code : ∀ (l : List Opx) (i k c : Nat), scanO l i = some (k, c) → (c = 2 ∨ c = 3 ∨ c = 4) ∧ k < i + l.length
  | [], _, _, _, h => by cases h
  | o :: r, i, k, c, h => by
    rw [scanO] at h
    split at h
    · have := scanO_code r _ _ _ h; simp; omega
    · rename_i hz
      cases h
      have := opFault_code o
      simp; omega
theorem scanO_step (l : List Opx) (j : Nat) (h : j < l.length) : scanO (l.drop j) j = if opFault l[j] = 0 then scanO (l.drop (j + 1)) (j + 1) else some (j, opFault l[j]) := by
  rw [List.drop_eq_getElem_cons h, scanO]
/-- An error's number (0: none) and its place (-1: nowhere). -/
def faultO (l : List Opx) : Nat × Int := match scanO l 0 with | none => (0, -1) | some (i, c) => (c, i)
theorem faultO_zero {l : List Opx} (h : (faultO l).1 = 0) : ∀ o ∈ l, opFault o = 0 := by
  rw [← scanO_none l 0]
  unfold faultO at h
  split at h
  · assumption
  · rename_i i c hc
    have := (scanO_code _ _ _ _ hc).1
    simp at h; omega
theorem faultO_of {l : List Opx} (h : ∀ o ∈ l, opFault o = 0) : faultO l = (0, -1) := by
  unfold faultO
  rw [(scanO_none l 0).2 h]

/-- A right op is a copy, or data. -/
theorem op_right {o : Opx} (h : opFault o = 0) : (∃ a n : Nat, o = copyOp a n ∧ a ≤ 4000 ∧ 1 ≤ n ∧ n ≤ 4000) ∨ (∃ l : List UInt8, o = dataOp l ∧ 1 ≤ l.length ∧ l.length ≤ 4000) := by
  obtain ⟨k, a, n, d⟩ := o
  unfold opFault at h
  simp only at h
  split at h
  · rename_i hk
    split at h
    · cases h
    · rename_i hd
      split at h
      · rename_i hb
        left
        refine ⟨a.toNat, n.toNat, ?_, by omega, by omega, by omega⟩
        have hd' : d = noBytes := Classical.byContradiction fun e => hd e
        subst hd' hk
        simp only [copyOp, Opx.mk.injEq, true_and, and_true]
        omega
      · cases h
  · split at h
    · rename_i hk
      split at h
      · rename_i h0
        split at h
        · rename_i hb
          right
          obtain ⟨rfl, rfl⟩ := h0
          subst hk
          refine ⟨d.data.toList, ?_, by rw [lenL]; exact hb.1, by rw [lenL]; exact hb.2⟩
          simp only [dataOp, Opx.mk.injEq, true_and]
          exact ext_of_list (by rw [strL])
        · cases h
      · cases h
    · cases h
theorem opFault_copy {a n : Nat} (h : a ≤ 4000) (h1 : 1 ≤ n) (h2 : n ≤ 4000) : opFault (copyOp a n) = 0 := by
  unfold opFault copyOp
  simp only
  rw [if_pos trivial, if_neg (by simp), if_pos (by omega)]
theorem opFault_data {l : List UInt8} (h1 : 1 ≤ l.length) (h2 : l.length ≤ 4000) : opFault (dataOp l) = 0 := by
  unfold opFault dataOp
  simp only
  rw [if_neg (fun e => kinds_ne e.symm), if_pos trivial, if_pos ⟨trivial, trivial⟩, if_pos (by rw [str_len]; omega)]

/-! ### Bytes -/
def encO (o : Opx) : List UInt8 := if o.kind = kData then enc 1 ++ (enc o.data.size ++ o.data.data.toList) else enc 0 ++ (enc o.at_.toNat ++ enc o.n.toNat)
def encOs (l : List Opx) : List UInt8 := (l.map encO).flatten
theorem encOs_snoc (l : List Opx) (o : Opx) : encOs (l ++ [o]) = encOs l ++ encO o := by simp [encOs]
theorem encOs_cons (o : Opx) (l : List Opx) : encOs (o :: l) = encO o ++ encOs l := by simp [encOs]
def encD (l : List Opx) : List UInt8 := enc l.length ++ encOs l
theorem encO_copy (a n : Nat) : encO (copyOp a n) = enc 0 ++ (enc a ++ enc n) := by
  unfold encO copyOp
  simp only
  rw [if_neg kinds_ne]
  simp
theorem encO_data (l : List UInt8) : encO (dataOp l) = enc 1 ++ (enc l.length ++ l) := by
  unfold encO dataOp
  simp only
  rw [if_pos trivial, str_len, strL]
theorem encO_length (o : Opx) : (encO o).length ≤ 18 + o.data.size := by
  have := enc_length_le o.data.size; have := enc_length_le 1; have := enc_length_le 0; have := enc_length_le o.at_.toNat; have := enc_length_le o.n.toNat
  unfold encO
  split
  · have := lenL o.data; simp at *; omega
  · simp; omega

/-- Bytes of all data. -/
def cost : List Opx → Nat
  | [] => 0
  | o :: r => o.data.size + cost r
theorem cost_append (a b : List Opx) : cost (a ++ b) = cost a + cost b := by
  induction a with
  | nil => simp [cost]
  | cons o r ih => rw [List.cons_append, cost, cost, ih]; omega
theorem cost_snoc (a : List Opx) (o : Opx) : cost (a ++ [o]) = cost a + o.data.size := by rw [cost_append]; simp [cost]
theorem encOs_length (l : List Opx) : (encOs l).length ≤ 18 * l.length + cost l := by
  induction l with
  | nil => simp [encOs]
  | cons o l ih => rw [encOs_cons, List.length_append, List.length_cons, cost]; have := encO_length o; omega

/-! ### Reading -/
/-- A text behind its length, and what is left. -/
def txt (s : List UInt8) : Except Nat (List UInt8 × List UInt8) :=
  match num s with
  | .error c => .error c
  | .ok (n, s1) => if 20000 < n then .error 2 else if s1.length < n then .error 1 else .ok (s1.take n, s1.drop n)
def rdO (s : List UInt8) : Except Nat (Opx × List UInt8) :=
  match num s with
  | .error c => .error c
  | .ok (k, s1) =>
    if k = 1 then (match txt s1 with | .error c => .error c | .ok (d, s2) => .ok (dataOp d, s2))
    else if k = 0 then (match num s1 with | .error c => .error c | .ok (a, s2) => (match num s2 with | .error c => .error c | .ok (n, s3) => .ok (copyOp a n, s3)))
    else .error 1
def rdOs : Nat → List UInt8 → Except Nat (List Opx × List UInt8)
  | 0, s => .ok ([], s)
  | k + 1, s =>
    match rdO s with
    | .error c => .error c
    | .ok (b, s1) =>
      match rdOs k s1 with
      | .error c => .error c
      | .ok (l, s2) => .ok (b :: l, s2)
/-- Just these bytes, but not looked at. -/
def rdA (s : List UInt8) : Except Nat (List Opx) :=
  if 20000 < s.length then .error 2 else
  match num s with
  | .error c => .error c
  | .ok (many, s1) =>
    match rdOs many s1 with
    | .error c => .error c
    | .ok (l, s2) => if s2 = [] then .ok l else .error 1
def rdD (s : List UInt8) : Except Nat (List Opx) :=
  match rdA s with
  | .error c => .error c
  | .ok l => if (faultO l).1 = 0 then .ok l else .error (faultO l).1

theorem txt_enc (l more : List UInt8) (h : l.length ≤ 20000) : txt (enc l.length ++ (l ++ more)) = .ok (l, more) := by
  rw [txt, num_enc _ (by omega)]
  simp only []
  rw [if_neg (by omega), if_neg (by simp)]
  simp
theorem rdO_enc (o : Opx) (more : List UInt8) (h : opFault o = 0) : rdO (encO o ++ more) = .ok (o, more) := by
  rcases op_right h with ⟨a, n, rfl, h1, h2, h3⟩ | ⟨l, rfl, h1, h2⟩
  · rw [encO_copy, List.append_assoc, List.append_assoc, rdO, num_enc _ (by omega)]
    simp only []
    rw [if_neg (by decide), if_pos trivial, num_enc _ (by omega)]
    simp only []
    rw [num_enc _ (by omega)]
  · rw [encO_data, List.append_assoc, List.append_assoc, rdO, num_enc _ (by omega)]
    simp only []
    rw [if_pos trivial, txt_enc _ _ (by omega)]
theorem rdOs_enc (l : List Opx) (more : List UInt8) (h : ∀ o ∈ l, opFault o = 0) : rdOs l.length (encOs l ++ more) = .ok (l, more) := by
  induction l with
  | nil => simp [rdOs, encOs]
  | cons b l ih =>
    rw [encOs_cons, List.append_assoc, List.length_cons, rdOs, rdO_enc b _ (h b (List.mem_cons_self ..))]
    simp only []
    rw [ih fun x hx => h x (List.mem_cons_of_mem _ hx)]
/-- A delta is read as it was written. -/
theorem rdD_enc (l : List Opx) (h : ∀ o ∈ l, opFault o = 0) (hl : l.length ≤ 1000000) (he : (encD l).length ≤ 20000) : rdD (encD l) = .ok l := by
  have e : encD l = enc l.length ++ (encOs l ++ []) := by simp [encD]
  have : rdA (encD l) = .ok l := by
    rw [rdA, if_neg (by omega), e, num_enc _ (by omega)]
    simp only []
    rw [rdOs_enc l [] h]
    simp
  rw [rdD, this]
  simp only [faultO_of h, if_true]

/-! ### One op more -/
def aheadO (l : List Opx) : Except Nat (List Opx × List UInt8) → Except Nat (List Opx × List UInt8)
  | .error c => .error c
  | .ok (m, s) => .ok (l ++ m, s)
theorem aheadO_nil (x : Except Nat (List Opx × List UInt8)) : aheadO [] x = x := by
  cases x with
  | error c => rfl
  | ok p => obtain ⟨m, s⟩ := p; rfl
theorem aheadO_ok {l : List Opx} {k : Nat} {s s1 : List UInt8} {b : Opx} (h : rdO s = .ok (b, s1)) : aheadO l (rdOs (k + 1) s) = aheadO (l ++ [b]) (rdOs k s1) := by
  rw [rdOs, h]
  simp only []
  cases rdOs k s1 with
  | error c => rfl
  | ok p => obtain ⟨m, s⟩ := p; simp [aheadO]
theorem aheadO_error {l : List Opx} {k : Nat} {s : List UInt8} {c : Nat} (h : rdO s = .error c) : aheadO l (rdOs (k + 1) s) = .error c := by
  rw [rdOs, h]; rfl
end Go.Delta
