/-
  Plain mathematics of deltas: ops, what is wrong with one, their bytes and how they are read, and the ops that a file comes to. No program, no walk.
-/
import Derived.Test.YtgogjncamjbajacDoorBase
import Derived.Test.YtgogjncamjbajacDoorSignMath
namespace Go.Delta
open Go.Num Go.Sign
open Go.Proofs.YtgogjncamjbajacDoor (str strL lenL str_len ext_of_list appendL)

/-- An op. -/
structure Opx where
  kind : ByteArray
  at_ : Int
  n : Int
  data : ByteArray
deriving DecidableEq, Inhabited

def kCopy : ByteArray := ⟨#[99, 111, 112, 121]⟩
def kData : ByteArray := ⟨#[100, 97, 116, 97]⟩
def noBytes : ByteArray := ⟨#[]⟩
theorem kinds_ne : kCopy ≠ kData := by decide
def copyOp (k n : Int) : Opx := ⟨kCopy, k, n, noBytes⟩
def dataOp (l : List UInt8) : Opx := ⟨kData, 0, 0, str l⟩

/-! ### What a file comes to -/
def addCopy (out : List Opx) (k : Int) : List Opx :=
  match out.getLast? with
  | some o => if o.kind = kCopy ∧ o.at_ + o.n = k then out.dropLast ++ [⟨o.kind, o.at_, o.n + 1, o.data⟩] else out ++ [copyOp k 1]
  | none => out ++ [copyOp k 1]
def addData (out : List Opx) (l : List UInt8) : List Opx := if l = [] then out else out ++ [dataOp l]
def addByte (out : List Opx) (b : UInt8) : List Opx :=
  match out.getLast? with
  | some o => if o.kind = kData then out.dropLast ++ [⟨o.kind, o.at_, o.n, o.data ++ str [b]⟩] else out ++ [dataOp [b]]
  | none => out ++ [dataOp [b]]
theorem addCopy_nil (k : Int) : addCopy [] k = [copyOp k 1] := rfl
theorem addCopy_snoc (r : List Opx) (o : Opx) (k : Int) : addCopy (r ++ [o]) k = if o.kind = kCopy ∧ o.at_ + o.n = k then r ++ [⟨o.kind, o.at_, o.n + 1, o.data⟩] else r ++ [o] ++ [copyOp k 1] := by
  simp [addCopy]
theorem addByte_nil (b : UInt8) : addByte [] b = [dataOp [b]] := rfl
theorem addByte_snoc (r : List Opx) (o : Opx) (b : UInt8) : addByte (r ++ [o]) b = if o.kind = kData then r ++ [⟨o.kind, o.at_, o.n, o.data ++ str [b]⟩] else r ++ [o] ++ [dataOp [b]] := by
  simp [addByte]

section
variable (find : List UInt8 → Int) (size : Nat)

/-- As the document tells it: from what is left, behind the ops so far. -/
def gd : List UInt8 → List Opx → List Opx
  | [], out => out
  | b :: r, out => if 0 ≤ find ((b :: r).take size) then gd (r.drop (size - 1)) (addCopy out (find ((b :: r).take size))) else gd r (addByte out b)
termination_by l => l.length
decreasing_by all_goals (simp; try omega)

/-- As the program does it: bytes that are new wait till a block is found. -/
def pd : List UInt8 → List UInt8 → List Opx → List Opx
  | [], pend, out => addData out pend
  | b :: r, pend, out => if 0 ≤ find ((b :: r).take size) then pd (r.drop (size - 1)) [] (addCopy (addData out pend) (find ((b :: r).take size))) else pd r (pend ++ [b]) out
termination_by l => l.length
decreasing_by all_goals (simp; try omega)

def NotData (out : List Opx) : Prop := ∀ o, out.getLast? = some o → o.kind ≠ kData
theorem notData_nil : NotData [] := fun o h => by simp at h
theorem notData_copy (out : List Opx) (k : Int) : NotData (addCopy out k) := by
  intro o h
  have aux : ∀ x : Opx, x.kind = kCopy → o = x → o.kind ≠ kData := fun x hx e => by rw [e, hx]; exact kinds_ne
  unfold addCopy at h
  split at h
  · split at h
    · rename_i hc
      simp at h
      subst h
      simp only
      rw [hc.1]; exact kinds_ne
    · simp at h; exact aux _ rfl h.symm
  · simp at h; exact aux _ rfl h.symm
theorem addByte_data {out : List Opx} (h : NotData out) (l : List UInt8) (b : UInt8) : addByte (addData out l) b = addData out (l ++ [b]) := by
  unfold addData
  rw [if_neg (show ¬ l ++ [b] = [] by simp)]
  by_cases hl : l = []
  · subst hl
    rw [if_pos rfl, List.nil_append]
    rcases List.eq_nil_or_concat out with rfl | ⟨r, o, rfl⟩
    · rfl
    · rw [List.concat_eq_append] at h ⊢
      rw [addByte_snoc, if_neg (h o (by simp))]
  · rw [if_neg hl, addByte_snoc, if_pos (show (dataOp l).kind = kData from rfl)]
    simp only [dataOp]
    rw [Go.Proofs.YtgogjncamjbajacDoor.str_app]
theorem pd_gd : ∀ (m : Nat) (rest pend : List UInt8) (out : List Opx), rest.length ≤ m → NotData out → pd find size rest pend out = gd find size rest (addData out pend) := by
  intro m
  induction m with
  | zero =>
    intro rest pend out hl h
    have : rest = [] := List.length_eq_zero_iff.1 (by omega)
    subst this
    rw [pd, gd]
  | succ m ih =>
    intro rest pend out hl h
    cases rest with
    | nil => rw [pd, gd]
    | cons b r =>
      rw [List.length_cons] at hl
      rw [pd, gd]
      split
      · rw [ih _ _ _ (by simp; omega) (notData_copy _ _)]
        simp [addData]
      · rw [ih _ _ _ (by omega) h, addByte_data h]
theorem pd_all (s : List UInt8) : pd find size s [] [] = gd find size s [] := by
  rw [pd_gd find size s.length s [] [] (Nat.le_refl _) notData_nil]
  simp [addData]
end

/-! ### What is wrong with an op -/
def opFault (o : Opx) : Nat :=
  if o.kind = kCopy then (if o.data ≠ noBytes then 3 else if 0 ≤ o.at_ ∧ o.at_ ≤ 4000 ∧ 1 ≤ o.n ∧ o.n ≤ 4000 then 0 else 2)
  else if o.kind = kData then (if o.at_ = 0 ∧ o.n = 0 then (if 1 ≤ o.data.size ∧ o.data.size ≤ 4000 then 0 else 2) else 3)
  else 4
theorem opFault_code (o : Opx) : opFault o = 0 ∨ opFault o = 2 ∨ opFault o = 3 ∨ opFault o = 4 := by
  unfold opFault
  repeat' split
  all_goals simp
/-- The first wrong one from place i on: its place and an error's number. -/
def scanO : List Opx → Nat → Option (Nat × Nat)
  | [], _ => none
  | o :: r, i => if opFault o = 0 then scanO r (i + 1) else some (i, opFault o)
theorem scanO_none : ∀ (l : List Opx) (i : Nat), scanO l i = none ↔ ∀ o ∈ l, opFault o = 0
  | [], i => by simp [scanO]
  | o :: r, i => by
    rw [scanO]
    split
    · rename_i h; rw [scanO_none r]; simp [h]
    · rename_i h; simp [h]
theorem scanO_code : ∀ (l : List Opx) (i k c : Nat), scanO l i = some (k, c) → (c = 2 ∨ c = 3 ∨ c = 4) ∧ k < i + l.length
  | [], _, _, _, h => by cases h
  | o :: r, i, k, c, h => by
    rw [scanO] at h
    split at h
    · have := scanO_code r _ _ _ h; simp; omega
    · rename_i hz
      cases h
      have := opFault_code o
      simp; omega
theorem scanO_step (l : List Opx) (j : Nat) (h : j < l.length) : scanO (l.drop j) j = if opFault l[j] = 0 then scanO (l.drop (j + 1)) (j + 1) else some (j, opFault l[j]) := by
  rw [List.drop_eq_getElem_cons h, scanO]
/-- An error's number (0: none) and its place (-1: nowhere). -/
def faultO (l : List Opx) : Nat × Int := match scanO l 0 with | none => (0, -1) | some (i, c) => (c, i)
theorem faultO_zero {l : List Opx} (h : (faultO l).1 = 0) : ∀ o ∈ l, opFault o = 0 := by
  rw [← scanO_none l 0]
  unfold faultO at h
  split at h
  · assumption
  · rename_i i c hc
    have := (scanO_code _ _ _ _ hc).1
    simp at h; omega
theorem faultO_of {l : List Opx} (h : ∀ o ∈ l, opFault o = 0) : faultO l = (0, -1) := by
  unfold faultO
  rw [(scanO_none l 0).2 h]

/-- A right op is a copy, or data. -/
theorem op_right {o : Opx} (h : opFault o = 0) : (∃ a n : Nat, o = copyOp a n ∧ a ≤ 4000 ∧ 1 ≤ n ∧ n ≤ 4000) ∨ (∃ l : List UInt8, o = dataOp l ∧ 1 ≤ l.length ∧ l.length ≤ 4000) := by
  obtain ⟨k, a, n, d⟩ := o
  unfold opFault at h
  simp only at h
  split at h
  · rename_i hk
    split at h
    · cases h
    · rename_i hd
      split at h
      · rename_i hb
        left
        refine ⟨a.toNat, n.toNat, ?_, by omega, by omega, by omega⟩
        have hd' : d = noBytes := Classical.byContradiction fun e => hd e
        subst hd' hk
        simp only [copyOp, Opx.mk.injEq, true_and, and_true]
        omega
      · cases h
  · split at h
    · rename_i hk
      split at h
      · rename_i h0
        split at h
        · rename_i hb
          right
          obtain ⟨rfl, rfl⟩ := h0
          subst hk
          refine ⟨d.data.toList, ?_, by rw [lenL]; exact hb.1, by rw [lenL]; exact hb.2⟩
          simp only [dataOp, Opx.mk.injEq, true_and]
          exact ext_of_list (by rw [strL])
        · cases h
      · cases h
    · cases h
theorem opFault_copy {a n : Nat} (h : a ≤ 4000) (h1 : 1 ≤ n) (h2 : n ≤ 4000) : opFault (copyOp a n) = 0 := by
  unfold opFault copyOp
  simp only
  rw [if_pos trivial, if_neg (by simp), if_pos (by omega)]
theorem opFault_data {l : List UInt8} (h1 : 1 ≤ l.length) (h2 : l.length ≤ 4000) : opFault (dataOp l) = 0 := by
  unfold opFault dataOp
  simp only
  rw [if_neg (fun e => kinds_ne e.symm), if_pos trivial, if_pos ⟨trivial, trivial⟩, if_pos (by rw [str_len]; omega)]

/-! ### Bytes -/
def encO (o : Opx) : List UInt8 := if o.kind = kData then enc 1 ++ (enc o.data.size ++ o.data.data.toList) else enc 0 ++ (enc o.at_.toNat ++ enc o.n.toNat)
def encOs (l : List Opx) : List UInt8 := (l.map encO).flatten
theorem encOs_snoc (l : List Opx) (o : Opx) : encOs (l ++ [o]) = encOs l ++ encO o := by simp [encOs]
theorem encOs_cons (o : Opx) (l : List Opx) : encOs (o :: l) = encO o ++ encOs l := by simp [encOs]
def encD (l : List Opx) : List UInt8 := enc l.length ++ encOs l
theorem encO_copy (a n : Nat) : encO (copyOp a n) = enc 0 ++ (enc a ++ enc n) := by
  unfold encO copyOp
  simp only
  rw [if_neg kinds_ne]
  simp
theorem encO_data (l : List UInt8) : encO (dataOp l) = enc 1 ++ (enc l.length ++ l) := by
  unfold encO dataOp
  simp only
  rw [if_pos trivial, str_len, strL]
theorem encO_length (o : Opx) : (encO o).length ≤ 18 + o.data.size := by
  have := enc_length_le o.data.size; have := enc_length_le 1; have := enc_length_le 0; have := enc_length_le o.at_.toNat; have := enc_length_le o.n.toNat
  unfold encO
  split
  · have := lenL o.data; simp at *; omega
  · simp; omega

/-- Bytes of all data. -/
def cost : List Opx → Nat
  | [] => 0
  | o :: r => o.data.size + cost r
theorem cost_append (a b : List Opx) : cost (a ++ b) = cost a + cost b := by
  induction a with
  | nil => simp [cost]
  | cons o r ih => rw [List.cons_append, cost, cost, ih]; omega
theorem cost_snoc (a : List Opx) (o : Opx) : cost (a ++ [o]) = cost a + o.data.size := by rw [cost_append]; simp [cost]
theorem encOs_length (l : List Opx) : (encOs l).length ≤ 18 * l.length + cost l := by
  induction l with
  | nil => simp [encOs]
  | cons o l ih => rw [encOs_cons, List.length_append, List.length_cons, cost]; have := encO_length o; omega

/-! ### Reading -/
/-- A text behind its length, and what is left. -/
def txt (s : List UInt8) : Except Nat (List UInt8 × List UInt8) :=
  match num s with
  | .error c => .error c
  | .ok (n, s1) => if 20000 < n then .error 2 else if s1.length < n then .error 1 else .ok (s1.take n, s1.drop n)
def rdO (s : List UInt8) : Except Nat (Opx × List UInt8) :=
  match num s with
  | .error c => .error c
  | .ok (k, s1) =>
    if k = 1 then (match txt s1 with | .error c => .error c | .ok (d, s2) => .ok (dataOp d, s2))
    else if k = 0 then (match num s1 with | .error c => .error c | .ok (a, s2) => (match num s2 with | .error c => .error c | .ok (n, s3) => .ok (copyOp a n, s3)))
    else .error 1
def rdOs : Nat → List UInt8 → Except Nat (List Opx × List UInt8)
  | 0, s => .ok ([], s)
  | k + 1, s =>
    match rdO s with
    | .error c => .error c
    | .ok (b, s1) =>
      match rdOs k s1 with
      | .error c => .error c
      | .ok (l, s2) => .ok (b :: l, s2)
/-- Just these bytes, but not looked at. -/
def rdA (s : List UInt8) : Except Nat (List Opx) :=
  if 20000 < s.length then .error 2 else
  match num s with
  | .error c => .error c
  | .ok (many, s1) =>
    match rdOs many s1 with
    | .error c => .error c
    | .ok (l, s2) => if s2 = [] then .ok l else .error 1
def rdD (s : List UInt8) : Except Nat (List Opx) :=
  match rdA s with
  | .error c => .error c
  | .ok l => if (faultO l).1 = 0 then .ok l else .error (faultO l).1

theorem txt_enc (l more : List UInt8) (h : l.length ≤ 20000) : txt (enc l.length ++ (l ++ more)) = .ok (l, more) := by
  rw [txt, num_enc _ (by omega)]
  simp only []
  rw [if_neg (by omega), if_neg (by simp)]
  simp
theorem rdO_enc (o : Opx) (more : List UInt8) (h : opFault o = 0) : rdO (encO o ++ more) = .ok (o, more) := by
  rcases op_right h with ⟨a, n, rfl, h1, h2, h3⟩ | ⟨l, rfl, h1, h2⟩
  · rw [encO_copy, List.append_assoc, List.append_assoc, rdO, num_enc _ (by omega)]
    simp only []
    rw [if_neg (by decide), if_pos trivial, num_enc _ (by omega)]
    simp only []
    rw [num_enc _ (by omega)]
  · rw [encO_data, List.append_assoc, List.append_assoc, rdO, num_enc _ (by omega)]
    simp only []
    rw [if_pos trivial, txt_enc _ _ (by omega)]
theorem rdOs_enc (l : List Opx) (more : List UInt8) (h : ∀ o ∈ l, opFault o = 0) : rdOs l.length (encOs l ++ more) = .ok (l, more) := by
  induction l with
  | nil => simp [rdOs, encOs]
  | cons b l ih =>
    rw [encOs_cons, List.append_assoc, List.length_cons, rdOs, rdO_enc b _ (h b (List.mem_cons_self ..))]
    simp only []
    rw [ih fun x hx => h x (List.mem_cons_of_mem _ hx)]
/-- A delta is read as it was written. -/
theorem rdD_enc (l : List Opx) (h : ∀ o ∈ l, opFault o = 0) (hl : l.length ≤ 1000000) (he : (encD l).length ≤ 20000) : rdD (encD l) = .ok l := by
  have e : encD l = enc l.length ++ (encOs l ++ []) := by simp [encD]
  have : rdA (encD l) = .ok l := by
    rw [rdA, if_neg (by omega), e, num_enc _ (by omega)]
    simp only []
    rw [rdOs_enc l [] h]
    simp
  rw [rdD, this]
  simp only [faultO_of h, if_true]

/-! ### One op more -/
def aheadO (l : List Opx) : Except Nat (List Opx × List UInt8) → Except Nat (List Opx × List UInt8)
  | .error c => .error c
  | .ok (m, s) => .ok (l ++ m, s)
theorem aheadO_nil (x : Except Nat (List Opx × List UInt8)) : aheadO [] x = x := by
  cases x with
  | error c => rfl
  | ok p => obtain ⟨m, s⟩ := p; rfl
theorem aheadO_ok {l : List Opx} {k : Nat} {s s1 : List UInt8} {b : Opx} (h : rdO s = .ok (b, s1)) : aheadO l (rdOs (k + 1) s) = aheadO (l ++ [b]) (rdOs k s1) := by
  rw [rdOs, h]
  simp only []
  cases rdOs k s1 with
  | error c => rfl
  | ok p => obtain ⟨m, s⟩ := p; simp [aheadO]
theorem aheadO_error {l : List Opx} {k : Nat} {s : List UInt8} {c : Nat} (h : rdO s = .error c) : aheadO l (rdOs (k + 1) s) = .error c := by
  rw [rdOs, h]; rfl
end Go.Delta
