/-
  What the row's condition on the two errors' variables gives the walk; the door's own heap meets it.
  Plain mathematics of deltas: ops, what is wrong with one, their bytes and how they are read, and the ops that a file comes to. No program, no walk.
  Ops as four cells; slices that read as ops.
  Contracts of delta.isMany, wrongCopy, wrongData, wrong over this dump.
  The five errors that package delta meets, in a world.
-/
import Derived.Test.YtcenohaadggdiacDoorJoin01
import Derived.Test.YtcenohaadggdiacDoorJoin03
import Derived.OwnWalk
import Derived.WideShapes
namespace Go.Proofs.YtcenohaadggdiacDoor
open Go.ChangeShapes Go.WideShapes Go.ChangeAt Go.RowKit

theorem Tryd.gFull : Tryd.prog.globalNamed "packhorse/api.ErrFull" = some 3 := by kernel_rfl
theorem Tryd.tFull : (Tryd.prog.globals[3]?).map (·.type) = some 26 := by kernel_rfl
abbrev laid2 : List (String × DataW Unit) := [("packhorse/api.ErrBound", Rows.laid_packhorse_api_ErrBound), ("packhorse/api.ErrFull", Rows.laid_packhorse_api_ErrFull)]

theorem er2_of_laid {W : World} (h : laidMetH Tryd.prog laid2 W) : ∃ e, Er2 e W := by
  rw [MakeChecks.laidMetH_plain _ _ _ (by kernel_rfl)] at h
  obtain ⟨a1, _, hv1, _⟩ := laid_sentinel h Tryd.gBound Tryd.tBound Tryd.underlying26 Tryd.row161 Tryd.underlying161 Tryd.underlying179 rfl rfl Tryd.underlying9 Tryd.cells179 Tryd.cells9
  obtain ⟨a2, _, hv2, _⟩ := laid_sentinel h.tail Tryd.gFull Tryd.tFull Tryd.underlying26 Tryd.row161 Tryd.underlying161 Tryd.underlying179 rfl rfl Tryd.underlying9 Tryd.cells179 Tryd.cells9
  exact ⟨⟨0, .nilIface, _, _, _, _⟩, by simpa using World.var?_cell Tryd.gBound hv1 0, by simpa using World.var?_cell Tryd.gFull hv2 0⟩

theorem door_met2 (os : Os) (args : Array Value) : laidMetH Tryd.prog laid2 ((World.doorLaid Tryd.prog 400 os).forCall (fun _ _ => 0) ⟨#[], args, []⟩).memory :=
  laidMetH_of_parts3 (fuel := 8) (laidMet_of_run' 8 (by kernel_rfl) (by kernel_rfl)) (by kernel_rfl) (by kernel_rfl)
end Go.Proofs.YtcenohaadggdiacDoor

namespace Go.Delta
open Go.Num Go.Sign
open Go.Proofs.YtcenohaadggdiacDoor (str strL lenL str_len ext_of_list appendL)

/-- An op. -/
structure Opx where
  kind : ByteArray
  at_ : Int
  n : Int
  data : ByteArray
deriving DecidableEq, Inhabited

def kCopy : ByteArray := ⟨#[99, 111, 112, 121]⟩
def kData : ByteArray := ⟨#[100, 97, 116, 97]⟩
def noBytes : ByteArray := ⟨#[]⟩
theorem kinds_ne : kCopy ≠ kData := by decide
def copyOp (k n : Int) : Opx := ⟨kCopy, k, n, noBytes⟩
def dataOp (l : List UInt8) : Opx := ⟨kData, 0, 0, str l⟩

/-! ### What a file comes to -/
def addCopy (out : List Opx) (k : Int) : List Opx :=
  match out.getLast? with
  | some o => if o.kind = kCopy ∧ o.at_ + o.n = k then out.dropLast ++ [⟨o.kind, o.at_, o.n + 1, o.data⟩] else out ++ [copyOp k 1]
  | none => out ++ [copyOp k 1]
def addData (out : List Opx) (l : List UInt8) : List Opx := if l = [] then out else out ++ [dataOp l]
def addByte (out : List Opx) (b : UInt8) : List Opx :=
  match out.getLast? with
  | some o => if o.kind = kData then out.dropLast ++ [⟨o.kind, o.at_, o.n, o.data ++ str [b]⟩] else out ++ [dataOp [b]]
  | none => out ++ [dataOp [b]]
theorem addCopy_nil (k : Int) : addCopy [] k = [copyOp k 1] := rfl
theorem addCopy_snoc (r : List Opx) (o : Opx) (k : Int) : addCopy (r ++ [o]) k = if o.kind = kCopy ∧ o.at_ + o.n = k then r ++ [⟨o.kind, o.at_, o.n + 1, o.data⟩] else r ++ [o] ++ [copyOp k 1] := by
  simp [addCopy]
theorem addByte_nil (b : UInt8) : addByte [] b = [dataOp [b]] := rfl
theorem addByte_snoc (r : List Opx) (o : Opx) (b : UInt8) : addByte (r ++ [o]) b = if o.kind = kData then r ++ [⟨o.kind, o.at_, o.n, o.data ++ str [b]⟩] else r ++ [o] ++ [dataOp [b]] := by
  simp [addByte]

section
variable (find : List UInt8 → Int) (size : Nat)

/-- As the document tells it: from what is left, behind the ops so far. -/
def gd : List UInt8 → List Opx → List Opx
  | [], out => out
  | b :: r, out => if 0 ≤ find ((b :: r).take size) then gd (r.drop (size - 1)) (addCopy out (find ((b :: r).take size))) else gd r (addByte out b)
termination_by l => l.length
decreasing_by all_goals (simp; try omega)

/-- As the program does it: bytes that are new wait till a block is found. -/
def pd : List UInt8 → List UInt8 → List Opx → List Opx
  | [], pend, out => addData out pend
  | b :: r, pend, out => if 0 ≤ find ((b :: r).take size) then pd (r.drop (size - 1)) [] (addCopy (addData out pend) (find ((b :: r).take size))) else pd r (pend ++ [b]) out
termination_by l => l.length
decreasing_by all_goals (simp; try omega)

def NotData (out : List Opx) : Prop := ∀ o, out.getLast? = some o → o.kind ≠ kData
theorem notData_nil : NotData [] := fun o h => by simp at h
theorem notData_copy (out : List Opx) (k : Int) : NotData (addCopy out k) := by
  intro o h
  have aux : ∀ x : Opx, x.kind = kCopy → o = x → o.kind ≠ kData := fun x hx e => by rw [e, hx]; exact kinds_ne
  unfold addCopy at h
  split at h
  · split at h
    · rename_i hc
      simp at h
      subst h
      simp only
      rw [hc.1]; exact kinds_ne
    · simp at h; exact aux _ rfl h.symm
  · simp at h; exact aux _ rfl h.symm
theorem addByte_data {out : List Opx} (h : NotData out) (l : List UInt8) (b : UInt8) : addByte (addData out l) b = addData out (l ++ [b]) := by
  unfold addData
  rw [if_neg (show ¬ l ++ [b] = [] by simp)]
  by_cases hl : l = []
  · subst hl
    rw [if_pos rfl, List.nil_append]
    rcases List.eq_nil_or_concat out with rfl | ⟨r, o, rfl⟩
    · rfl
    · rw [List.concat_eq_append] at h ⊢
      rw [addByte_snoc, if_neg (h o (by simp))]
  · rw [if_neg hl, addByte_snoc, if_pos (show (dataOp l).kind = kData from rfl)]
    simp only [dataOp]
    rw [Go.Proofs.YtcenohaadggdiacDoor.str_app]
theorem pd_gd : ∀ (m : Nat) (rest pend : List UInt8) (out : List Opx), rest.length ≤ m → NotData out → pd find size rest pend out = gd find size rest (addData out pend) := by
  intro m
  induction m with
  | zero =>
    intro rest pend out hl h
    have : rest = [] := List.length_eq_zero_iff.1 (by omega)
    subst this
    rw [pd, gd]
  | succ m ih =>
    intro rest pend out hl h
    cases rest with
    | nil => rw [pd, gd]
    | cons b r =>
      rw [List.length_cons] at hl
      rw [pd, gd]
      split
      · rw [ih _ _ _ (by simp; omega) (notData_copy _ _)]
        simp [addData]
      · rw [ih _ _ _ (by omega) h, addByte_data h]
theorem pd_all (s : List UInt8) : pd find size s [] [] = gd find size s [] := by
  rw [pd_gd find size s.length s [] [] (Nat.le_refl _) notData_nil]
  simp [addData]
end

/-! ### What is wrong with an op -/
def opFault (o : Opx) : Nat :=
  if o.kind = kCopy then (if o.data ≠ noBytes then 3 else if 0 ≤ o.at_ ∧ o.at_ ≤ 4000 ∧ 1 ≤ o.n ∧ o.n ≤ 4000 then 0 else 2)
  else if o.kind = kData then (if o.at_ = 0 ∧ o.n = 0 then (if 1 ≤ o.data.size ∧ o.data.size ≤ 4000 then 0 else 2) else 3)
  else 4
theorem opFault_code (o : Opx) : opFault o = 0 ∨ opFault o = 2 ∨ opFault o = 3 ∨ opFault o = 4 := by
  unfold opFault
  repeat' split
  all_goals simp
/-- The first wrong one from place i on: its place and an error's number. -/
def scanO : List Opx → Nat → Option (Nat × Nat)
  | [], _ => none
  | o :: r, i => if opFault o = 0 then scanO r (i + 1) else some (i, opFault o)
theorem scanO_none : ∀ (l : List Opx) (i : Nat), scanO l i = none ↔ ∀ o ∈ l, opFault o = 0
  | [], i => by simp [scanO]
  | o :: r, i => by
    rw [scanO]
    split
    · rename_i h; rw [scanO_none r]; simp [h]
    · rename_i h; simp [h]
theorem scanO_code : ∀ (l : List Opx) (i k c : Nat), scanO l i = some (k, c) → (c = 2 ∨ c = 3 ∨ c = 4) ∧ k < i + l.length
  | [], _, _, _, h => by cases h
  | o :: r, i, k, c, h => by
    rw [scanO] at h
    split at h
    · have := scanO_code r _ _ _ h; simp; omega
    · rename_i hz
      cases h
      have := opFault_code o
      simp; omega
theorem scanO_step (l : List Opx) (j : Nat) (h : j < l.length) : scanO (l.drop j) j = if opFault l[j] = 0 then scanO (l.drop (j + 1)) (j + 1) else some (j, opFault l[j]) := by
  rw [List.drop_eq_getElem_cons h, scanO]
/-- An error's number (0: none) and its place (-1: nowhere). -/
def faultO (l : List Opx) : Nat × Int := match scanO l 0 with | none => (0, -1) | some (i, c) => (c, i)
theorem faultO_zero {l : List Opx} (h : (faultO l).1 = 0) : ∀ o ∈ l, opFault o = 0 := by
  rw [← scanO_none l 0]
  unfold faultO at h
  split at h
  · assumption
  · rename_i i c hc
    have := (scanO_code _ _ _ _ hc).1
    simp at h; omega
theorem faultO_of {l : List Opx} (h : ∀ o ∈ l, opFault o = 0) : faultO l = (0, -1) := by
  unfold faultO
  rw [(scanO_none l 0).2 h]

/-- A right op is a copy, or data. -/
theorem op_right {o : Opx} (h : opFault o = 0) : (∃ a n : Nat, o = copyOp a n ∧ a ≤ 4000 ∧ 1 ≤ n ∧ n ≤ 4000) ∨ (∃ l : List UInt8, o = dataOp l ∧ 1 ≤ l.length ∧ l.length ≤ 4000) := by
  obtain ⟨k, a, n, d⟩ := o
  unfold opFault at h
  simp only at h
  split at h
  · rename_i hk
    split at h
    · cases h
    · rename_i hd
      split at h
      · rename_i hb
        left
        refine ⟨a.toNat, n.toNat, ?_, by omega, by omega, by omega⟩
        have hd' : d = noBytes := Classical.byContradiction fun e => hd e
        subst hd' hk
        simp only [copyOp, Opx.mk.injEq, true_and, and_true]
        omega
      · cases h
  · split at h
    · rename_i hk
      split at h
      · rename_i h0
        split at h
        · rename_i hb
          right
          obtain ⟨rfl, rfl⟩ := h0
          subst hk
          refine ⟨d.data.toList, ?_, by rw [lenL]; exact hb.1, by rw [lenL]; exact hb.2⟩
          simp only [dataOp, Opx.mk.injEq, true_and]
          exact ext_of_list (by rw [strL])
        · cases h
      · cases h
    · cases h
theorem opFault_copy {a n : Nat} (h : a ≤ 4000) (h1 : 1 ≤ n) (h2 : n ≤ 4000) : opFault (copyOp a n) = 0 := by
  unfold opFault copyOp
  simp only
  rw [if_pos trivial, if_neg (by simp), if_pos (by omega)]
theorem opFault_data {l : List UInt8} (h1 : 1 ≤ l.length) (h2 : l.length ≤ 4000) : opFault (dataOp l) = 0 := by
  unfold opFault dataOp
  simp only
  rw [if_neg (fun e => kinds_ne e.symm), if_pos trivial, if_pos ⟨trivial, trivial⟩, if_pos (by rw [str_len]; omega)]

/-! ### Bytes -/
def encO (o : Opx) : List UInt8 := if o.kind = kData then enc 1 ++ (enc o.data.size ++ o.data.data.toList) else enc 0 ++ (enc o.at_.toNat ++ enc o.n.toNat)
def encOs (l : List Opx) : List UInt8 := (l.map encO).flatten
theorem encOs_snoc (l : List Opx) (o : Opx) : encOs (l ++ [o]) = encOs l ++ encO o := by simp [encOs]
theorem encOs_cons (o : Opx) (l : List Opx) : encOs (o :: l) = encO o ++ encOs l := by simp [encOs]
def encD (l : List Opx) : List UInt8 := enc l.length ++ encOs l
theorem encO_copy (a n : Nat) : encO (copyOp a n) = enc 0 ++ (enc a ++ enc n) := by
  unfold encO copyOp
  simp only
  rw [if_neg kinds_ne]
  simp
theorem encO_data (l : List UInt8) : encO (dataOp l) = enc 1 ++ (enc l.length ++ l) := by
  unfold encO dataOp
  simp only
  rw [if_pos trivial, str_len, strL]
theorem encO_length (o : Opx) : (encO o).length ≤ 18 + o.data.size := by
  have := enc_length_le o.data.size; have := enc_length_le 1; have := enc_length_le 0; have := enc_length_le o.at_.toNat; have := enc_length_le o.n.toNat
  unfold encO
  split
  · have := lenL o.data; simp at *; omega
  · simp; omega

/-- Bytes of all data. -/
def cost : List Opx → Nat
  | [] => 0
  | o :: r => o.data.size + cost r
theorem cost_append (a b : List Opx) : cost (a ++ b) = cost a + cost b := by
  induction a with
  | nil => simp [cost]
  | cons o r ih => rw [List.cons_append, cost, cost, ih]; omega
theorem cost_snoc (a : List Opx) (o : Opx) : cost (a ++ [o]) = cost a + o.data.size := by rw [cost_append]; simp [cost]
theorem encOs_length (l : List Opx) : (encOs l).length ≤ 18 * l.length + cost l := by
  induction l with
  | nil => simp [encOs]
  | cons o l ih => rw [encOs_cons, List.length_append, List.length_cons, cost]; have := encO_length o; omega

/-! ### Reading -/
/-- A text behind its length, and what is left. -/
def txt (s : List UInt8) : Except Nat (List UInt8 × List UInt8) :=
  match num s with
  | .error c => .error c
  | .ok (n, s1) => if 20000 < n then .error 2 else if s1.length < n then .error 1 else .ok (s1.take n, s1.drop n)
def rdO (s : List UInt8) : Except Nat (Opx × List UInt8) :=
  match num s with
  | .error c => .error c
  | .ok (k, s1) =>
    if k = 1 then (match txt s1 with | .error c => .error c | .ok (d, s2) => .ok (dataOp d, s2))
    else if k = 0 then (match num s1 with | .error c => .error c | .ok (a, s2) => (match num s2 with | .error c => .error c | .ok (n, s3) => .ok (copyOp a n, s3)))
    else .error 1
def rdOs : Nat → List UInt8 → Except Nat (List Opx × List UInt8)
  | 0, s => .ok ([], s)
  | k + 1, s =>
    match rdO s with
    | .error c => .error c
    | .ok (b, s1) =>
      match rdOs k s1 with
      | .error c => .error c
      | .ok (l, s2) => .ok (b :: l, s2)
/-- Just these bytes, but not looked at. -/
def rdA (s : List UInt8) : Except Nat (List Opx) :=
  if 20000 < s.length then .error 2 else
  match num s with
  | .error c => .error c
  | .ok (many, s1) =>
    match rdOs many s1 with
    | .error c => .error c
    | .ok (l, s2) => if s2 = [] then .ok l else .error 1
def rdD (s : List UInt8) : Except Nat (List Opx) :=
  match rdA s with
  | .error c => .error c
  | .ok l => if (faultO l).1 = 0 then .ok l else .error (faultO l).1

theorem txt_enc (l more : List UInt8) (h : l.length ≤ 20000) : txt (enc l.length ++ (l ++ more)) = .ok (l, more) := by
  rw [txt, num_enc _ (by omega)]
  simp only []
  rw [if_neg (by omega), if_neg (by simp)]
  simp
theorem rdO_enc (o : Opx) (more : List UInt8) (h : opFault o = 0) : rdO (encO o ++ more) = .ok (o, more) := by
  rcases op_right h with ⟨a, n, rfl, h1, h2, h3⟩ | ⟨l, rfl, h1, h2⟩
  · rw [encO_copy, List.append_assoc, List.append_assoc, rdO, num_enc _ (by omega)]
    simp only []
    rw [if_neg (by decide), if_pos trivial, num_enc _ (by omega)]
    simp only []
    rw [num_enc _ (by omega)]
  · rw [encO_data, List.append_assoc, List.append_assoc, rdO, num_enc _ (by omega)]
    simp only []
    rw [if_pos trivial, txt_enc _ _ (by omega)]
theorem rdOs_enc (l : List Opx) (more : List UInt8) (h : ∀ o ∈ l, opFault o = 0) : rdOs l.length (encOs l ++ more) = .ok (l, more) := by
  induction l with
  | nil => simp [rdOs, encOs]
  | cons b l ih =>
    rw [encOs_cons, List.append_assoc, List.length_cons, rdOs, rdO_enc b _ (h b (List.mem_cons_self ..))]
    simp only []
    rw [ih fun x hx => h x (List.mem_cons_of_mem _ hx)]
/-- A delta is read as it was written. -/
theorem rdD_enc (l : List Opx) (h : ∀ o ∈ l, opFault o = 0) (hl : l.length ≤ 1000000) (he : (encD l).length ≤ 20000) : rdD (encD l) = .ok l := by
  have e : encD l = enc l.length ++ (encOs l ++ []) := by simp [encD]
  have : rdA (encD l) = .ok l := by
    rw [rdA, if_neg (by omega), e, num_enc _ (by omega)]
    simp only []
    rw [rdOs_enc l [] h]
    simp
  rw [rdD, this]
  simp only [faultO_of h, if_true]

/-! ### One op more -/
def aheadO (l : List Opx) : Except Nat (List Opx × List UInt8) → Except Nat (List Opx × List UInt8)
  | .error c => .error c
  | .ok (m, s) => .ok (l ++ m, s)
theorem aheadO_nil (x : Except Nat (List Opx × List UInt8)) : aheadO [] x = x := by
  cases x with
  | error c => rfl
  | ok p => obtain ⟨m, s⟩ := p; rfl
theorem aheadO_ok {l : List Opx} {k : Nat} {s s1 : List UInt8} {b : Opx} (h : rdO s = .ok (b, s1)) : aheadO l (rdOs (k + 1) s) = aheadO (l ++ [b]) (rdOs k s1) := by
  rw [rdOs, h]
  simp only []
  cases rdOs k s1 with
  | error c => rfl
  | ok p => obtain ⟨m, s⟩ := p; simp [aheadO]
theorem aheadO_error {l : List Opx} {k : Nat} {s : List UInt8} {c : Nat} (h : rdO s = .error c) : aheadO l (rdOs (k + 1) s) = .error c := by
  rw [rdOs, h]; rfl
end Go.Delta

namespace Go.Proofs.YtcenohaadggdiacDoor
open Go.RowKit
open Go.Delta (Opx)

theorem Tryd.info61 : (Tryd.prog.info? 61).map (fun i => (i.zero, i.size, i.bytes)) = some (some (.agg #[.string ⟨#[]⟩, .int .i64 0, .int .i64 0, .string ⟨#[]⟩]), 4, 48) := by kernel_rfl

/-- An op as cells, and as a value. -/
def ocells (o : Opx) : List Value := [.string o.kind, .int .i64 o.at_, .int .i64 o.n, .string o.data]
def oval (o : Opx) : Value := .agg #[.string o.kind, .int .i64 o.at_, .int .i64 o.n, .string o.data]
/-- An op's four cells at block p of the memory. -/
structure OpAt (p : Nat) (w : World) (o : Opx) : Prop where
  c0 : w.cell? ⟨p, 0, none⟩ = some (.string o.kind)
  c1 : w.cell? ⟨p, 1, none⟩ = some (.int .i64 o.at_)
  c2 : w.cell? ⟨p, 2, none⟩ = some (.int .i64 o.n)
  c3 : w.cell? ⟨p, 3, none⟩ = some (.string o.data)
  f0 : w.frozen? ⟨p, 0, none⟩ = false
  f1 : w.frozen? ⟨p, 1, none⟩ = false
  f2 : w.frozen? ⟨p, 2, none⟩ = false
  f3 : w.frozen? ⟨p, 3, none⟩ = false
  lt : p < w.heap.size
theorem OpAt.below {p k : Nat} {w w' : World} {o : Opx} (h : OpAt p w o) (hb : Below k w w') (hp : p < k) : OpAt p w' o :=
  ⟨(hb.cell (p := ⟨p, 0, none⟩) (by simpa using hp)).trans h.c0, (hb.cell (p := ⟨p, 1, none⟩) (by simpa using hp)).trans h.c1, (hb.cell (p := ⟨p, 2, none⟩) (by simpa using hp)).trans h.c2, (hb.cell (p := ⟨p, 3, none⟩) (by simpa using hp)).trans h.c3,
    (hb.frozen (p := ⟨p, 0, none⟩) (by simpa using hp)).trans h.f0, (hb.frozen (p := ⟨p, 1, none⟩) (by simpa using hp)).trans h.f1, (hb.frozen (p := ⟨p, 2, none⟩) (by simpa using hp)).trans h.f2, (hb.frozen (p := ⟨p, 3, none⟩) (by simpa using hp)).trans h.f3, Nat.lt_of_lt_of_le h.lt hb.size⟩
theorem OpAt.fresh (w : World) (o : Opx) (t : TypeId) : OpAt w.heap.size (w.alloc (.cells #[.string o.kind, .int .i64 o.at_, .int .i64 o.n, .string o.data] t)) o :=
  ⟨by simp, by simp, by simp, by simp, by simp, by simp, by simp, by simp, by simp⟩
theorem OpAt.drew {p : Nat} {w : World} {o : Opx} (h : OpAt p w o) : OpAt p w.drew o := ⟨h.c0, h.c1, h.c2, h.c3, h.f0, h.f1, h.f2, h.f3, h.lt⟩

/-- Ops as cells. -/
def ocs (l : List Opx) : List Value := l.flatMap ocells
theorem ocs_snoc (l : List Opx) (o : Opx) : ocs (l ++ [o]) = ocs l ++ ocells o := by simp [ocs]
theorem ocs_append (l m : List Opx) : ocs (l ++ m) = ocs l ++ ocs m := by simp [ocs]
theorem ocs_length (l : List Opx) : (ocs l).length = l.length * 4 := by
  induction l with
  | nil => rfl
  | cons b l ih => rw [ocs, List.flatMap_cons, List.length_append, ← ocs, ih]; simp [ocells]; omega
theorem ocs_get (l : List Opx) (j : Nat) (h : j < l.length) : (ocs l)[j * 4]? = some (.string l[j].kind) ∧ (ocs l)[j * 4 + 1]? = some (.int .i64 l[j].at_) ∧ (ocs l)[j * 4 + 2]? = some (.int .i64 l[j].n) ∧ (ocs l)[j * 4 + 3]? = some (.string l[j].data) := by
  induction l generalizing j with
  | nil => simp at h
  | cons b l ih =>
    rw [ocs, List.flatMap_cons, ← ocs]
    cases j with
    | zero => simp [ocells]
    | succ j =>
      have := ih j (by simpa using h)
      have e : ∀ i, (ocells b ++ ocs l)[(j + 1) * 4 + i]? = (ocs l)[j * 4 + i]? := by
        intro i
        rw [List.getElem?_append_right (by simp [ocells]; omega)]
        congr 1
        simp [ocells]; omega
      have e0 := e 0
      simp only [Nat.add_zero] at e0
      rw [e0, e 1, e 2, e 3]
      simpa using this

/-- A slice that reads as these ops. -/
def ORow (w : World) (v : Value) (l : List Opx) : Prop :=
  ∃ a c, v = .slice a l.length c ∧ (0 < l.length → ∃ b o, a = some ⟨b, o, none⟩ ∧ ∀ j (h : j < l.length), w.cell? ⟨b, o + j * 4, none⟩ = some (.string l[j].kind) ∧ w.cell? ⟨b, o + j * 4 + 1, none⟩ = some (.int .i64 l[j].at_) ∧ w.cell? ⟨b, o + j * 4 + 2, none⟩ = some (.int .i64 l[j].n) ∧ w.cell? ⟨b, o + j * 4 + 3, none⟩ = some (.string l[j].data))
theorem ORow.below {w w' : World} {v : Value} {l : List Opx} (h : ORow w v l) (hb : Below w.heap.size w w') : ORow w' v l := by
  obtain ⟨a, c, rfl, h⟩ := h
  refine ⟨a, c, rfl, fun hp => ?_⟩
  obtain ⟨b, o, rfl, h'⟩ := h hp
  refine ⟨b, o, rfl, fun j hj => ?_⟩
  obtain ⟨h0, h1, h2, h3⟩ := h' j hj
  exact ⟨(hb.cell (World.block_lt_of_cell? _ _ h0)).trans h0, (hb.cell (World.block_lt_of_cell? _ _ h1)).trans h1, (hb.cell (World.block_lt_of_cell? _ _ h2)).trans h2, (hb.cell (World.block_lt_of_cell? _ _ h3)).trans h3⟩
theorem ORow.nil (w : World) : ORow w (.slice none 0 0) [] := ⟨none, 0, rfl, fun h => by simp at h⟩
/-- A row that is owned reads as its ops. -/
theorem ORow.of_own {w : World} {base : Nat} {v : Value} {n : Nat} {l : List Opx} (h : w.ownsRow base 61 4 v n (ocs l)) : ORow w v l := by
  have hl : l.length = n := by have := h.1; rw [ocs_length] at this; omega
  subst hl
  rcases h.2 with ⟨rfl, h0⟩ | ⟨g, c, cur, rfl, _⟩
  · exact ⟨none, 0, by rw [h0], fun hp => by omega⟩
  · refine ⟨_, c, rfl, fun _ => ⟨g, 0, rfl, fun j hj => ?_⟩⟩
    obtain ⟨h0, h1, h2, h3⟩ := ocs_get l j hj
    have k0 := h.cells (g := g) rfl _ _ h0
    have k1 := h.cells (g := g) rfl _ _ h1
    have k2 := h.cells (g := g) rfl _ _ h2
    have k3 := h.cells (g := g) rfl _ _ h3
    rw [Go.WideShapes.add_plain] at k0 k1 k2 k3
    exact ⟨by simpa using k0, by simpa [Nat.add_assoc] using k1, by simpa [Nat.add_assoc] using k2, by simpa [Nat.add_assoc] using k3⟩
end Go.Proofs.YtcenohaadggdiacDoor

namespace Go.Proofs.YtcenohaadggdiacDoor
open Go.RowKit
open Go.Delta (Opx kCopy kData noBytes)

/-- The five errors that are met: what their variables hold. -/
structure OV where
  e : EV
  tS : TypeId
  xS : Value
  tK : TypeId
  xK : Value
/-- The three of them that a check meets. -/
structure OEr3 (e : OV) (w : World) : Prop where
  bound : w.cell? ⟨0, 0, none⟩ = some (.iface e.e.tB e.e.xB)
  shape : w.cell? ⟨5, 0, none⟩ = some (.iface e.tS e.xS)
  kind : w.cell? ⟨6, 0, none⟩ = some (.iface e.tK e.xK)
theorem OEr3.below {e : OV} {w w' : World} (h : OEr3 e w) (hb : Below w.heap.size w w') : OEr3 e w' :=
  ⟨(hb.cell (World.block_lt_of_cell? _ _ h.bound)).trans h.bound, (hb.cell (World.block_lt_of_cell? _ _ h.shape)).trans h.shape, (hb.cell (World.block_lt_of_cell? _ _ h.kind)).trans h.kind⟩
/-- An error by its number. -/
def errO (e : OV) : Nat → Value
  | 3 => .iface e.tS e.xS
  | 4 => .iface e.tK e.xK
  | c => errV e.e c
theorem errO_form (e : OV) (c : Nat) (h : c ≠ 0) : ∃ t x, errO e c = .iface t x := by
  match c, h with
  | 1, _ => exact ⟨_, _, rfl⟩
  | 2, _ => exact ⟨_, _, rfl⟩
  | 3, _ => exact ⟨_, _, rfl⟩
  | 4, _ => exact ⟨_, _, rfl⟩
  | c + 5, _ => exact ⟨_, _, rfl⟩

theorem isMany_ok (n : Int) (w : World) : Calls Tryd.prog 96 #[.int .i64 n] w fun r w' => r = .returned (.bool (decide (1 ≤ n ∧ n ≤ 4000))) ∧ w' = w := by
  by_cases h0 : 1 ≤ n
  · go_enter Tryd.func96, Tryd.ntmps96
    go_wp2
    go_ret
    exact ⟨ret_bool (by simp [h0]), rfl⟩
  · have h0' : decide (1 ≤ n) = false := by simp; omega
    go_enter Tryd.func96, Tryd.ntmps96
    go_wp2
    go_ret
    exact ⟨ret_bool (by simp), rfl⟩

/-- Kinds that are none, as a test tells it. -/
theorem kind_copy {k : ByteArray} (h : k ≠ kCopy) : (k.toList == [99, 111, 112, 121]) = false := by
  rw [beq_eq_false_iff_ne]
  exact fun e => h (bytes_ext (by rw [e, ByteArray.toList_eq]; rfl))
theorem kind_data {k : ByteArray} (h : k ≠ kData) : (k.toList == [100, 97, 116, 97]) = false := by
  rw [beq_eq_false_iff_ne]
  exact fun e => h (bytes_ext (by rw [e, ByteArray.toList_eq]; rfl))
/-- What is wrong with a copy, and with data. -/
def copyFault (o : Opx) : Nat := if o.data ≠ noBytes then 3 else if 0 ≤ o.at_ ∧ o.at_ ≤ 4000 ∧ 1 ≤ o.n ∧ o.n ≤ 4000 then 0 else 2
def dataFault (o : Opx) : Nat := if o.at_ = 0 ∧ o.n = 0 then (if 1 ≤ o.data.size ∧ o.data.size ≤ 4000 then 0 else 2) else 3

set_option maxHeartbeats 1000000 in
set_option maxRecDepth 100000 in
theorem wrongCopy_ok (o : Opx) (e : OV) (w : World) (he : OEr3 e w) : Calls Tryd.prog 79 #[oval o] w fun r w' => r = .returned (errO e (copyFault o)) ∧ Below w.heap.size w w' := by
  obtain ⟨k, a, n, d⟩ := o
  have hB := he.bound
  have hS := he.shape
  have lB := World.block_lt_of_cell? _ _ hB
  have lS := World.block_lt_of_cell? _ _ hS
  have I := hide (fun W => isMany_ok n W)
  unfold oval copyFault
  simp only
  clear he
  by_cases hd : d = noBytes
  · subst hd
    unfold noBytes
    rw [if_neg (by simp)]
    by_cases h0 : a < 0
    · rw [if_neg (by omega)]
      have h0' : decide (a < 0) = true := by simp; omega
      go_enter Tryd.func79, Tryd.ntmps79
      go_wp2
      go_ret
      exact ⟨rfl, (Below.refl _ _).alloc (Nat.le_refl _) _⟩
    · have h0' : decide (a < 0) = false := by simp; omega
      by_cases h1 : 4000 < a
      · rw [if_neg (by omega)]
        have h1' : decide (4000 < a) = true := by simp; omega
        go_enter Tryd.func79, Tryd.ntmps79
        go_wp2
        go_ret
        exact ⟨rfl, (Below.refl _ _).alloc (Nat.le_refl _) _⟩
      · have h1' : decide (4000 < a) = false := by simp; omega
        by_cases h2 : 1 ≤ n ∧ n ≤ 4000
        · rw [if_pos ⟨by omega, by omega, h2⟩]
          rw [show decide (1 ≤ n ∧ n ≤ 4000) = true from decide_eq_true h2] at I
          clear h2
          go_enter Tryd.func79, Tryd.ntmps79
          go_wp2_with fail
          refine (I.out _).mono ?_
          rintro r w1 ⟨rfl, rfl⟩
          go_wp2
          go_ret
          exact ⟨rfl, (Below.refl _ _).alloc (Nat.le_refl _) _⟩
        · rw [if_neg (fun h => h2 h.2.2)]
          rw [show decide (1 ≤ n ∧ n ≤ 4000) = false from decide_eq_false h2] at I
          clear h2
          go_enter Tryd.func79, Tryd.ntmps79
          go_wp2_with fail
          refine (I.out _).mono ?_
          rintro r w1 ⟨rfl, rfl⟩
          go_wp2
          go_ret
          exact ⟨rfl, (Below.refl _ _).alloc (Nat.le_refl _) _⟩
  · rw [if_pos hd]
    have hne : d.toList.isEmpty = false := by
      cases hx : d.toList.isEmpty with
      | false => rfl
      | true => exact absurd (bytes_ext (by rw [List.isEmpty_iff.1 hx, ByteArray.toList_eq]; rfl)) hd
    clear hd
    go_enter Tryd.func79, Tryd.ntmps79
    go_wp2
    go_ret
    exact ⟨rfl, (Below.refl _ _).alloc (Nat.le_refl _) _⟩

set_option maxHeartbeats 1000000 in
set_option maxRecDepth 100000 in
theorem wrongData_ok (o : Opx) (e : OV) (w : World) (he : OEr3 e w) (hs : o.data.size ≤ 1000000) : Calls Tryd.prog 80 #[oval o] w fun r w' => r = .returned (errO e (dataFault o)) ∧ Below w.heap.size w w' := by
  obtain ⟨k, a, n, d⟩ := o
  have hB := he.bound
  have hS := he.shape
  have lB := World.block_lt_of_cell? _ _ hB
  have lS := World.block_lt_of_cell? _ _ hS
  have I := hide (fun W => isMany_ok (d.size : Int) W)
  unfold oval dataFault
  simp only at hs ⊢
  clear he
  by_cases h0 : a = 0
  · subst h0
    by_cases h1 : n = 0
    · subst h1
      rw [if_pos ⟨rfl, rfl⟩]
      by_cases h2 : 1 ≤ d.size ∧ d.size ≤ 4000
      · rw [if_pos h2]
        rw [show decide (1 ≤ (d.size : Int) ∧ (d.size : Int) ≤ 4000) = true from decide_eq_true (by omega)] at I
        clear h2
        go_enter Tryd.func80, Tryd.ntmps80
        go_wp2_with fail
        refine (I.out _).mono ?_
        rintro r w1 ⟨rfl, rfl⟩
        go_wp2
        go_ret
        exact ⟨rfl, (Below.refl _ _).alloc (Nat.le_refl _) _⟩
      · rw [if_neg h2]
        rw [show decide (1 ≤ (d.size : Int) ∧ (d.size : Int) ≤ 4000) = false from decide_eq_false (by omega)] at I
        clear h2
        go_enter Tryd.func80, Tryd.ntmps80
        go_wp2_with fail
        refine (I.out _).mono ?_
        rintro r w1 ⟨rfl, rfl⟩
        go_wp2
        go_ret
        exact ⟨rfl, (Below.refl _ _).alloc (Nat.le_refl _) _⟩
    · rw [if_neg (fun h => h1 h.2)]
      have h1' : (n != 0) = true := by simpa using h1
      clear h1
      go_enter Tryd.func80, Tryd.ntmps80
      go_wp2
      go_ret
      exact ⟨rfl, (Below.refl _ _).alloc (Nat.le_refl _) _⟩
  · rw [if_neg (fun h => h0 h.1)]
    have h0' : (a != 0) = true := by simpa using h0
    clear h0
    go_enter Tryd.func80, Tryd.ntmps80
    go_wp2
    go_ret
    exact ⟨rfl, (Below.refl _ _).alloc (Nat.le_refl _) _⟩

set_option maxHeartbeats 1000000 in
set_option maxRecDepth 100000 in
theorem wrongOp_ok (o : Opx) (e : OV) (w : World) (he : OEr3 e w) (hs : o.data.size ≤ 1000000) : Calls Tryd.prog 52 #[oval o] w fun r w' => r = .returned (errO e (Go.Delta.opFault o)) ∧ Below w.heap.size w w' := by
  have HC := hide (fun W (h : Below w.heap.size w W) => wrongCopy_ok o e W (he.below h))
  have HD := hide (fun W (h : Below w.heap.size w W) => wrongData_ok o e W (he.below h) hs)
  have hK := he.kind
  have lK := World.block_lt_of_cell? _ _ hK
  have ef : Go.Delta.opFault o = if o.kind = kCopy then copyFault o else if o.kind = kData then dataFault o else 4 := rfl
  rw [ef]
  clear ef he
  obtain ⟨k, a, n, d⟩ := o
  unfold oval at HC HD ⊢
  simp only at HC HD ⊢
  generalize copyFault ⟨k, a, n, d⟩ = cf at *
  generalize dataFault ⟨k, a, n, d⟩ = df at *
  by_cases h1 : k = kCopy
  · subst h1
    rw [if_pos rfl]
    unfold kCopy at *
    generalize errO e cf = v at *
    go_enter Tryd.func52, Tryd.ntmps52
    go_wp2_with fail
    refine (HC.out _ ((Below.refl _ _).alloc (Nat.le_refl _) _)).mono ?_
    rintro r w1 ⟨rfl, hb1⟩
    have Hb1 := hide (((Below.refl w.heap.size w).alloc (Nat.le_refl _) (.cells #[.string ⟨#[99, 111, 112, 121]⟩, .int .i64 a, .int .i64 n, .string d] 61)).trans (hb1.mono (by simp)))
    clear hb1
    go_wp2
    go_ret
    exact ⟨rfl, Hb1.out⟩
  · rw [if_neg h1]
    by_cases h2 : k = kData
    · subst h2
      rw [if_pos rfl]
      unfold kData at *
      clear h1
      generalize errO e df = v at *
      go_enter Tryd.func52, Tryd.ntmps52
      go_wp2_with fail
      refine (HD.out _ ((Below.refl _ _).alloc (Nat.le_refl _) _)).mono ?_
      rintro r w1 ⟨rfl, hb1⟩
      have Hb1 := hide (((Below.refl w.heap.size w).alloc (Nat.le_refl _) (.cells #[.string ⟨#[100, 97, 116, 97]⟩, .int .i64 a, .int .i64 n, .string d] 61)).trans (hb1.mono (by simp)))
      clear hb1
      go_wp2
      go_ret
      exact ⟨rfl, Hb1.out⟩
    · rw [if_neg h2]
      have e1 := kind_copy h1
      have e2 := kind_data h2
      clear h1 h2
      go_enter Tryd.func52, Tryd.ntmps52
      go_wp2_with fail
      go_ret
      exact ⟨rfl, (Below.refl _ _).alloc (Nat.le_refl _) _⟩
end Go.Proofs.YtcenohaadggdiacDoor

namespace Go.Proofs.YtcenohaadggdiacDoor
open Go.RowKit

structure OEr (e : OV) (w : World) : Prop where
  er : Er e.e w
  shape : w.cell? ⟨5, 0, none⟩ = some (.iface e.tS e.xS)
  kind : w.cell? ⟨6, 0, none⟩ = some (.iface e.tK e.xK)
theorem OEr.below {e : OV} {w w' : World} (h : OEr e w) (hb : Below w.heap.size w w') : OEr e w' :=
  ⟨h.er.below hb, (hb.cell (World.block_lt_of_cell? _ _ h.shape)).trans h.shape, (hb.cell (World.block_lt_of_cell? _ _ h.kind)).trans h.kind⟩
theorem OEr.three {e : OV} {w : World} (h : OEr e w) : OEr3 e w := ⟨h.er.bound, h.shape, h.kind⟩
instance (e : OV) (w : World) : Coe (OEr e w) (OEr3 e w) := ⟨OEr.three⟩
end Go.Proofs.YtcenohaadggdiacDoor
