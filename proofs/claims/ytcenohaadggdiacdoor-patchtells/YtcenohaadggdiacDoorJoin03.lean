/-
  An argument of type []api.Op reads as ops.
  An argument of type []api.Op is no longer than its room; nil has none.
  Plain mathematics of files that are put together: what an op adds, what ops come to, in parts and at once. No program, no walk.
  What the laws PatchParts and PatchWhole ask of Apply, as a contract over whatever the errors' variables hold; the closed fact of stage 6.
  Plain mathematics of sums that roll: 'wa' (all bytes), 'wb' (each byte times its place from the end), 'weak' (both modulo 65536); what is rolled, and what is joined. No program, no walk.
-/
import Derived.Test.YtcenohaadggdiacDoorJoin02
import Derived.Deep.Slices
import Derived.Deep.Strs
namespace Go.Proofs.YtcenohaadggdiacDoor
open Go.ChangeShapes Go.WideShapes Go.ChangeAt Go.RowKit
open Go.Delta (Opx)

theorem Tryd.ocells61 : Tryd.prog.cellsOf 61 = 4 := by kernel_rfl
theorem Tryd.ocells3 : Tryd.prog.cellsOf 3 = 1 := by kernel_rfl
theorem Tryd.ocells9 : Tryd.prog.cellsOf 9 = 1 := by kernel_rfl
theorem list4 {α : Type} {l : List α} (h : l.length = 4) : ∃ a b c d, l = [a, b, c, d] := by
  match l, h with
  | [a, b, c, d], _ => exact ⟨a, b, c, d, rfl⟩

/-- A struct of four fields. -/
theorem trod_struct4 {H : Type} {enc : TypeId × Value → H} {P : Program} {w : World} {base : Nat} {spare : Nat → Bool} {held : Bool} {t : TypeId} {f0 f1 f2 f3 : Field} {fuel : Nat} {cs : List Value} {x : DataW H × List MemPlace} (ht : P.underlying t = some (.struct #[f0, f1, f2, f3])) (h : DataW.trod enc P w base spare held fuel t cs = some x) :
    ∃ y0 y1 y2 y3 n, DataW.trod enc P w base spare held n f0.type ((cs.drop f0.offset).take (P.cellsOf f0.type)) = some y0 ∧ DataW.trod enc P w base spare held n f1.type ((cs.drop f1.offset).take (P.cellsOf f1.type)) = some y1 ∧
      DataW.trod enc P w base spare held n f2.type ((cs.drop f2.offset).take (P.cellsOf f2.type)) = some y2 ∧ DataW.trod enc P w base spare held n f3.type ((cs.drop f3.offset).take (P.cellsOf f3.type)) = some y3 := by
  obtain ⟨xs, n, _, rfl, hl, hlen, hf⟩ := DataW.trod_struct ht h
  match xs, hlen with
  | [y0, y1, y2, y3], _ => exact ⟨y0, y1, y2, y3, n, by simpa using hf 0 f0 rfl, by simpa using hf 1 f1 rfl, by simpa using hf 2 f2 rfl, by simpa using hf 3 f3 rfl⟩

set_option maxRecDepth 100000 in
/-- One element. -/
theorem op_of_trod {H : Type} {enc : TypeId × Value → H} {W : World} {base : Nat} {spare : Nat → Bool} {held : Bool} {n : Nat} {ad : Addr} {cs : List Value} {x : DataW H × List MemPlace}
    (h1 : W.cells? base ad 4 = some cs) (h2 : DataW.trod enc Tryd.prog W base spare held n 61 cs = some x) :
    ∃ o : Opx, W.cell? (ad.add 0) = some (.string o.kind) ∧ W.cell? (ad.add 1) = some (.int .i64 o.at_) ∧ W.cell? (ad.add 2) = some (.int .i64 o.n) ∧ W.cell? (ad.add 3) = some (.string o.data) := by
  obtain ⟨_, hlen, hcell⟩ := World.cells?_some h1
  obtain ⟨v0, v1, v2, v3, rfl⟩ := list4 hlen
  obtain ⟨y0, y1, y2, y3, k, g0, g1, g2, g3⟩ := trod_struct4 Tryd.underlying61 h2
  simp only [Tryd.ocells3, Tryd.ocells9] at g0 g1 g2 g3
  obtain ⟨z0, e0, _, _⟩ := DataW.trod_string Tryd.underlying9 g0
  obtain ⟨z1, e1, _, _⟩ := DataW.trod_int Tryd.underlying3 g1
  obtain ⟨z2, e2, _, _⟩ := DataW.trod_int Tryd.underlying3 g2
  obtain ⟨z3, e3, _, _⟩ := DataW.trod_string Tryd.underlying9 g3
  simp at e0 e1 e2 e3
  subst e0 e1 e2 e3
  have c0 := hcell 0 (by omega)
  have c1 := hcell 1 (by omega)
  have c2 := hcell 2 (by omega)
  have c3 := hcell 3 (by omega)
  exact ⟨⟨z0, z1, z2, z3⟩, by simpa using c0, by simpa using c1, by simpa using c2, by simpa using c3⟩

theorem orow_of_trod {H : Type} {enc : TypeId × Value → H} {W : World} {base : Nat} {spare : Nat → Bool} {held : Bool} {fuel : Nat} {a : Option Addr} {len cap : Nat} {x : DataW H × List MemPlace}
    (h : DataW.trod enc Tryd.prog W base spare held fuel 30 [.slice a len cap] = some x) : ∃ l : List Opx, l.length = len ∧ ORow W (.slice a l.length cap) l := by
  rcases Go.Deep.open_slice Tryd.underlying30 h with ⟨hcs, _⟩ | ⟨ad, len', cap', m, n, D, Pl, hcs, hb, hl, hm, hmm, rfl, hx⟩
  · simp at hcs
    obtain ⟨rfl, rfl, rfl⟩ := hcs
    exact ⟨[], rfl, ⟨none, 0, rfl, fun h => by simp at h⟩⟩
  · simp at hcs
    obtain ⟨rfl, rfl, rfl⟩ := hcs
    have hlm : len ≤ m := by rw [hmm]; split <;> omega
    have each : ∀ i, i < len → ∃ o : Opx, W.cell? ((ad.add (i * 4)).add 0) = some (.string o.kind) ∧ W.cell? ((ad.add (i * 4)).add 1) = some (.int .i64 o.at_) ∧ W.cell? ((ad.add (i * 4)).add 2) = some (.int .i64 o.n) ∧ W.cell? ((ad.add (i * 4)).add 3) = some (.string o.data) := by
      intro i hi
      obtain ⟨cs', h1, h2⟩ := hx i (by omega)
      rw [Tryd.ocells61] at h1
      exact op_of_trod h1 h2
    obtain ⟨f, hf⟩ := Go.Deep.choose_lt each
    have hll : ((List.range len).map f).length = len := by simp
    refine ⟨(List.range len).map f, hll, ⟨some ad, cap, rfl, fun hp => ?_⟩⟩
    obtain ⟨bl, off, spot⟩ := ad
    have h0 := (hf 0 (by omega)).1
    have hspot : spot = none := by simpa [Addr.add] using World.cell?_spot h0
    subst hspot
    refine ⟨bl, off, rfl, fun j hj => ?_⟩
    have hj' : j < len := by omega
    obtain ⟨k0, k1, k2, k3⟩ := hf j hj'
    have eg : ((List.range len).map f)[j] = f j := by simp
    rw [eg]
    rw [Go.Deep.add_add, add_plain] at k0 k1 k2 k3
    exact ⟨by simpa using k0, by simpa [Nat.add_assoc] using k1, by simpa [Nat.add_assoc] using k2, by simpa [Nat.add_assoc] using k3⟩
end Go.Proofs.YtcenohaadggdiacDoor

namespace Go.Proofs.YtcenohaadggdiacDoor
open Go.ChangeShapes Go.WideShapes Go.ChangeAt Go.RowKit

theorem u32b {a : Int} (h : (Lit.int .u32 a).wf = true) : 0 ≤ a ∧ a < 4294967296 := by
  simp only [Lit.wf, Bool.and_eq_true, decide_eq_true_eq] at h
  have h1 : IntKind.u32.min = 0 := rfl
  have h2 : IntKind.u32.max = 4294967295 := rfl
  omega
theorem ocap_of_trod {H : Type} {enc : TypeId × Value → H} {W : World} {base : Nat} {spare : Nat → Bool} {held : Bool} {fuel : Nat} {a : Option Addr} {len cap : Nat} {x : DataW H × List MemPlace}
    (h : DataW.trod enc Tryd.prog W base spare held fuel 30 [.slice a len cap] = some x) : len ≤ cap ∧ (a = none → cap = 0) := by
  rcases Go.Deep.open_slice Tryd.underlying30 h with ⟨hcs, _⟩ | ⟨ad, len', cap', m, n, D, Pl, hcs, hb, hl, hm, hmm, rfl, hx⟩
  · simp at hcs
    obtain ⟨rfl, rfl, rfl⟩ := hcs
    exact ⟨Nat.le_refl _, fun _ => rfl⟩
  · simp at hcs
    obtain ⟨rfl, rfl, rfl⟩ := hcs
    exact ⟨by omega, fun h => by cases h⟩
end Go.Proofs.YtcenohaadggdiacDoor

namespace Go.Proofs.YtcenohaadggdiacDoor
open Go.Delta (Opx cost copyOp dataOp kCopy kData noBytes opFault)

/-- What an op adds; none: it copies a block that there is not. -/
def pieceO (old : List UInt8) (size : Nat) (o : Opx) : Option (List UInt8) :=
  if o.kind = kCopy then (if (o.at_.toNat + o.n.toNat - 1) * size < old.length then some ((old.drop (o.at_.toNat * size)).take (o.n.toNat * size)) else none) else some o.data.data.toList
theorem pieceO_copy (old : List UInt8) (size a n : Nat) : pieceO old size (copyOp a n) = if (a + n - 1) * size < old.length then some ((old.drop (a * size)).take (n * size)) else none := (if_pos rfl).trans rfl
theorem pieceO_data (old : List UInt8) (size : Nat) (d : List UInt8) : pieceO old size (dataOp d) = some d := by
  unfold pieceO
  rw [if_neg (show ¬ (dataOp d).kind = kCopy from fun e => Go.Delta.kinds_ne e.symm)]
  simp only [dataOp, strL]
/-- Ops over a file, from op i on, behind what is there: an error's number and its place, or the whole. -/
def patchL (old : List UInt8) (size : Nat) : List Opx → Nat → List UInt8 → Except (Nat × Nat) (List UInt8)
  | [], _, out => .ok out
  | o :: r, i, out =>
    match pieceO old size o with
    | none => .error (6, i)
    | some p => if 4000 < out.length + p.length then .error (8, i) else patchL old size r (i + 1) (out ++ p)
theorem patchL_step (old : List UInt8) (size : Nat) (l : List Opx) (j : Nat) (out : List UInt8) (h : j < l.length) :
    patchL old size (l.drop j) j out = match pieceO old size l[j] with | none => .error (6, j) | some p => if 4000 < out.length + p.length then .error (8, j) else patchL old size (l.drop (j + 1)) (j + 1) (out ++ p) := by
  rw [List.drop_eq_getElem_cons h, patchL]
theorem patchL_code (old : List UInt8) (size : Nat) : ∀ (l : List Opx) (i : Nat) (out : List UInt8) (c k : Nat), patchL old size l i out = .error (c, k) → (c = 6 ∨ c = 8) ∧ i ≤ k ∧ k < i + l.length
  | [], _, _, _, _, h => by cases h
  | o :: r, i, out, c, k, h => by
    rw [patchL] at h
    split at h
    · cases h; simp
    · split at h
      · cases h; simp
      · have := patchL_code old size r _ _ _ _ h
        simp; omega
/-- The whole is no longer than it may be. -/
theorem patchL_len (old : List UInt8) (size : Nat) : ∀ (l : List Opx) (i : Nat) (out all : List UInt8), patchL old size l i out = .ok all → out.length ≤ 4000 → all.length ≤ 4000
  | [], _, out, all, h, ho => by cases h; exact ho
  | o :: r, i, out, all, h, ho => by
    rw [patchL] at h
    split at h
    · cases h
    · split at h
      · cases h
      · rename_i p _ hp
        exact patchL_len old size r _ _ _ h (by rw [List.length_append]; omega)
/-- Behind whatever stands there, and at whatever place, it adds the same. -/
theorem patchL_front (old : List UInt8) (size : Nat) : ∀ (l : List Opx) (i j : Nat) (out all : List UInt8), patchL old size l i out = .ok all → ∀ pre, pre.length ≤ out.length → ∃ p, all = out ++ p ∧ patchL old size l j pre = .ok (pre ++ p)
  | [], _, _, out, all, h, pre, _ => by cases h; exact ⟨[], by simp, by simp [patchL]⟩
  | o :: r, i, j, out, all, h, pre, hp => by
    rw [patchL] at h ⊢
    split at h
    · cases h
    · rename_i p hpc
      split at h
      · cases h
      · rename_i hl
        rw [if_neg (by omega)]
        obtain ⟨q, e1, e2⟩ := patchL_front old size r (i + 1) (j + 1) (out ++ p) all h (pre ++ p) (by rw [List.length_append, List.length_append]; omega)
        exact ⟨p ++ q, by rw [e1, List.append_assoc], by rw [e2, List.append_assoc]⟩
theorem patchL_append (old : List UInt8) (size : Nat) : ∀ (a b : List Opx) (i : Nat) (out all : List UInt8), patchL old size (a ++ b) i out = .ok all → ∃ mid, patchL old size a i out = .ok mid ∧ patchL old size b (i + a.length) mid = .ok all
  | [], b, i, out, all, h => ⟨out, rfl, h⟩
  | o :: r, b, i, out, all, h => by
    rw [List.cons_append, patchL] at h
    rw [patchL]
    split at h
    · cases h
    · rename_i p hpc
      split at h
      · cases h
      · rename_i hl
        rw [if_neg hl]
        obtain ⟨mid, e1, e2⟩ := patchL_append old size r b (i + 1) (out ++ p) all h
        exact ⟨mid, e1, by rw [List.length_cons]; rw [show i + (r.length + 1) = i + 1 + r.length by omega]; exact e2⟩
/-- In two parts what it is at once. -/
theorem patchL_parts (old : List UInt8) (size : Nat) (a b : List Opx) (all : List UInt8) (h : patchL old size (a ++ b) 0 [] = .ok all) : ∃ x y, patchL old size a 0 [] = .ok x ∧ patchL old size b 0 [] = .ok y ∧ x ++ y = all := by
  obtain ⟨mid, e1, e2⟩ := patchL_append old size a b 0 [] all h
  obtain ⟨p, e3, e4⟩ := patchL_front old size b _ 0 mid all e2 [] (by simp)
  exact ⟨mid, p, e1, by simpa using e4, e3.symm⟩
/-- Data costs what it is. -/
theorem patchL_cost (old : List UInt8) (size : Nat) : ∀ (l : List Opx) (i : Nat) (out all : List UInt8), (∀ o ∈ l, opFault o = 0) → patchL old size l i out = .ok all → out.length + cost l ≤ all.length
  | [], _, out, all, _, h => by cases h; simp [cost]
  | o :: r, i, out, all, hw, h => by
    rw [patchL] at h
    split at h
    · cases h
    · rename_i p hpc
      split at h
      · cases h
      · have ih := patchL_cost old size r _ _ _ (fun x hx => hw x (List.mem_cons_of_mem _ hx)) h
        rw [List.length_append] at ih
        have hd : o.data.size ≤ p.length := by
          rcases Go.Delta.op_right (hw o (List.mem_cons_self ..)) with ⟨a, n, rfl, _⟩ | ⟨d, rfl, _⟩
          · exact Nat.zero_le _
          · unfold pieceO at hpc
            rw [if_neg (show ¬ (dataOp d).kind = kCopy from fun e => Go.Delta.kinds_ne e.symm)] at hpc
            cases hpc
            rw [lenL]
            exact Nat.le_refl _
        rw [cost]
        omega
/-- What is put together, in one form: the bytes, an error's number, its place. -/
def patchOut (old : List UInt8) (size : Int) (ops : List Opx) : List UInt8 × Nat × Int :=
  if 1 ≤ size ∧ size ≤ 64 ∧ old.length ≤ 4000 then
    (if (Go.Delta.faultO ops).1 = 0 then (match patchL old size.toNat ops 0 [] with | .ok all => (all, 0, -1) | .error (c, i) => ([], c, (i : Int))) else ([], (Go.Delta.faultO ops).1, (Go.Delta.faultO ops).2))
  else ([], 2, -1)
theorem patchOut_len (old : List UInt8) (size : Int) (ops : List Opx) : (patchOut old size ops).1.length ≤ 4000 := by
  unfold patchOut
  split
  · split
    · split
      · rename_i all h
        exact patchL_len _ _ _ _ _ _ h (by simp)
      · simp
    · simp
  · simp
theorem patchOut_bad (old : List UInt8) (size : Int) (ops : List Opx) : (patchOut old size ops).2.1 ≠ 0 → (patchOut old size ops).1 = [] := by
  unfold patchOut
  split
  · split
    · split
      · intro h; exact absurd rfl h
      · intro _; rfl
    · intro _; rfl
  · intro _; rfl
end Go.Proofs.YtcenohaadggdiacDoor

namespace Go.Proofs.YtcenohaadggdiacDoor
open Go.RowKit
open Go.Delta (Opx copyOp dataOp)

/-- Nil where there is no error. -/
structure NilOr (x : Value) (c : Nat) : Prop where
  none : c = 0 → x = .nilIface
  some : c ≠ 0 → ∃ t y, x = .iface t y
/-- The contracts of Apply and Whole where it is asked no more than whether there is an error: Env: what the errors' variables hold. -/
def ApplyEnv (Env : World → Prop) (old : ByteArray) (size : Int) (ops : List Opx) : Prop :=
  ∀ v W, ORow W v ops → Env W → Calls Tryd.prog 21 #[.string old, .int .i64 size, v] W fun r w' =>
    (∃ x, r = .returned (.tuple #[.string (str (patchOut old.data.toList size ops).1), x]) ∧ NilOr x (patchOut old.data.toList size ops).2.1) ∧ Below W.heap.size W w'
def ApplyAll (Env : World → Prop) : Prop := ∀ old size ops, ops.length ≤ 1000 → (∀ o ∈ ops, o.data.size ≤ 1000000) → ApplyEnv Env old size ops

set_option maxHeartbeats 1000000 in
set_option maxRecDepth 100000 in
/-- The closed fact. -/
theorem patched_ok (Env : World → Prop) (w : World) (hS : Env w) (hEB : ∀ w w', Env w → Below w.heap.size w w' → Env w') (hA : ApplyAll Env) :
    Calls Tryd.prog 19 #[] w fun r w' => r = .returned (.bool true) ∧ Below w.heap.size w w' := by
  have HA := hide (hA ⟨#[97, 98, 99, 100, 101, 102, 103]⟩ 3 [copyOp 1 2, dataOp [120]] (by decide) (by decide))
  have e : patchOut (⟨#[97, 98, 99, 100, 101, 102, 103]⟩ : ByteArray).data.toList 3 [copyOp 1 2, dataOp [120]] = ([100, 101, 102, 103, 120], 0, -1) := by decide
  unfold ApplyEnv at HA
  rw [e] at HA
  simp only [show str [100, 101, 102, 103, 120] = ⟨#[100, 101, 102, 103, 120]⟩ from rfl] at HA
  have HE := hide hS
  have HEB := hide hEB
  clear hS hA e hEB
  go_enter Tryd.func19, Tryd.ntmps19
  go_wp2_with fail
  have hb0 : Below w.heap.size w (w.alloc (.cells #[.string ⟨#[99, 111, 112, 121]⟩, .int .i64 1, .int .i64 2, .string ⟨#[]⟩, .string ⟨#[100, 97, 116, 97]⟩, .int .i64 0, .int .i64 0, .string ⟨#[120]⟩] 61)) := (Below.refl _ _).alloc (Nat.le_refl _) _
  refine (HA.out _ _ ⟨_, _, rfl, fun _ => ⟨w.heap.size, 0, rfl, fun j hj => ?_⟩⟩ (HEB.out _ _ HE.out hb0)).mono ?_
  · match j, hj with
    | 0, _ => exact ⟨by simp [copyOp, Go.Delta.kCopy], by simp [copyOp], by simp [copyOp], by simp [copyOp, Go.Delta.noBytes]⟩
    | 1, _ => exact ⟨by simp [dataOp, Go.Delta.kData], by simp [dataOp], by simp [dataOp], by simp [dataOp, str]⟩
  · rintro r w1 ⟨⟨x, rfl, hx⟩, hb1⟩
    have hn := hx.none rfl
    subst hn
    have Hb1 := hide (bthen hb0 hb1)
    clear hb1 hb0 hx
    go_wp2
    go_ret
    exact ⟨rfl, Hb1.out⟩
end Go.Proofs.YtcenohaadggdiacDoor

namespace Go.Weak

def wa : List UInt8 → Nat
  | [] => 0
  | b :: r => b.toNat + wa r
def wb : List UInt8 → Nat
  | [] => 0
  | b :: r => (r.length + 1) * b.toNat + wb r
def weak (l : List UInt8) : Nat := wa l % 65536 + 65536 * (wb l % 65536)

theorem wa_append (l m : List UInt8) : wa (l ++ m) = wa l + wa m := by
  induction l with
  | nil => simp [wa]
  | cons b r ih => simp only [List.cons_append, wa, ih]; omega

theorem wb_append (l m : List UInt8) : wb (l ++ m) = wb l + m.length * wa l + wb m := by
  induction l with
  | nil => simp [wa, wb]
  | cons b r ih =>
    simp only [List.cons_append, wa, wb, ih, List.length_append, Nat.mul_add, Nat.add_mul]
    omega

theorem wa_snoc (l : List UInt8) (b : UInt8) : wa (l ++ [b]) = wa l + b.toNat := by rw [wa_append]; simp [wa]
theorem wb_snoc (l : List UInt8) (b : UInt8) : wb (l ++ [b]) = wb l + wa l + b.toNat := by rw [wb_append]; simp [wb]

theorem weak_lt (l : List UInt8) : weak l < 4294967296 := by unfold weak; omega

/-- The halves of a sum. -/
theorem weak_mod (l : List UInt8) : weak l % 65536 = wa l % 65536 := by unfold weak; omega
theorem weak_div (l : List UInt8) : weak l / 65536 = wb l % 65536 := by unfold weak; omega

theorem take_snoc (l : List UInt8) (i : Nat) (h : i < l.length) : l.take (i + 1) = l.take i ++ [l[i]] := List.take_succ_eq_append_getElem h
theorem drop_cons (l : List UInt8) (i : Nat) (h : i < l.length) : l.drop i = l[i] :: l.drop (i + 1) := List.drop_eq_getElem_cons h

/-- The part of n bytes from i on. -/
def part (l : List UInt8) (i n : Nat) : List UInt8 := (l.drop i).take n

theorem part_length (l : List UInt8) (i n : Nat) (h : i + n ≤ l.length) : (part l i n).length = n := by simp [part]; omega

theorem part_slide (l : List UInt8) (i n : Nat) (hn : 0 < n) (h : i + n < l.length) :
    ∃ r, part l i n = l[i] :: r ∧ part l (i + 1) n = r ++ [l[i + n]] ∧ r.length + 1 = n := by
  obtain ⟨m, rfl⟩ : ∃ m, n = m + 1 := ⟨n - 1, by omega⟩
  refine ⟨(l.drop (i + 1)).take m, ?_, ?_, ?_⟩
  · rw [part, drop_cons l i (by omega), List.take_succ_cons]
  · rw [part, List.take_succ_eq_append_getElem (by simp; omega)]
    simp [Nat.add_comm, Nat.add_left_comm]
  · simp; omega

/-- Rolling, on the halves: the first byte goes, one comes behind. -/
theorem roll_a (b c : UInt8) (r : List UInt8) : (wa (b :: r) : Int) - b.toNat + c.toNat = wa (r ++ [c]) := by
  rw [wa_snoc]; simp only [wa]; omega
theorem roll_b (b c : UInt8) (r : List UInt8) : (wb (b :: r) : Int) - ((r.length + 1 : Nat) : Int) * b.toNat + wa (r ++ [c]) = wb (r ++ [c]) := by
  rw [wb_snoc, wa_snoc]; simp only [wb]
  have := Int.natCast_mul (r.length + 1) b.toNat
  omega

end Go.Weak
