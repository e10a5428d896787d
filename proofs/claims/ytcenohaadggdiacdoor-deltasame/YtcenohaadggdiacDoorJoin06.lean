/-
  Contract of the call that delta.finding answers, over this dump: the block with which a file goes on at a place.
  Plain mathematics of deltas: ops, what is wrong with one, their bytes and how they are read, and the ops that a file comes to. No program, no walk.
  Ops as four cells; slices that read as ops.
  Contracts of delta.growing and of the two calls that it answers, over this dump: ops that grow behind a pointer.
-/
import Derived.Test.YtcenohaadggdiacDoorJoin04
import Derived.Test.YtcenohaadggdiacDoorWeakAll
import Derived.Deep.RegionHeld3
import Derived.Test.YtcenohaadggdiacDoorJoin01
import Derived.OwnWalk
import Derived.WideShapes
import Derived.Deep.AppendLies
import Derived.Deep.RegionLaw
import Derived.Laws.OwnMore
namespace Go.Proofs.YtcenohaadggdiacDoor
open Go.RowKit Go.Maps
open Go.Sign (Blk)

/-- Sums that are rolled along: of each part of size bytes. -/
def Rolled (w : World) (v : Value) (s : List UInt8) (size : Nat) : Prop :=
  ∃ a n c, v = .slice a n c ∧ n = s.length + 1 - size ∧ (0 < n → ∃ g, a = some ⟨g, 0, none⟩ ∧ ∀ j, j < n → w.cell? ⟨g, j, none⟩ = some (.int .i64 (wk ((s.drop j).take size))))
/-- What the call holds of: the sums, the set, the blocks, the file, the size. -/
structure FEnv (b1 b2 b3 b4 b5 m : Nat) (w : World) (L : List Blk) (size : Nat) (s : ByteArray) (rv lv : Value) : Prop where
  c1 : w.cell? ⟨b1, 0, none⟩ = some rv
  c2 : w.cell? ⟨b2, 0, none⟩ = some (.map (some m))
  c3 : w.cell? ⟨b3, 0, none⟩ = some lv
  c4 : w.cell? ⟨b4, 0, none⟩ = some (.string s)
  c5 : w.cell? ⟨b5, 0, none⟩ = some (.int .i64 size)
  hr : Rolled w rv s.data.toList size
  hm : w.ownsMap Tryd.prog 3 unitElem m L.length (wset L)
  hl : RowIn w lv L

theorem look_unit {w : World} {m n : Nat} {D : DataW Unit} (h : w.ownsMap Tryd.prog 3 unitElem m n D) (x : Int) (h0 : 0 ≤ x) (h1 : x < 4294967296) :
    (Instr.lookup 119 (.map (some m)) (.int .i64 x) true).run Tryd.prog w = .ok (.tuple #[.agg #[], .bool (Maps.has D (.int .i64 x))]) w := by
  obtain ⟨v, ps, hrun, hv⟩ := h.look_ok Tryd.keyInt Tryd.underlying119 (Tryd.zeroUnit w) unitElem_mk (keyOf_int_mk Tryd.underlying3 (WalkArith.wf_i64 (by omega)) : keyOf Tryd.prog 3 (.int .i64 x) = _)
  obtain ⟨rfl, _⟩ := unitElem_inv hv
  exact hrun

/-- Where no block has the weak sum, none is found. -/
theorem find_unknown (l : List Blk) (b : Blk) (h : (l.any fun x => x.weak == b.weak) = false) : findOut l b = -1 := by
  have : ∀ (l : List Blk) (j : Nat), (l.any fun x => x.weak == b.weak) = false → findFrom b l j = -1 := by
    intro l
    induction l with
    | nil => intro j _; rfl
    | cons x r ih =>
      intro j h
      rw [List.any_cons, Bool.or_eq_false_iff] at h
      rw [findFrom, if_neg (fun e => by rw [e] at h; simp at h)]
      exact ih _ h.2
  exact this l 0 h

set_option maxHeartbeats 2000000 in
set_option maxRecDepth 100000 in
theorem find_rest (b1 b2 b3 b4 b5 m : Nat) (w : World) (L : List Blk) (size : Nat) (s : ByteArray) (rv lv : Value) (h : FEnv b1 b2 b3 b4 b5 m w L size s rv lv) (at_ : Nat)
    (hs : s.size ≤ 4000) (hz : size ≤ 64) (hL : L.length ≤ 1000000) (ha : at_ < s.size) (hge : s.size < at_ + size) :
    Calls Tryd.prog 78 #[.int .i64 at_, .pointer (some ⟨b1, 0, none⟩), .pointer (some ⟨b2, 0, none⟩), .pointer (some ⟨b3, 0, none⟩), .pointer (some ⟨b4, 0, none⟩), .pointer (some ⟨b5, 0, none⟩)] w
      fun r w' => r = .returned (.int .i64 (findOut L (blk ((s.data.toList.drop at_).take size)))) ∧ Below w.heap.size w w' := by
  obtain ⟨c1, c2, c3, c4, c5, hr, hm, hl⟩ := h
  obtain ⟨a, n, c, rfl, hn, _⟩ := hr
  rw [lenL] at hn
  have hw : (s.extract at_ s.size).data.toList = (s.data.toList.drop at_).take size := by
    rw [extractL, List.take_of_length_le (by rw [List.length_drop, lenL]; omega), List.take_of_length_le (by rw [List.length_drop, lenL]; omega)]
  have HF := hide (fun W (k : Below w.heap.size w W) => find_ok lv L (s.extract at_ s.size) W (hl.below k) hL (by rw [ByteArray.size_extract]; omega))
  rw [hw] at HF
  have hna : n ≤ at_ := by omega
  have hge' : (s.size : Int) < (at_ : Int) + (size : Int) := by omega
  have hwr : IntKind.i64.wrap ((at_ : Int) + (size : Int)) = (at_ : Int) + (size : Int) := iwrap_id _ (by omega) (by omega)
  have i0 : (0 : Int) ≤ (at_ : Int) := by omega
  have i1 : (at_ : Int) ≤ (s.size : Int) := by omega
  generalize blk ((s.data.toList.drop at_).take size) = bk at *
  clear hm hl hw hn
  go_enter Tryd.func78, Tryd.ntmps78
  go_wp2_with fail
  go_region_held3 (fun w' => w'.cell? ⟨b3, 0, none⟩ = some lv ∧ w'.cell? ⟨b4, 0, none⟩ = some (.string s) ∧ w'.cell? ⟨b5, 0, none⟩ = some (.int .i64 size))
    (first | go_keep | exact trivial)
    (first | (go_at_call 30; refine (HF.out _ (Below.refl _ _).drew).mono ?_; rintro e w1 ⟨rfl, hb1⟩; have k3 := (hb1.cell (World.block_lt_of_cell? _ _ c3)).trans c3; have k4 := (hb1.cell (World.block_lt_of_cell? _ _ c4)).trans c4; have k5 := (hb1.cell (World.block_lt_of_cell? _ _ c5)).trans c5))
  all_goals
    have Hb1 := hide hb1
    clear hb1
    go_wp2
    go_ret
    exact ⟨rfl, (Below.refl _ _).drew.trans Hb1.out⟩

set_option maxHeartbeats 2000000 in
set_option maxRecDepth 100000 in
theorem find_known (b1 b2 b3 b4 b5 m : Nat) (w : World) (L : List Blk) (size : Nat) (s : ByteArray) (rv lv : Value) (h : FEnv b1 b2 b3 b4 b5 m w L size s rv lv) (at_ : Nat)
    (hs : s.size ≤ 4000) (hz : size ≤ 64) (hz0 : 1 ≤ size) (hL : L.length ≤ 1000000) (hge : at_ + size ≤ s.size) :
    Calls Tryd.prog 78 #[.int .i64 at_, .pointer (some ⟨b1, 0, none⟩), .pointer (some ⟨b2, 0, none⟩), .pointer (some ⟨b3, 0, none⟩), .pointer (some ⟨b4, 0, none⟩), .pointer (some ⟨b5, 0, none⟩)] w
      fun r w' => r = .returned (.int .i64 (findOut L (blk ((s.data.toList.drop at_).take size)))) ∧ Below w.heap.size w w' := by
  obtain ⟨c1, c2, c3, c4, c5, hr, hm, hl⟩ := h
  obtain ⟨a, n, c, rfl, hn, hr⟩ := hr
  rw [lenL] at hn
  have hna : at_ < n := by omega
  obtain ⟨g, rfl, hc⟩ := hr (by omega)
  have cg := hc at_ hna
  have hw : (s.extract at_ (at_ + size)).data.toList = (s.data.toList.drop at_).take size := by
    rw [extractL]; congr 1; omega
  have HF := hide (fun W (k : Below w.heap.size w W) => find_ok lv L (s.extract at_ (at_ + size)) W (hl.below k) hL (by rw [ByteArray.size_extract]; omega))
  rw [hw] at HF
  have hwb := wk_bounds ((s.data.toList.drop at_).take size)
  have HK := hide (has_wset L (wk ((s.data.toList.drop at_).take size)))
  have hge' : (at_ : Int) + (size : Int) ≤ (s.size : Int) := by omega
  have hna' : (at_ : Int) < (n : Int) := by omega
  have hif : (if (s.size : Int) < (at_ : Int) + (size : Int) then (s.size : Int) else (at_ : Int) + (size : Int)) = (at_ : Int) + (size : Int) := if_neg (by omega)
  have hwr : IntKind.i64.wrap ((at_ : Int) + (size : Int)) = (at_ : Int) + (size : Int) := iwrap_id _ (by omega) (by omega)
  have i0 : (0 : Int) ≤ (at_ : Int) := by omega
  have i1 : (at_ : Int) ≤ (at_ : Int) + (size : Int) := by omega
  have Hu := hide (find_unknown L (blk ((s.data.toList.drop at_).take size)))
  rw [show (blk ((s.data.toList.drop at_).take size)).weak = wk ((s.data.toList.drop at_).take size) from rfl] at Hu
  have HL := hide (fun (W : World) (k : W.ownsMap Tryd.prog 3 unitElem m L.length (wset L)) => look_unit k (wk ((s.data.toList.drop at_).take size)) hwb.1 hwb.2)
  generalize findOut L (blk ((s.data.toList.drop at_).take size)) = R at *
  generalize wk ((s.data.toList.drop at_).take size) = x at *
  rw [HK.out] at HL
  have Hm := hide hm
  clear hc hm hl hw hn hr HK
  generalize (L.any fun b => b.weak == x) = known at *
  have t1 := HL.out w.drew Hm.out.drew
  have t2 := fun o => HL.out (w.alloc o).drew (Hm.out.alloc o).drew
  cases known with
  | false =>
    have hR := Hu.out rfl
    subst hR
    go_enter Tryd.func78, Tryd.ntmps78
    go_wp2_with fail
    go_region_held3 (fun w' => w'.cell? ⟨b1, 0, none⟩ = some (.slice (some ⟨g, 0, none⟩) n c) ∧ w'.cell? ⟨b2, 0, none⟩ = some (.map (some m)) ∧ w'.cell? ⟨g, at_, none⟩ = some (.int .i64 x) ∧ (Instr.lookup 119 (.map (some m)) (.int .i64 x) true).run Tryd.prog w' = .ok (.tuple #[.agg #[], .bool false]) w')
      (go_keep)
      (fail)
    all_goals
      clear t1 t2 HL HF
      go_wp2
      go_ret
      exact ⟨rfl, ((Below.refl _ _).alloc (Nat.le_refl _) _).drew⟩
  | true =>
    have hbn : Below w.heap.size w (w.alloc (.cells #[] 121)).drew := ((Below.refl _ _).alloc (Nat.le_refl _) _).drew
    have e3 := (hbn.cell (World.block_lt_of_cell? _ _ c3)).trans c3
    have e4 := (hbn.cell (World.block_lt_of_cell? _ _ c4)).trans c4
    have e5 := (hbn.cell (World.block_lt_of_cell? _ _ c5)).trans c5
    have Hbn := hide hbn
    have H3 := hide e3
    have H4 := hide e4
    have H5 := hide e5
    clear hbn e3 e4 e5
    go_enter Tryd.func78, Tryd.ntmps78
    go_wp2_with fail
    go_region_held3 (fun w' => w'.cell? ⟨b1, 0, none⟩ = some (.slice (some ⟨g, 0, none⟩) n c) ∧ w'.cell? ⟨b2, 0, none⟩ = some (.map (some m)) ∧ w'.cell? ⟨g, at_, none⟩ = some (.int .i64 x) ∧ (Instr.lookup 119 (.map (some m)) (.int .i64 x) true).run Tryd.prog w' = .ok (.tuple #[.agg #[], .bool true]) w')
      (go_keep)
      (fail)
    all_goals
      clear t1 t2 HL c1 c2 c3 c4 c5 cg hna hna'
      have c3 := H3.out
      have c4 := H4.out
      have c5 := H5.out
      generalize (w.alloc (.cells #[] 121)).drew = w2 at *
      go_wp2_with fail
      go_region_held3 (fun w' => w'.cell? ⟨b3, 0, none⟩ = some lv ∧ w'.cell? ⟨b4, 0, none⟩ = some (.string s) ∧ w'.cell? ⟨b5, 0, none⟩ = some (.int .i64 size))
        (first | go_keep | exact trivial)
        (first | (go_at_call 30; refine (HF.out _ Hbn.out.drew).mono ?_; rintro e w1 ⟨rfl, hb1⟩; have k3 := (hb1.cell (World.block_lt_of_cell? _ _ c3)).trans c3; have k4 := (hb1.cell (World.block_lt_of_cell? _ _ c4)).trans c4; have k5 := (hb1.cell (World.block_lt_of_cell? _ _ c5)).trans c5))
      all_goals
        have Hb1 := hide hb1
        clear hb1
        go_wp2
        go_ret
        exact ⟨rfl, bthen (Hbn.out.drew) Hb1.out⟩

theorem findAt_ok (b1 b2 b3 b4 b5 m : Nat) (w : World) (L : List Blk) (size : Nat) (s : ByteArray) (rv lv : Value) (h : FEnv b1 b2 b3 b4 b5 m w L size s rv lv) (at_ : Nat)
    (hs : s.size ≤ 4000) (hz : size ≤ 64) (hz0 : 1 ≤ size) (hL : L.length ≤ 1000000) (ha : at_ < s.size) :
    Calls Tryd.prog 78 #[.int .i64 at_, .pointer (some ⟨b1, 0, none⟩), .pointer (some ⟨b2, 0, none⟩), .pointer (some ⟨b3, 0, none⟩), .pointer (some ⟨b4, 0, none⟩), .pointer (some ⟨b5, 0, none⟩)] w
      fun r w' => r = .returned (.int .i64 (findOut L (blk ((s.data.toList.drop at_).take size)))) ∧ Below w.heap.size w w' := by
  by_cases hge : at_ + size ≤ s.size
  · exact find_known b1 b2 b3 b4 b5 m w L size s rv lv h at_ hs hz hz0 hL hge
  · exact find_rest b1 b2 b3 b4 b5 m w L size s rv lv h at_ hs hz hL ha (by omega)
end Go.Proofs.YtcenohaadggdiacDoor

namespace Go.Delta
open Go.Num Go.Sign
open Go.Proofs.YtcenohaadggdiacDoor (str strL lenL str_len ext_of_list appendL)

/-- An op. -/
structure Opx where
  kind : ByteArray
  at_ : Int
  n : Int
  data : ByteArray
deriving DecidableEq, Inhabited

def kCopy : ByteArray := ⟨#[99, 111, 112, 121]⟩
def kData : ByteArray := ⟨#[100, 97, 116, 97]⟩
def noBytes : ByteArray := ⟨#[]⟩
theorem kinds_ne : kCopy ≠ kData := by decide
def copyOp (k n : Int) : Opx := ⟨kCopy, k, n, noBytes⟩
def dataOp (l : List UInt8) : Opx := ⟨kData, 0, 0, str l⟩

/-! ### What a file comes to -/
def addCopy (out : List Opx) (k : Int) : List Opx :=
  match out.getLast? with
  | some o => if o.kind = kCopy ∧ o.at_ + o.n = k then out.dropLast ++ [⟨o.kind, o.at_, o.n + 1, o.data⟩] else out ++ [copyOp k 1]
  | none => out ++ [copyOp k 1]
def addData (out : List Opx) (l : List UInt8) : List Opx := if l = [] then out else out ++ [dataOp l]
def addByte (out : List Opx) (b : UInt8) : List Opx :=
  match out.getLast? with
  | some o => if o.kind = kData then out.dropLast ++ [⟨o.kind, o.at_, o.n, o.data ++ str [b]⟩] else out ++ [dataOp [b]]
  | none => out ++ [dataOp [b]]
theorem addCopy_nil (k : Int) : addCopy [] k = [copyOp k 1] := rfl
theorem addCopy_snoc (r : List Opx) (o : Opx) (k : Int) : addCopy (r ++ [o]) k = if o.kind = kCopy ∧ o.at_ + o.n = k then r ++ [⟨o.kind, o.at_, o.n + 1, o.data⟩] else r ++ [o] ++ [copyOp k 1] := by
  simp [addCopy]
theorem addByte_nil (b : UInt8) : addByte [] b = [dataOp [b]] := rfl
theorem addByte_snoc (r : List Opx) (o : Opx) (b : UInt8) : addByte (r ++ [o]) b = if o.kind = kData then r ++ [⟨o.kind, o.at_, o.n, o.data ++ str [b]⟩] else r ++ [o] ++ [dataOp [b]] := by
  simp [addByte]

section
variable (find : List UInt8 → Int) (size : Nat)

/-- As the document tells it: from what is left, behind the ops so far. -/
def gd : List UInt8 → List Opx → List Opx
  | [], out => out
  | b :: r, out => if 0 ≤ find ((b :: r).take size) then gd (r.drop (size - 1)) (addCopy out (find ((b :: r).take size))) else gd r (addByte out b)
termination_by l => l.length
decreasing_by all_goals (simp; try omega)

/-- As the program does it: bytes that are new wait till a block is found. -/
def pd : List UInt8 → List UInt8 → List Opx → List Opx
  | [], pend, out => addData out pend
  | b :: r, pend, out => if 0 ≤ find ((b :: r).take size) then pd (r.drop (size - 1)) [] (addCopy (addData out pend) (find ((b :: r).take size))) else pd r (pend ++ [b]) out
termination_by l => l.length
decreasing_by all_goals (simp; try omega)

def NotData (out : List Opx) : Prop := ∀ o, out.getLast? = some o → o.kind ≠ kData
theorem notData_nil : NotData [] := fun o h => by simp at h
theorem notData_copy (out : List Opx) (k : Int) : NotData (addCopy out k) := by
  intro o h
  have aux : ∀ x : Opx, x.kind = kCopy → o = x → o.kind ≠ kData := fun x hx e => by rw [e, hx]; exact kinds_ne
  unfold addCopy at h
  split at h
  · split at h
    · rename_i hc
      simp at h
      subst h
      simp only
      rw [hc.1]; exact kinds_ne
    · simp at h; exact aux _ rfl h.symm
  · simp at h; exact aux _ rfl h.symm
theorem addByte_data {out : List Opx} (h : NotData out) (l : List UInt8) (b : UInt8) : addByte (addData out l) b = addData out (l ++ [b]) := by
  unfold addData
  rw [if_neg (show ¬ l ++ [b] = [] by simp)]
  by_cases hl : l = []
  · subst hl
    rw [if_pos rfl, List.nil_append]
    rcases List.eq_nil_or_concat out with rfl | ⟨r, o, rfl⟩
    · rfl
    · rw [List.concat_eq_append] at h ⊢
      rw [addByte_snoc, if_neg (h o (by simp))]
  · rw [if_neg hl, addByte_snoc, if_pos (show (dataOp l).kind = kData from rfl)]
    simp only [dataOp]
    rw [Go.Proofs.YtcenohaadggdiacDoor.str_app]
theorem pd_gd : ∀ (m : Nat) (rest pend : List UInt8) (out : List Opx), rest.length ≤ m → NotData out → pd find size rest pend out = gd find size rest (addData out pend) := by
  intro m
  induction m with
  | zero =>
    intro rest pend out hl h
    have : rest = [] := List.length_eq_zero_iff.1 (by omega)
    subst this
    rw [pd, gd]
  | succ m ih =>
    intro rest pend out hl h
    cases rest with
    | nil => rw [pd, gd]
    | cons b r =>
      rw [List.length_cons] at hl
      rw [pd, gd]
      split
      · rw [ih _ _ _ (by simp; omega) (notData_copy _ _)]
        simp [addData]
      · rw [ih _ _ _ (by omega) h, addByte_data h]
theorem pd_all (s : List UInt8) : pd find size s [] [] = gd find size s [] := by
  rw [pd_gd find size s.length s [] [] (Nat.le_refl _) notData_nil]
  simp [addData]
end

/-! ### What is wrong with an op -/
def opFault (o : Opx) : Nat :=
  if o.kind = kCopy then (if o.data ≠ noBytes then 3 else if 0 ≤ o.at_ ∧ o.at_ ≤ 4000 ∧ 1 ≤ o.n ∧ o.n ≤ 4000 then 0 else 2)
  else if o.kind = kData then (if o.at_ = 0 ∧ o.n = 0 then (if 1 ≤ o.data.size ∧ o.data.size ≤ 4000 then 0 else 2) else 3)
  else 4
theorem opFault_code (o : Opx) : opFault o = 0 ∨ opFault o = 2 ∨ opFault o = 3 ∨ opFault o = 4 := by
  unfold opFault
  repeat' split
  all_goals simp
/-- The first wrong one from place i on: its place and an error's number. -/
def scanO : List Opx → Nat → Option (Nat × Nat)
  | [], _ => none
  | o :: r, i => if opFault o = 0 then scanO r (i + 1) else some (i, opFault o)
theorem scanO_none : ∀ (l : List Opx) (i : Nat), scanO l i = none ↔ ∀ o ∈ l, opFault o = 0
  | [], i => by simp [scanO]
  | o :: r, i => by
    rw [scanO]
    split
    · rename_i h; rw [scanO_none r]; simp [h]
    · rename_i h; simp [h]
theorem scanO_code : ∀ (l : List Opx) (i k c : Nat), scanO l i = some (k, c) → (c = 2 ∨ c = 3 ∨ c = 4) ∧ k < i + l.length
  | [], _, _, _, h => by cases h
  | o :: r, i, k, c, h => by
    rw [scanO] at h
    split at h
    · have := scanO_code r _ _ _ h; simp; omega
    · rename_i hz
      cases h
      have := opFault_code o
      simp; omega
theorem scanO_step (l : List Opx) (j : Nat) (h : j < l.length) : scanO (l.drop j) j = if opFault l[j] = 0 then scanO (l.drop (j + 1)) (j + 1) else some (j, opFault l[j]) := by
  rw [List.drop_eq_getElem_cons h, scanO]
/-- An error's number (0: none) and its place (-1: nowhere). -/
def faultO (l : List Opx) : Nat × Int := match scanO l 0 with | none => (0, -1) | some (i, c) => (c, i)
theorem faultO_zero {l : List Opx} (h : (faultO l).1 = 0) : ∀ o ∈ l, opFault o = 0 := by
  rw [← scanO_none l 0]
  unfold faultO at h
  split at h
  · assumption
  · rename_i i c hc
    have := (scanO_code _ _ _ _ hc).1
    simp at h; omega
theorem faultO_of {l : List Opx} (h : ∀ o ∈ l, opFault o = 0) : faultO l = (0, -1) := by
  unfold faultO
  rw [(scanO_none l 0).2 h]

/-- A right op is a copy, or data. -/
theorem op_right {o : Opx} (h : opFault o = 0) : (∃ a n : Nat, o = copyOp a n ∧ a ≤ 4000 ∧ 1 ≤ n ∧ n ≤ 4000) ∨ (∃ l : List UInt8, o = dataOp l ∧ 1 ≤ l.length ∧ l.length ≤ 4000) := by
  obtain ⟨k, a, n, d⟩ := o
  unfold opFault at h
  simp only at h
  split at h
  · rename_i hk
    split at h
    · cases h
    · rename_i hd
      split at h
      · rename_i hb
        left
        refine ⟨a.toNat, n.toNat, ?_, by omega, by omega, by omega⟩
        have hd' : d = noBytes := Classical.byContradiction fun e => hd e
        subst hd' hk
        simp only [copyOp, Opx.mk.injEq, true_and, and_true]
        omega
      · cases h
  · split at h
    · rename_i hk
      split at h
      · rename_i h0
        split at h
        · rename_i hb
          right
          obtain ⟨rfl, rfl⟩ := h0
          subst hk
          refine ⟨d.data.toList, ?_, by rw [lenL]; exact hb.1, by rw [lenL]; exact hb.2⟩
          simp only [dataOp, Opx.mk.injEq, true_and]
          exact ext_of_list (by rw [strL])
        · cases h
      · cases h
    · cases h
theorem opFault_copy {a n : Nat} (h : a ≤ 4000) (h1 : 1 ≤ n) (h2 : n ≤ 4000) : opFault (copyOp a n) = 0 := by
  unfold opFault copyOp
  simp only
  rw [if_pos trivial, if_neg (by simp), if_pos (by omega)]
theorem opFault_data {l : List UInt8} (h1 : 1 ≤ l.length) (h2 : l.length ≤ 4000) : opFault (dataOp l) = 0 := by
  unfold opFault dataOp
  simp only
  rw [if_neg (fun e => kinds_ne e.symm), if_pos trivial, if_pos ⟨trivial, trivial⟩, if_pos (by rw [str_len]; omega)]

/-! ### Bytes -/
def encO (o : Opx) : List UInt8 := if o.kind = kData then enc 1 ++ (enc o.data.size ++ o.data.data.toList) else enc 0 ++ (enc o.at_.toNat ++ enc o.n.toNat)
def encOs (l : List Opx) : List UInt8 := (l.map encO).flatten
theorem encOs_snoc (l : List Opx) (o : Opx) : encOs (l ++ [o]) = encOs l ++ encO o := by simp [encOs]
theorem encOs_cons (o : Opx) (l : List Opx) : encOs (o :: l) = encO o ++ encOs l := by simp [encOs]
def encD (l : List Opx) : List UInt8 := enc l.length ++ encOs l
theorem encO_copy (a n : Nat) : encO (copyOp a n) = enc 0 ++ (enc a ++ enc n) := by
  unfold encO copyOp
  simp only
  rw [if_neg kinds_ne]
  simp
theorem encO_data (l : List UInt8) : encO (dataOp l) = enc 1 ++ (enc l.length ++ l) := by
  unfold encO dataOp
  simp only
  rw [if_pos trivial, str_len, strL]
theorem encO_length (o : Opx) : (encO o).length ≤ 18 + o.data.size := by
  have := enc_length_le o.data.size; have := enc_length_le 1; have := enc_length_le 0; have := enc_length_le o.at_.toNat; have := enc_length_le o.n.toNat
  unfold encO
  split
  · have := lenL o.data; simp at *; omega
  · simp; omega

/-- Bytes of all data. -/
def cost : List Opx → Nat
  | [] => 0
  | o :: r => o.data.size + cost r
theorem cost_append (a b : List Opx) : cost (a ++ b) = cost a + cost b := by
  induction a with
  | nil => simp [cost]
  | cons o r ih => rw [List.cons_append, cost, cost, ih]; omega
theorem cost_snoc (a : List Opx) (o : Opx) : cost (a ++ [o]) = cost a + o.data.size := by rw [cost_append]; simp [cost]
theorem encOs_length (l : List Opx) : (encOs l).length ≤ 18 * l.length + cost l := by
  induction l with
  | nil => simp [encOs]
  | cons o l ih => rw [encOs_cons, List.length_append, List.length_cons, cost]; have := encO_length o; omega

/-! ### Reading -/
/-- A text behind its length, and what is left. -/
def txt (s : List UInt8) : Except Nat (List UInt8 × List UInt8) :=
  match num s with
  | .error c => .error c
  | .ok (n, s1) => if 20000 < n then .error 2 else if s1.length < n then .error 1 else .ok (s1.take n, s1.drop n)
def rdO (s : List UInt8) : Except Nat (Opx × List UInt8) :=
  match num s with
  | .error c => .error c
  | .ok (k, s1) =>
    if k = 1 then (match txt s1 with | .error c => .error c | .ok (d, s2) => .ok (dataOp d, s2))
    else if k = 0 then (match num s1 with | .error c => .error c | .ok (a, s2) => (match num s2 with | .error c => .error c | .ok (n, s3) => .ok (copyOp a n, s3)))
    else .error 1
def rdOs : Nat → List UInt8 → Except Nat (List Opx × List UInt8)
  | 0, s => .ok ([], s)
  | k + 1, s =>
    match rdO s with
    | .error c => .error c
    | .ok (b, s1) =>
      match rdOs k s1 with
      | .error c => .error c
      | .ok (l, s2) => .ok (b :: l, s2)
/-- Just these bytes, but not looked at. -/
def rdA (s : List UInt8) : Except Nat (List Opx) :=
  if 20000 < s.length then .error 2 else
  match num s with
  | .error c => .error c
  | .ok (many, s1) =>
    match rdOs many s1 with
    | .error c => .error c
    | .ok (l, s2) => if s2 = [] then .ok l else .error 1
def rdD (s : List UInt8) : Except Nat (List Opx) :=
  match rdA s with
  | .error c => .error c
  | .ok l => if (faultO l).1 = 0 then .ok l else .error (faultO l).1

theorem txt_enc (l more : List UInt8) (h : l.length ≤ 20000) : txt (enc l.length ++ (l ++ more)) = .ok (l, more) := by
  rw [txt, num_enc _ (by omega)]
  simp only []
  rw [if_neg (by omega), if_neg (by simp)]
  simp
theorem rdO_enc (o : Opx) (more : List UInt8) (h : opFault o = 0) : rdO (encO o ++ more) = .ok (o, more) := by
  rcases op_right h with ⟨a, n, rfl, h1, h2, h3⟩ | ⟨l, rfl, h1, h2⟩
  · rw [encO_copy, List.append_assoc, List.append_assoc, rdO, num_enc _ (by omega)]
    simp only []
    rw [if_neg (by decide), if_pos trivial, num_enc _ (by omega)]
    simp only []
    rw [num_enc _ (by omega)]
  · rw [encO_data, List.append_assoc, List.append_assoc, rdO, num_enc _ (by omega)]
    simp only []
    rw [if_pos trivial, txt_enc _ _ (by omega)]
theorem rdOs_enc (l : List Opx) (more : List UInt8) (h : ∀ o ∈ l, opFault o = 0) : rdOs l.length (encOs l ++ more) = .ok (l, more) := by
  induction l with
  | nil => simp [rdOs, encOs]
  | cons b l ih =>
    rw [encOs_cons, List.append_assoc, List.length_cons, rdOs, rdO_enc b _ (h b (List.mem_cons_self ..))]
    simp only []
    rw [ih fun x hx => h x (List.mem_cons_of_mem _ hx)]
/-- A delta is read as it was written. -/
theorem rdD_enc (l : List Opx) (h : ∀ o ∈ l, opFault o = 0) (hl : l.length ≤ 1000000) (he : (encD l).length ≤ 20000) : rdD (encD l) = .ok l := by
  have e : encD l = enc l.length ++ (encOs l ++ []) := by simp [encD]
  have : rdA (encD l) = .ok l := by
    rw [rdA, if_neg (by omega), e, num_enc _ (by omega)]
    simp only []
    rw [rdOs_enc l [] h]
    simp
  rw [rdD, this]
  simp only [faultO_of h, if_true]

/-! ### One op more -/
def aheadO (l : List Opx) : Except Nat (List Opx × List UInt8) → Except Nat (List Opx × List UInt8)
  | .error c => .error c
  | .ok (m, s) => .ok (l ++ m, s)
theorem aheadO_nil (x : Except Nat (List Opx × List UInt8)) : aheadO [] x = x := by
  cases x with
  | error c => rfl
  | ok p => obtain ⟨m, s⟩ := p; rfl
theorem aheadO_ok {l : List Opx} {k : Nat} {s s1 : List UInt8} {b : Opx} (h : rdO s = .ok (b, s1)) : aheadO l (rdOs (k + 1) s) = aheadO (l ++ [b]) (rdOs k s1) := by
  rw [rdOs, h]
  simp only []
  cases rdOs k s1 with
  | error c => rfl
  | ok p => obtain ⟨m, s⟩ := p; simp [aheadO]
theorem aheadO_error {l : List Opx} {k : Nat} {s : List UInt8} {c : Nat} (h : rdO s = .error c) : aheadO l (rdOs (k + 1) s) = .error c := by
  rw [rdOs, h]; rfl
end Go.Delta

namespace Go.Proofs.YtcenohaadggdiacDoor
open Go.RowKit
open Go.Delta (Opx)

theorem Tryd.info61 : (Tryd.prog.info? 61).map (fun i => (i.zero, i.size, i.bytes)) = some (some (.agg #[.string ⟨#[]⟩, .int .i64 0, .int .i64 0, .string ⟨#[]⟩]), 4, 48) := by kernel_rfl

/-- An op as cells, and as a value. -/
def ocells (o : Opx) : List Value := [.string o.kind, .int .i64 o.at_, .int .i64 o.n, .string o.data]
def oval (o : Opx) : Value := .agg #[.string o.kind, .int .i64 o.at_, .int .i64 o.n, .string o.data]
/-- An op's four cells at block p of the memory. -/
structure OpAt (p : Nat) (w : World) (o : Opx) : Prop where
  c0 : w.cell? ⟨p, 0, none⟩ = some (.string o.kind)
  c1 : w.cell? ⟨p, 1, none⟩ = some (.int .i64 o.at_)
  c2 : w.cell? ⟨p, 2, none⟩ = some (.int .i64 o.n)
  c3 : w.cell? ⟨p, 3, none⟩ = some (.string o.data)
  f0 : w.frozen? ⟨p, 0, none⟩ = false
  f1 : w.frozen? ⟨p, 1, none⟩ = false
  f2 : w.frozen? ⟨p, 2, none⟩ = false
  f3 : w.frozen? ⟨p, 3, none⟩ = false
  lt : p < w.heap.size
theorem OpAt.below {p k : Nat} {w w' : World} {o : Opx} (h : OpAt p w o) (hb : Below k w w') (hp : p < k) : OpAt p w' o :=
  ⟨(hb.cell (p := ⟨p, 0, none⟩) (by simpa using hp)).trans h.c0, (hb.cell (p := ⟨p, 1, none⟩) (by simpa using hp)).trans h.c1, (hb.cell (p := ⟨p, 2, none⟩) (by simpa using hp)).trans h.c2, (hb.cell (p := ⟨p, 3, none⟩) (by simpa using hp)).trans h.c3,
    (hb.frozen (p := ⟨p, 0, none⟩) (by simpa using hp)).trans h.f0, (hb.frozen (p := ⟨p, 1, none⟩) (by simpa using hp)).trans h.f1, (hb.frozen (p := ⟨p, 2, none⟩) (by simpa using hp)).trans h.f2, (hb.frozen (p := ⟨p, 3, none⟩) (by simpa using hp)).trans h.f3, Nat.lt_of_lt_of_le h.lt hb.size⟩
theorem OpAt.fresh (w : World) (o : Opx) (t : TypeId) : OpAt w.heap.size (w.alloc (.cells #[.string o.kind, .int .i64 o.at_, .int .i64 o.n, .string o.data] t)) o :=
  ⟨by simp, by simp, by simp, by simp, by simp, by simp, by simp, by simp, by simp⟩
theorem OpAt.drew {p : Nat} {w : World} {o : Opx} (h : OpAt p w o) : OpAt p w.drew o := ⟨h.c0, h.c1, h.c2, h.c3, h.f0, h.f1, h.f2, h.f3, h.lt⟩

/-- Ops as cells. -/
def ocs (l : List Opx) : List Value := l.flatMap ocells
theorem ocs_snoc (l : List Opx) (o : Opx) : ocs (l ++ [o]) = ocs l ++ ocells o := by simp [ocs]
theorem ocs_append (l m : List Opx) : ocs (l ++ m) = ocs l ++ ocs m := by simp [ocs]
theorem ocs_length (l : List Opx) : (ocs l).length = l.length * 4 := by
  induction l with
  | nil => rfl
  | cons b l ih => rw [ocs, List.flatMap_cons, List.length_append, ← ocs, ih]; simp [ocells]; omega
theorem ocs_get (l : List Opx) (j : Nat) (h : j < l.length) : (ocs l)[j * 4]? = some (.string l[j].kind) ∧ (ocs l)[j * 4 + 1]? = some (.int .i64 l[j].at_) ∧ (ocs l)[j * 4 + 2]? = some (.int .i64 l[j].n) ∧ (ocs l)[j * 4 + 3]? = some (.string l[j].data) := by
  induction l generalizing j with
  | nil => simp at h
  | cons b l ih =>
    rw [ocs, List.flatMap_cons, ← ocs]
    cases j with
    | zero => simp [ocells]
    | succ j =>
      have := ih j (by simpa using h)
      have e : ∀ i, (ocells b ++ ocs l)[(j + 1) * 4 + i]? = (ocs l)[j * 4 + i]? := by
        intro i
        rw [List.getElem?_append_right (by simp [ocells]; omega)]
        congr 1
        simp [ocells]; omega
      have e0 := e 0
      simp only [Nat.add_zero] at e0
      rw [e0, e 1, e 2, e 3]
      simpa using this

/-- A slice that reads as these ops. -/
def ORow (w : World) (v : Value) (l : List Opx) : Prop :=
  ∃ a c, v = .slice a l.length c ∧ (0 < l.length → ∃ b o, a = some ⟨b, o, none⟩ ∧ ∀ j (h : j < l.length), w.cell? ⟨b, o + j * 4, none⟩ = some (.string l[j].kind) ∧ w.cell? ⟨b, o + j * 4 + 1, none⟩ = some (.int .i64 l[j].at_) ∧ w.cell? ⟨b, o + j * 4 + 2, none⟩ = some (.int .i64 l[j].n) ∧ w.cell? ⟨b, o + j * 4 + 3, none⟩ = some (.string l[j].data))
theorem ORow.below {w w' : World} {v : Value} {l : List Opx} (h : ORow w v l) (hb : Below w.heap.size w w') : ORow w' v l := by
  obtain ⟨a, c, rfl, h⟩ := h
  refine ⟨a, c, rfl, fun hp => ?_⟩
  obtain ⟨b, o, rfl, h'⟩ := h hp
  refine ⟨b, o, rfl, fun j hj => ?_⟩
  obtain ⟨h0, h1, h2, h3⟩ := h' j hj
  exact ⟨(hb.cell (World.block_lt_of_cell? _ _ h0)).trans h0, (hb.cell (World.block_lt_of_cell? _ _ h1)).trans h1, (hb.cell (World.block_lt_of_cell? _ _ h2)).trans h2, (hb.cell (World.block_lt_of_cell? _ _ h3)).trans h3⟩
theorem ORow.nil (w : World) : ORow w (.slice none 0 0) [] := ⟨none, 0, rfl, fun h => by simp at h⟩
/-- A row that is owned reads as its ops. -/
theorem ORow.of_own {w : World} {base : Nat} {v : Value} {n : Nat} {l : List Opx} (h : w.ownsRow base 61 4 v n (ocs l)) : ORow w v l := by
  have hl : l.length = n := by have := h.1; rw [ocs_length] at this; omega
  subst hl
  rcases h.2 with ⟨rfl, h0⟩ | ⟨g, c, cur, rfl, _⟩
  · exact ⟨none, 0, by rw [h0], fun hp => by omega⟩
  · refine ⟨_, c, rfl, fun _ => ⟨g, 0, rfl, fun j hj => ?_⟩⟩
    obtain ⟨h0, h1, h2, h3⟩ := ocs_get l j hj
    have k0 := h.cells (g := g) rfl _ _ h0
    have k1 := h.cells (g := g) rfl _ _ h1
    have k2 := h.cells (g := g) rfl _ _ h2
    have k3 := h.cells (g := g) rfl _ _ h3
    rw [Go.WideShapes.add_plain] at k0 k1 k2 k3
    exact ⟨by simpa using k0, by simpa [Nat.add_assoc] using k1, by simpa [Nat.add_assoc] using k2, by simpa [Nat.add_assoc] using k3⟩
end Go.Proofs.YtcenohaadggdiacDoor

namespace Go.Proofs.YtcenohaadggdiacDoor
open Go.RowKit
open Go.Delta (Opx addData addCopy dataOp copyOp kCopy kData)

/-- Ops behind the pointer of block q: their variable is block p; their row lies from base on. -/
structure GrAt (p q base : Nat) (w : World) (l : List Opx) (v : Value) : Prop where
  cq : w.cell? ⟨q, 0, none⟩ = some (.pointer (some ⟨p, 0, none⟩))
  cp : w.cell? ⟨p, 0, none⟩ = some v
  fp : w.frozen? ⟨p, 0, none⟩ = false
  own : w.ownsRow base 61 4 v l.length (ocs l)
  pq : p < q
  qb : q < base
  le : base ≤ w.heap.size
/-- All but block p and what lies from base on is as it was. -/
structure Betw (p base : Nat) (w w' : World) : Prop where
  below : Below p w w'
  mid : ∀ k, p < k → k < base → w'.heap[k]? = w.heap[k]?
theorem Betw.refl (p base : Nat) (w : World) : Betw p base w w := ⟨Below.refl _ _, fun _ _ _ => rfl⟩
theorem Betw.trans {p base : Nat} {a b c : World} (h : Betw p base a b) (k : Betw p base b c) : Betw p base a c :=
  ⟨h.below.trans k.below, fun j h1 h2 => (k.mid j h1 h2).trans (h.mid j h1 h2)⟩
theorem Betw.of_below {p base k : Nat} {w w' : World} (h : Below k w w') (hk : base ≤ k) (hp : p ≤ k) : Betw p base w w' :=
  ⟨h.mono hp, fun j _ h2 => h.block j (by omega)⟩
theorem Betw.set {p base i : Nat} {w w' : World} (h : Betw p base w w') (v : Value) : Betw p base w (w'.setCell ⟨p, i, none⟩ v) :=
  ⟨h.below.setCell (Nat.le_refl _) _, fun j h1 h2 => (Below.heap_setCell _ _ _ _ (by simp; omega)).trans (h.mid j h1 h2)⟩
theorem Betw.cell {p base : Nat} {w w' : World} (h : Betw p base w w') {a : Addr} (ha : a.block ≠ p) (hb : a.block < base) : w'.cell? a = w.cell? a := by
  apply World.cell?_of_block
  rcases Nat.lt_or_ge a.block p with h1 | h1
  · exact h.below.block _ h1
  · exact h.mid _ (by omega) hb
theorem Betw.block {p base k : Nat} {w w' : World} (h : Betw p base w w') (ha : k ≠ p) (hb : k < base) : w'.heap[k]? = w.heap[k]? := by
  rcases Nat.lt_or_ge k p with h1 | h1
  · exact h.below.block _ h1
  · exact h.mid _ (by omega) hb

/-- An op more. -/
theorem GrAt.appended {p q base gg cap : Nat} {w w1 : World} {l : List Opx} {v : Value} {ob : Obj} (h : GrAt p q base w l v) (o : Opx)
    (hown : w1.ownsRow base 61 4 (.slice (some ⟨gg, 0, none⟩) (l.length + 1) cap) (l.length + 1) (ocs l ++ ocells o)) (hgrow : (w.alloc ob).drew.grownBy w1 v.ownBlock) :
    GrAt p q base (w1.setCell ⟨p, 0, none⟩ (.slice (some ⟨gg, 0, none⟩) (l.length + 1) cap)) (l ++ [o]) (.slice (some ⟨gg, 0, none⟩) (l.length + 1) cap) ∧ Betw p base w (w1.setCell ⟨p, 0, none⟩ (.slice (some ⟨gg, 0, none⟩) (l.length + 1) cap)) := by
  obtain ⟨cq, cp, fp, own, pq, qb, le⟩ := h
  have hb : Below base w w1 := ((Below.refl base w).alloc le ob).drew.grown hgrow (by simp; try omega) (fun k hk => (own.lt k hk).1)
  have k0 := (hb.cell (p := ⟨p, 0, none⟩) (by simp; try omega)).trans cp
  have k1 := (hb.frozen (p := ⟨p, 0, none⟩) (by simp; try omega)).trans fp
  have k2 := (hb.cell (p := ⟨q, 0, none⟩) (by simp; try omega)).trans cq
  refine ⟨⟨?_, World.cell?_setCell_same _ _ _ k0, by simpa using k1, ?_, pq, qb, by have := hb.size; simp; omega⟩, (Betw.of_below hb (Nat.le_refl _) (by omega)).set _⟩
  · rw [World.cell?_setCell_other _ _ _ _ (by simp; try omega)]; exact k2
  · have := ownsRow_setCell_below hown (a := ⟨p, 0, none⟩) (by simp; try omega) (.slice (some ⟨gg, 0, none⟩) (l.length + 1) cap)
    rw [ocs_snoc, List.length_append]
    exact this
abbrev adp (p : Nat) : Addr := ⟨p, 0, none⟩
set_option maxHeartbeats 1000000 in
set_option maxRecDepth 100000 in
theorem fresh_none (q : Nat) (w : World) :
    Calls Tryd.prog 73 #[.string ⟨#[]⟩, .pointer (some ⟨q, 0, none⟩)] w fun r w' => r = .returned (.tuple #[]) ∧ w' = w := by
  go_enter Tryd.func73, Tryd.ntmps73
  go_wp2
  go_end0
  exact ⟨rfl, rfl⟩

set_option maxHeartbeats 2000000 in
set_option maxRecDepth 100000 in
theorem fresh_some (p q base : Nat) (l : List Opx) (v : Value) (s : ByteArray) (w : World) (h : GrAt p q base w l v) (hs : s.data.toList ≠ []) (hl : l.length ≤ 1000000) :
    Calls Tryd.prog 73 #[.string s, .pointer (some ⟨q, 0, none⟩)] w fun r w' => r = .returned (.tuple #[]) ∧ (∃ v', GrAt p q base w' (l ++ [⟨kData, 0, 0, s⟩]) v') ∧ Betw p base w w' := by
  obtain ⟨i0, hi, hz0, hz1, hz2⟩ := info_parts Tryd.info61
  have H := hide h
  obtain ⟨cq, cp, fp, own, pq, qb, le⟩ := h
  have lq := World.block_lt_of_cell? _ _ cq
  have lp := World.block_lt_of_cell? _ _ cp
  have hne : s.toList.isEmpty = false := by
    rw [ByteArray.toList_eq]
    simpa using hs
  have hvp : v.ownBlock ≠ some p := fun e => by have := (own.lt p e).1; omega
  have hvq : v.ownBlock ≠ some q := fun e => by have := (own.lt q e).1; omega
  have Hown := hide own
  have fz := fun o => (((Below.refl (p + 1) w).alloc lp o).drew.frozen (p := ⟨p, 0, none⟩) (by simp)).trans fp
  have qz := fun o => (((Below.refl (q + 1) w).alloc lq o).drew.cell (p := ⟨q, 0, none⟩) (by simp)).trans cq
  have cz := fun o => (((Below.refl (p + 1) w).alloc lp o).drew.cell (p := ⟨p, 0, none⟩) (by simp)).trans cp
  clear hs own
  go_enter Tryd.func73, Tryd.ntmps73
  go_wp2_with fail
  go_region_law
    ((refine step_append_lies _ (by rfl) _ _ _ (by rfl) base 61 i0 _ 4 48 Tryd.underlying30 hi hz0 hz1 hz2 rfl (by omega) v l.length (ocs l) (by rfl) ((Hown.out.alloc _).drew)
        ⟨w.heap.size, 0, none⟩ 1 1 [.string ⟨#[100, 97, 116, 97]⟩, .int .i64 0, .int .i64 0, .string s] (by rfl) (by rfl) (World.news_of_block (cs := #[.string ⟨#[100, 97, 116, 97]⟩, .int .i64 0, .int .i64 0, .string s]) (t := 61) (fr := (0, 0)) (heap_alloc_new w _)) (by simp [Value.oneCell'])
        (by omega) (by unfold maxLen; omega) (by omega) (by simp; omega) (w.heap.size + 1) (by simp) ?_; intro gg cap w1 hown1 hgrow hat hlt; have k0 := (hgrow.cell_far (adp p) (by simp; omega) (Ne.symm hvp)).trans (cz _); have k1 := (hgrow.frozen_far (adp p) (by simp; omega) (Ne.symm hvp)).trans (fz _); have k2 := (hgrow.cell_far (adp q) (by simp; omega) (Ne.symm hvq)).trans (qz _)))
  all_goals
    obtain ⟨ha, hb⟩ := H.out.appended ⟨kData, 0, 0, s⟩ hown1 hgrow
    have Ha := hide ha
    have Hb := hide hb
    clear ha hb hown1 hgrow hat k0 k1 k2 fz cz qz
    go_wp2
    go_end0
    exact ⟨rfl, ⟨_, Ha.out⟩, Hb.out⟩

theorem growFresh_ok (p q base : Nat) (l : List Opx) (v : Value) (s : ByteArray) (w : World) (h : GrAt p q base w l v) (hl : l.length ≤ 1000000) :
    Calls Tryd.prog 73 #[.string s, .pointer (some ⟨q, 0, none⟩)] w fun r w' => r = .returned (.tuple #[]) ∧ (∃ v', GrAt p q base w' (addData l s.data.toList) v') ∧ Betw p base w w' := by
  by_cases hs : s.data.toList = []
  · have : s = ⟨#[]⟩ := ext_of_list (by rw [hs])
    subst this
    refine (fresh_none q w).mono ?_
    rintro r w' ⟨rfl, rfl⟩
    exact ⟨rfl, ⟨v, by rw [addData, if_pos hs]; exact h⟩, Betw.refl _ _ _⟩
  · refine (fresh_some p q base l v s w h hs hl).mono ?_
    rintro r w' ⟨rfl, ⟨v', h'⟩, hb⟩
    refine ⟨rfl, ⟨v', ?_⟩, hb⟩
    have e : str s.data.toList = s := ext_of_list (by rw [strL])
    rw [addData, if_neg hs, dataOp, e]
    exact h'

/-! ### A block that is copied -/
/-- Ops that the program itself makes. -/
def SaneOp (o : Opx) : Prop := (o.kind = kCopy ∨ o.kind = kData) ∧ 0 ≤ o.at_ ∧ 0 ≤ o.n ∧ o.at_ + o.n ≤ 1000000
def Sane (l : List Opx) : Prop := ∀ o ∈ l, SaneOp o
theorem Sane.data {l : List Opx} (h : Sane l) (d : List UInt8) : Sane (addData l d) := by
  unfold addData
  split
  · exact h
  · intro o ho
    rcases List.mem_append.1 ho with ho | ho
    · exact h o ho
    · rw [List.mem_singleton.1 ho]; exact ⟨Or.inr rfl, by simp [dataOp]⟩
theorem Sane.copy {l : List Opx} (h : Sane l) (k : Int) (h0 : 0 ≤ k) (h1 : k < 1000000) : Sane (addCopy l k) := by
  rcases List.eq_nil_or_concat l with rfl | ⟨r, o, rfl⟩
  · intro o ho
    rw [Go.Delta.addCopy_nil, List.mem_singleton] at ho
    rw [ho]; exact ⟨Or.inl rfl, by simp only [copyOp]; omega⟩
  · rw [List.concat_eq_append] at h ⊢
    rw [Go.Delta.addCopy_snoc]
    have ho := h o (by simp)
    split
    · rename_i hc
      intro x hx
      rcases List.mem_append.1 hx with hx | hx
      · exact h x (List.mem_append_left _ hx)
      · rw [List.mem_singleton.1 hx]
        exact ⟨Or.inl hc.1, ho.2.1, by simp only; have := ho.2.2.1; omega, by simp only; omega⟩
    · intro x hx
      rcases List.mem_append.1 hx with hx | hx
      · exact h x hx
      · rw [List.mem_singleton.1 hx]; exact ⟨Or.inl rfl, by simp only [copyOp]; omega⟩

set_option maxHeartbeats 1000000 in
set_option maxRecDepth 100000 in
theorem copiesUpTo_ok (o : Opx) (k : Int) (w : World) (ho : SaneOp o) :
    Calls Tryd.prog 75 #[oval o, .int .i64 k] w fun r w' => r = .returned (.bool (decide (o.kind = kCopy ∧ o.at_ + o.n = k))) ∧ Below w.heap.size w w' := by
  obtain ⟨kd, a, n, d⟩ := o
  obtain ⟨hk, h0, h1, h2⟩ := ho
  unfold oval
  simp only at hk h0 h1 h2 ⊢
  rcases hk with rfl | rfl
  · have e : decide (kCopy = kCopy ∧ a + n = k) = (a + n == k) := by
      rw [Bool.eq_iff_iff]; simp
    rw [e]
    clear e
    unfold kCopy
    go_enter Tryd.func75, Tryd.ntmps75
    go_wp2
    go_ret
    exact ⟨rfl, (Below.refl _ _).alloc (Nat.le_refl _) _⟩
  · have e : decide (kData = kCopy ∧ a + n = k) = false := decide_eq_false (fun h => Go.Delta.kinds_ne h.1.symm)
    rw [e]
    clear e
    unfold kData
    go_enter Tryd.func75, Tryd.ntmps75
    go_wp2
    go_ret
    exact ⟨rfl, (Below.refl _ _).alloc (Nat.le_refl _) _⟩
end Go.Proofs.YtcenohaadggdiacDoor
