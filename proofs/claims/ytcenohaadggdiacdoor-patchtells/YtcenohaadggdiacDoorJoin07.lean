/-
  Contracts of delta.isMany, wrongCopy, wrongData, wrong over this dump.
  Contracts of delta.firstWrong, Check, Cost over this dump, at any list of ops.
  The five errors that package delta meets, in a world.
  An error that is a fault, behind whatever happens; what package delta's Check answers is the fault of its ops.
-/
import Derived.Test.YtcenohaadggdiacDoorJoin02
import Derived.Test.YtcenohaadggdiacDoorJoin05
import Derived.Test.YtcenohaadggdiacDoorJoin06
namespace Go.Proofs.YtcenohaadggdiacDoor
open Go.RowKit
open Go.Delta (Opx kCopy kData noBytes)

/-- The five errors that are met: what their variables hold. -/
structure OV where
  e : EV
  tS : TypeId
  xS : Value
  tK : TypeId
  xK : Value
/-- The three of them that a check meets. -/
structure OEr3 (e : OV) (w : World) : Prop where
  bound : w.cell? ⟨0, 0, none⟩ = some (.iface e.e.tB e.e.xB)
  shape : w.cell? ⟨5, 0, none⟩ = some (.iface e.tS e.xS)
  kind : w.cell? ⟨6, 0, none⟩ = some (.iface e.tK e.xK)
theorem OEr3.below {e : OV} {w w' : World} (h : OEr3 e w) (hb : Below w.heap.size w w') : OEr3 e w' :=
  ⟨(hb.cell (World.block_lt_of_cell? _ _ h.bound)).trans h.bound, (hb.cell (World.block_lt_of_cell? _ _ h.shape)).trans h.shape, (hb.cell (World.block_lt_of_cell? _ _ h.kind)).trans h.kind⟩
/-- An error by its number. -/
def errO (e : OV) : Nat → Value
  | 3 => .iface e.tS e.xS
  | 4 => .iface e.tK e.xK
  | c => errV e.e c
theorem errO_form (e : OV) (c : Nat) (h : c ≠ 0) : ∃ t x, errO e c = .iface t x := by
  match c, h with
  | 1, _ => exact ⟨_, _, rfl⟩
  | 2, _ => exact ⟨_, _, rfl⟩
  | 3, _ => exact ⟨_, _, rfl⟩
  | 4, _ => exact ⟨_, _, rfl⟩
  | c + 5, _ => exact ⟨_, _, rfl⟩

theorem isMany_ok (n : Int) (w : World) : Calls Tryd.prog 96 #[.int .i64 n] w fun r w' => r = .returned (.bool (decide (1 ≤ n ∧ n ≤ 4000))) ∧ w' = w := by
  by_cases h0 : 1 ≤ n
  · go_enter Tryd.func96, Tryd.ntmps96
    go_wp2
    go_ret
    exact ⟨ret_bool (by simp [h0]), rfl⟩
  · have h0' : decide (1 ≤ n) = false := by simp; omega
    go_enter Tryd.func96, Tryd.ntmps96
    go_wp2
    go_ret
    exact ⟨ret_bool (by simp), rfl⟩

/-- Kinds that are none, as a test tells it. -/
theorem kind_copy {k : ByteArray} (h : k ≠ kCopy) : (k.toList == [99, 111, 112, 121]) = false := by
  rw [beq_eq_false_iff_ne]
  exact fun e => h (bytes_ext (by rw [e, ByteArray.toList_eq]; rfl))
theorem kind_data {k : ByteArray} (h : k ≠ kData) : (k.toList == [100, 97, 116, 97]) = false := by
  rw [beq_eq_false_iff_ne]
  exact fun e => h (bytes_ext (by rw [e, ByteArray.toList_eq]; rfl))
/-- What is wrong with a copy, and with data. -/
def copyFault (o : Opx) : Nat := if o.data ≠ noBytes then 3 else if 0 ≤ o.at_ ∧ o.at_ ≤ 4000 ∧ 1 ≤ o.n ∧ o.n ≤ 4000 then 0 else 2
def dataFault (o : Opx) : Nat := if o.at_ = 0 ∧ o.n = 0 then (if 1 ≤ o.data.size ∧ o.data.size ≤ 4000 then 0 else 2) else 3

set_option maxHeartbeats 1000000 in
set_option maxRecDepth 100000 in
theorem wrongCopy_ok (o : Opx) (e : OV) (w : World) (he : OEr3 e w) : Calls Tryd.prog 79 #[oval o] w fun r w' => r = .returned (errO e (copyFault o)) ∧ Below w.heap.size w w' := by
  obtain ⟨k, a, n, d⟩ := o
  have hB := he.bound
  have hS := he.shape
  have lB := World.block_lt_of_cell? _ _ hB
  have lS := World.block_lt_of_cell? _ _ hS
  have I := hide (fun W => isMany_ok n W)
  unfold oval copyFault
  simp only
  clear he
  by_cases hd : d = noBytes
  · subst hd
    unfold noBytes
    rw [if_neg (by simp)]
    by_cases h0 : a < 0
    · rw [if_neg (by omega)]
      have h0' : decide (a < 0) = true := by simp; omega
      go_enter Tryd.func79, Tryd.ntmps79
      go_wp2
      go_ret
      exact ⟨rfl, (Below.refl _ _).alloc (Nat.le_refl _) _⟩
    · have h0' : decide (a < 0) = false := by simp; omega
      by_cases h1 : 4000 < a
      · rw [if_neg (by omega)]
        have h1' : decide (4000 < a) = true := by simp; omega
        go_enter Tryd.func79, Tryd.ntmps79
        go_wp2
        go_ret
        exact ⟨rfl, (Below.refl _ _).alloc (Nat.le_refl _) _⟩
      · have h1' : decide (4000 < a) = false := by simp; omega
        by_cases h2 : 1 ≤ n ∧ n ≤ 4000
        · rw [if_pos ⟨by omega, by omega, h2⟩]
          rw [show decide (1 ≤ n ∧ n ≤ 4000) = true from decide_eq_true h2] at I
          clear h2
          go_enter Tryd.func79, Tryd.ntmps79
          go_wp2_with fail
          refine (I.out _).mono ?_
          rintro r w1 ⟨rfl, rfl⟩
          go_wp2
          go_ret
          exact ⟨rfl, (Below.refl _ _).alloc (Nat.le_refl _) _⟩
        · rw [if_neg (fun h => h2 h.2.2)]
          rw [show decide (1 ≤ n ∧ n ≤ 4000) = false from decide_eq_false h2] at I
          clear h2
          go_enter Tryd.func79, Tryd.ntmps79
          go_wp2_with fail
          refine (I.out _).mono ?_
          rintro r w1 ⟨rfl, rfl⟩
          go_wp2
          go_ret
          exact ⟨rfl, (Below.refl _ _).alloc (Nat.le_refl _) _⟩
  · rw [if_pos hd]
    have hne : d.toList.isEmpty = false := by
      cases hx : d.toList.isEmpty with
      | false => rfl
      | true => exact absurd (bytes_ext (by rw [List.isEmpty_iff.1 hx, ByteArray.toList_eq]; rfl)) hd
    clear hd
    go_enter Tryd.func79, Tryd.ntmps79
    go_wp2
    go_ret
    exact ⟨rfl, (Below.refl _ _).alloc (Nat.le_refl _) _⟩

set_option maxHeartbeats 1000000 in
set_option maxRecDepth 100000 in
theorem wrongData_ok (o : Opx) (e : OV) (w : World) (he : OEr3 e w) (hs : o.data.size ≤ 1000000) : Calls Tryd.prog 80 #[oval o] w fun r w' => r = .returned (errO e (dataFault o)) ∧ Below w.heap.size w w' := by
  obtain ⟨k, a, n, d⟩ := o
  have hB := he.bound
  have hS := he.shape
  have lB := World.block_lt_of_cell? _ _ hB
  have lS := World.block_lt_of_cell? _ _ hS
  have I := hide (fun W => isMany_ok (d.size : Int) W)
  unfold oval dataFault
  simp only at hs ⊢
  clear he
  by_cases h0 : a = 0
  · subst h0
    by_cases h1 : n = 0
    · subst h1
      rw [if_pos ⟨rfl, rfl⟩]
      by_cases h2 : 1 ≤ d.size ∧ d.size ≤ 4000
      · rw [if_pos h2]
        rw [show decide (1 ≤ (d.size : Int) ∧ (d.size : Int) ≤ 4000) = true from decide_eq_true (by omega)] at I
        clear h2
        go_enter Tryd.func80, Tryd.ntmps80
        go_wp2_with fail
        refine (I.out _).mono ?_
        rintro r w1 ⟨rfl, rfl⟩
        go_wp2
        go_ret
        exact ⟨rfl, (Below.refl _ _).alloc (Nat.le_refl _) _⟩
      · rw [if_neg h2]
        rw [show decide (1 ≤ (d.size : Int) ∧ (d.size : Int) ≤ 4000) = false from decide_eq_false (by omega)] at I
        clear h2
        go_enter Tryd.func80, Tryd.ntmps80
        go_wp2_with fail
        refine (I.out _).mono ?_
        rintro r w1 ⟨rfl, rfl⟩
        go_wp2
        go_ret
        exact ⟨rfl, (Below.refl _ _).alloc (Nat.le_refl _) _⟩
    · rw [if_neg (fun h => h1 h.2)]
      have h1' : (n != 0) = true := by simpa using h1
      clear h1
      go_enter Tryd.func80, Tryd.ntmps80
      go_wp2
      go_ret
      exact ⟨rfl, (Below.refl _ _).alloc (Nat.le_refl _) _⟩
  · rw [if_neg (fun h => h0 h.1)]
    have h0' : (a != 0) = true := by simpa using h0
    clear h0
    go_enter Tryd.func80, Tryd.ntmps80
    go_wp2
    go_ret
    exact ⟨rfl, (Below.refl _ _).alloc (Nat.le_refl _) _⟩

set_option maxHeartbeats 1000000 in
set_option maxRecDepth 100000 in
theorem wrongOp_ok (o : Opx) (e : OV) (w : World) (he : OEr3 e w) (hs : o.data.size ≤ 1000000) : Calls Tryd.prog 52 #[oval o] w fun r w' => r = .returned (errO e (Go.Delta.opFault o)) ∧ Below w.heap.size w w' := by
  have HC := hide (fun W (h : Below w.heap.size w W) => wrongCopy_ok o e W (he.below h))
  have HD := hide (fun W (h : Below w.heap.size w W) => wrongData_ok o e W (he.below h) hs)
  have hK := he.kind
  have lK := World.block_lt_of_cell? _ _ hK
  have ef : Go.Delta.opFault o = if o.kind = kCopy then copyFault o else if o.kind = kData then dataFault o else 4 := rfl
  rw [ef]
  clear ef he
  obtain ⟨k, a, n, d⟩ := o
  unfold oval at HC HD ⊢
  simp only at HC HD ⊢
  generalize copyFault ⟨k, a, n, d⟩ = cf at *
  generalize dataFault ⟨k, a, n, d⟩ = df at *
  by_cases h1 : k = kCopy
  · subst h1
    rw [if_pos rfl]
    unfold kCopy at *
    generalize errO e cf = v at *
    go_enter Tryd.func52, Tryd.ntmps52
    go_wp2_with fail
    refine (HC.out _ ((Below.refl _ _).alloc (Nat.le_refl _) _)).mono ?_
    rintro r w1 ⟨rfl, hb1⟩
    have Hb1 := hide (((Below.refl w.heap.size w).alloc (Nat.le_refl _) (.cells #[.string ⟨#[99, 111, 112, 121]⟩, .int .i64 a, .int .i64 n, .string d] 61)).trans (hb1.mono (by simp)))
    clear hb1
    go_wp2
    go_ret
    exact ⟨rfl, Hb1.out⟩
  · rw [if_neg h1]
    by_cases h2 : k = kData
    · subst h2
      rw [if_pos rfl]
      unfold kData at *
      clear h1
      generalize errO e df = v at *
      go_enter Tryd.func52, Tryd.ntmps52
      go_wp2_with fail
      refine (HD.out _ ((Below.refl _ _).alloc (Nat.le_refl _) _)).mono ?_
      rintro r w1 ⟨rfl, hb1⟩
      have Hb1 := hide (((Below.refl w.heap.size w).alloc (Nat.le_refl _) (.cells #[.string ⟨#[100, 97, 116, 97]⟩, .int .i64 a, .int .i64 n, .string d] 61)).trans (hb1.mono (by simp)))
      clear hb1
      go_wp2
      go_ret
      exact ⟨rfl, Hb1.out⟩
    · rw [if_neg h2]
      have e1 := kind_copy h1
      have e2 := kind_data h2
      clear h1 h2
      go_enter Tryd.func52, Tryd.ntmps52
      go_wp2_with fail
      go_ret
      exact ⟨rfl, (Below.refl _ _).alloc (Nat.le_refl _) _⟩
end Go.Proofs.YtcenohaadggdiacDoor

namespace Go.Proofs.YtcenohaadggdiacDoor
open Go.RowKit
open Go.Delta (Opx)

/-- What the scan comes to, as firstWrong tells it. -/
def owrongOut : Option (Nat × Nat) → Int × Nat
  | none => (0, 0)
  | some (i, c) => (i, c)

/-- No op is too long for a machine. -/
def Short (l : List Opx) : Prop := ∀ o ∈ l, o.data.size ≤ 1000000

set_option maxHeartbeats 1000000 in
set_option maxRecDepth 100000 in
theorem owrong_ok (v : Value) (l : List Opx) (e : OV) (w : World) (hv : ORow w v l) (hl : l.length ≤ 1000000) (hs : Short l) (he : OEr3 e w) :
    Calls Tryd.prog 35 #[v] w fun r w' => r = .returned (.tuple #[.int .i64 (owrongOut (Go.Delta.scanO l 0)).1, errO e (owrongOut (Go.Delta.scanO l 0)).2]) ∧ Below w.heap.size w w' := by
  obtain ⟨a, c, rfl, hv⟩ := hv
  have HV := hide hv
  have HE := hide he
  have HS := hide hs
  have hl' : (l.length : Int) ≤ 1000000 := by omega
  clear he hv hs
  generalize hR : Go.Delta.scanO l 0 = R
  have HR := hide hR
  clear hR
  go_enter Tryd.func35, Tryd.ntmps35
  go_wp2_with fail
  go_loopw [9] (fun t wr => ∃ j : Nat, t = .int .i64 j ∧ j ≤ l.length ∧ Hid (Go.Delta.scanO (l.drop j) j = R) ∧ Hid (Below w.heap.size w wr)) (fun t _ => l.length - (intOf t).toNat)
  case atStart => exact ⟨0, rfl, by omega, HR.out, Below.refl _ _⟩
  case round =>
    clear HR
    obtain ⟨j, rfl, hj, Hsc, Hb⟩ := hrel
    by_cases hlt : j < l.length
    · have hlt' : (j : Int) < l.length := by omega
      obtain ⟨b, o, rfl, hc⟩ := HV.out (by omega)
      obtain ⟨c0, c1, c2, c3⟩ := hc j hlt
      have d0 := (Hb.out.cell (World.block_lt_of_cell? _ _ c0)).trans c0
      have d1 := (Hb.out.cell (World.block_lt_of_cell? _ _ c1)).trans c1
      have d2 := (Hb.out.cell (World.block_lt_of_cell? _ _ c2)).trans c2
      have d3 := (Hb.out.cell (World.block_lt_of_cell? _ _ c3)).trans c3
      have Hs := hide (Go.Delta.scanO_step l j hlt)
      rw [Hsc.out] at Hs
      have HW := hide (fun W (k : Below w.heap.size w W) => wrongOp_ok l[j] e W (HE.out.below k) (HS.out _ (List.getElem_mem hlt)))
      unfold oval at HW
      clear hc c0 c1 c2 c3 Hsc HV HS
      generalize l[j] = op at *
      generalize Go.Delta.opFault op = f at *
      have hba : Below w.heap.size w (wr.alloc (.cells #[.string op.kind, .int .i64 op.at_, .int .i64 op.n, .string op.data] 61)) := Hb.out.alloc Hb.out.size _
      have Hba := hide hba
      clear hba
      by_cases hf : f = 0
      · subst hf
        have hR := Hs.out
        rw [if_pos rfl] at hR
        have HR := hide hR
        clear hR Hs
        rw [show errO e 0 = .nilIface from rfl] at HW
        go_wp2_with fail
        refine (HW.out _ Hba.out).mono ?_
        rintro r w1 ⟨rfl, hb1⟩
        have Hb1 := hide (bthen Hba.out hb1)
        clear hb1
        go_wp2_with fail
        go_roundw
        case rel => exact ⟨j + 1, by go_num, by omega, HR.out.symm, Hb1.out⟩
        case measure => simp [intOf]; omega
      · have hR := Hs.out
        rw [if_neg hf] at hR
        subst hR
        obtain ⟨t, x, ev⟩ := errO_form e f hf
        rw [ev] at HW
        have Hev := hide ev
        clear ev Hs hf
        go_wp2_with fail
        refine (HW.out _ Hba.out).mono ?_
        rintro r w1 ⟨rfl, hb1⟩
        have Hb1 := hide (bthen Hba.out hb1)
        clear hb1
        go_wp2_with fail
        go_ret2
        exact ⟨by unfold owrongOut; simp only; rw [Hev.out]; rfl, Hb1.out⟩
    · have hle : (l.length : Int) ≤ (j : Int) := by omega
      have hR : R = none := by rw [← Hsc.out, List.drop_eq_nil_of_le (by omega), Go.Delta.scanO]
      subst hR
      go_wp2_with fail
      go_ret2
      exact ⟨rfl, Hb.out⟩

theorem faultO_code (l : List Opx) : (Go.Delta.faultO l).1 = 0 ∨ (Go.Delta.faultO l).1 = 2 ∨ (Go.Delta.faultO l).1 = 3 ∨ (Go.Delta.faultO l).1 = 4 := by
  unfold Go.Delta.faultO
  split
  · exact Or.inl rfl
  · rename_i i c h
    exact Or.inr (Go.Delta.scanO_code _ _ _ _ h).1
/-- What Check answers. -/
def OCheckRes (e : OV) (base : Nat) (f : Nat × Int) (w' : World) (r : Ending) : Prop :=
  if f.1 = 0 then r = .returned .nilIface else
    ∃ p, r = .returned (.iface 66 (.pointer (some ⟨p, 0, none⟩))) ∧ base ≤ p ∧ w'.cell? ⟨p, 0, none⟩ = some (.int .i64 f.2) ∧ w'.cell? ⟨p, 1, none⟩ = some (errO e f.1)

section
variable (a : Option Addr) (n cap : Nat) (at_ : Int) (t : TypeId) (x : Value) (w : World)
set_option maxHeartbeats 1000000 in
set_option maxRecDepth 100000 in
theorem ocheck_nil (h : Calls Tryd.prog 35 #[.slice a n cap] w fun r w' => r = .returned (.tuple #[.int .i64 at_, .nilIface]) ∧ Below w.heap.size w w') :
    Calls Tryd.prog 13 #[.slice a n cap] w fun r w' => r = .returned .nilIface ∧ Below w.heap.size w w' := by
  have HW := hide h
  clear h
  go_enter Tryd.func13, Tryd.ntmps13
  go_wp2_with fail
  refine HW.out.mono ?_
  rintro e1 w1 ⟨rfl, hb1⟩
  have Hb1 := hide hb1
  clear hb1
  go_wp2
  go_ret
  exact ⟨rfl, Hb1.out⟩
set_option maxHeartbeats 1000000 in
set_option maxRecDepth 100000 in
theorem ocheck_at (h : Calls Tryd.prog 35 #[.slice a n cap] w fun r w' => r = .returned (.tuple #[.int .i64 at_, .iface t x]) ∧ Below w.heap.size w w') :
    Calls Tryd.prog 13 #[.slice a n cap] w fun r w' => (∃ p, r = .returned (.iface 66 (.pointer (some ⟨p, 0, none⟩))) ∧ w.heap.size ≤ p ∧ w'.cell? ⟨p, 0, none⟩ = some (.int .i64 at_) ∧ w'.cell? ⟨p, 1, none⟩ = some (.iface t x)) ∧ Below w.heap.size w w' := by
  have HW := hide h
  clear h
  go_enter Tryd.func13, Tryd.ntmps13
  go_wp2_with fail
  refine HW.out.mono ?_
  rintro e1 w1 ⟨rfl, hb1⟩
  have Hb1 := hide hb1
  clear hb1
  go_wp2
  go_ret
  exact ⟨⟨w1.heap.size, rfl, Hb1.out.size, by simp, by simp⟩, Hb1.out.alloc Hb1.out.size _⟩
end

theorem ocheck_ok (v : Value) (l : List Opx) (e : OV) (w : World) (hv : ORow w v l) (hl : l.length ≤ 1000000) (hs : Short l) (he : OEr3 e w) :
    Calls Tryd.prog 13 #[v] w fun r w' => OCheckRes e w.heap.size (Go.Delta.faultO l) w' r ∧ Below w.heap.size w w' := by
  have HW := owrong_ok v l e w hv hl hs he
  obtain ⟨a, cap, rfl, _⟩ := hv
  unfold Go.Delta.faultO
  cases hx : Go.Delta.scanO l 0 with
  | none =>
    rw [hx] at HW
    refine (ocheck_nil _ _ _ _ _ HW).mono ?_
    rintro r w' ⟨rfl, hb⟩
    exact ⟨by rw [OCheckRes, if_pos rfl], hb⟩
  | some p =>
    obtain ⟨i, c⟩ := p
    have hc := (Go.Delta.scanO_code _ _ _ _ hx).1
    rw [hx] at HW
    obtain ⟨t, x, ev⟩ := errO_form e c (by omega)
    simp only [owrongOut, ev] at HW
    refine (ocheck_at _ _ _ _ _ _ _ HW).mono ?_
    rintro r w' ⟨hr, hb⟩
    refine ⟨?_, hb⟩
    rw [OCheckRes, if_neg (by simp only; omega)]
    simp only [ev]
    exact hr

set_option maxHeartbeats 1000000 in
set_option maxRecDepth 100000 in
theorem cost_ok (v : Value) (l : List Opx) (w : World) (hv : ORow w v l) (hl : l.length ≤ 1000000) (hs : Short l) :
    Calls Tryd.prog 14 #[v] w fun r w' => r = .returned (.int .i64 (Go.Delta.cost l)) ∧ Below w.heap.size w w' := by
  obtain ⟨a, c, rfl, hv⟩ := hv
  have HV := hide hv
  have HS := hide hs
  have hl' : (l.length : Int) ≤ 1000000 := by omega
  clear hv hs
  go_enter Tryd.func14, Tryd.ntmps14
  go_wp2_with fail
  go_loopw [3, 8] (fun t3 t wr => ∃ j n : Nat, t = .int .i64 j ∧ t3 = .int .i64 n ∧ j ≤ l.length ∧ n ≤ j * 1000000 ∧ Hid (n = Go.Delta.cost (l.take j)) ∧ Hid (Below w.heap.size w wr)) (fun _ t _ => l.length - (intOf t).toNat)
  case atStart => exact ⟨0, 0, rfl, rfl, by omega, by omega, by simp [Hid, Go.Delta.cost], Below.refl _ _⟩
  case round =>
    obtain ⟨j, n, rfl, rfl, hj, hn, Hn, Hb⟩ := hrel
    by_cases hlt : j < l.length
    · have hlt' : (j : Int) < l.length := by omega
      obtain ⟨b, o, rfl, hc⟩ := HV.out (by omega)
      obtain ⟨c0, c1, c2, c3⟩ := hc j hlt
      have d0 := (Hb.out.cell (World.block_lt_of_cell? _ _ c0)).trans c0
      have d1 := (Hb.out.cell (World.block_lt_of_cell? _ _ c1)).trans c1
      have d2 := (Hb.out.cell (World.block_lt_of_cell? _ _ c2)).trans c2
      have d3 := (Hb.out.cell (World.block_lt_of_cell? _ _ c3)).trans c3
      have Hsn := hide (List.take_succ_eq_append_getElem hlt)
      have hsz := HS.out _ (List.getElem_mem hlt)
      clear hc c0 c1 c2 c3
      generalize l[j] = op at *
      have hn' : (n : Int) + (op.data.size : Int) ≤ 1000000000000000 := by
        have : j * 1000000 ≤ 1000000 * 1000000 := Nat.mul_le_mul_right _ (by omega)
        omega
      go_wp2_with fail
      go_roundw
      case rel => exact ⟨j + 1, n + op.data.size, by go_num, by go_num, by omega, by omega, by rw [Hsn.out, Go.Delta.cost_snoc, ← Hn.out]; exact rfl, Hb.out.alloc Hb.out.size _⟩
      case measure => simp [intOf]; omega
    · have hle : (l.length : Int) ≤ (j : Int) := by omega
      have hN := Hn.out
      rw [List.take_of_length_le (by omega)] at hN
      have HN := hide hN
      clear hN
      go_wp2_with fail
      go_ret
      exact ⟨by rw [HN.out]; rfl, Hb.out⟩
end Go.Proofs.YtcenohaadggdiacDoor

namespace Go.Proofs.YtcenohaadggdiacDoor
open Go.RowKit

structure OEr (e : OV) (w : World) : Prop where
  er : Er e.e w
  shape : w.cell? ⟨5, 0, none⟩ = some (.iface e.tS e.xS)
  kind : w.cell? ⟨6, 0, none⟩ = some (.iface e.tK e.xK)
theorem OEr.below {e : OV} {w w' : World} (h : OEr e w) (hb : Below w.heap.size w w') : OEr e w' :=
  ⟨h.er.below hb, (hb.cell (World.block_lt_of_cell? _ _ h.shape)).trans h.shape, (hb.cell (World.block_lt_of_cell? _ _ h.kind)).trans h.kind⟩
theorem OEr.three {e : OV} {w : World} (h : OEr e w) : OEr3 e w := ⟨h.er.bound, h.shape, h.kind⟩
instance (e : OV) (w : World) : Coe (OEr e w) (OEr3 e w) := ⟨OEr.three⟩
end Go.Proofs.YtcenohaadggdiacDoor

namespace Go.Proofs.YtcenohaadggdiacDoor
open Go.RowKit
open Go.Delta (Opx)

/-- The five errors among the twelve. -/
def ovOf (a : Nat → Addr) : OV := ⟨evOf a, 161, .pointer (some (a 2)), 161, .pointer (some (a 3))⟩
theorem Sents.oer {w : World} {a : Nat → Addr} (h : Sents w a) : OEr (ovOf a) w := ⟨h.er, h.c2, h.c3⟩
theorem errO_sent {a : Nat → Addr} {c : Nat} (h : c = 1 ∨ c = 2 ∨ c = 3 ∨ c = 4) : ∃ k, k < 12 ∧ c = k + 1 ∧ errO (ovOf a) c = .iface 161 (.pointer (some (a k))) := by
  rcases h with rfl | rfl | rfl | rfl
  · exact ⟨0, by decide, rfl, rfl⟩
  · exact ⟨1, by decide, rfl, rfl⟩
  · exact ⟨2, by decide, rfl, rfl⟩
  · exact ⟨3, by decide, rfl, rfl⟩
theorem coded_errO (a : Nat → Addr) (c : Nat) (w : World) (h : Sents w a) (hc : c = 0 ∨ c = 1 ∨ c = 2 ∨ c = 3 ∨ c = 4) :
    Calls Tryd.prog 27 #[errO (ovOf a) c, .int .i64 c] w fun r w' => r = .returned (.bool true) ∧ Below w.heap.size w w' := by
  rcases hc with rfl | hc
  · refine (coded_nil 0 w).mono ?_
    rintro r w' ⟨rfl, rfl⟩
    exact ⟨rfl, Below.refl _ _⟩
  · obtain ⟨k, hk, rfl, e⟩ := errO_sent (a := a) hc
    rw [e]
    refine (coded_sent k hk a _ w h).mono ?_
    rintro r w' ⟨rfl, hb⟩
    exact ⟨ret_bool (by simp), hb⟩

/-- An error that is the fault (c, at), behind whatever happens. -/
def Tells (w' : World) (x : Value) (c : Nat) (at_ : Int) : Prop :=
  ∀ W, Below w'.heap.size w' W → Calls Tryd.prog 24 #[x, .agg #[.int .i64 c, .int .i64 at_]] W fun r W' => r = .returned (.bool true) ∧ Below W.heap.size W W'
theorem Tells.below {w w' : World} {x : Value} {c : Nat} {at_ : Int} (h : Tells w x c at_) (hb : Below w.heap.size w w') : Tells w' x c at_ := fun W hW => h W (bthen hb hW)
theorem tells_nil (w : World) (at_ : Int) : Tells w .nilIface 0 at_ := fun W _ =>
  faulted_zero .nilIface (-1) at_ W (fun W' _ => (code_nil W').mono fun _ _ ⟨h1, h2⟩ => ⟨h1, by rw [h2]; exact Below.refl _ _⟩)
theorem tells_bare (w : World) (a : Nat → Addr) (hS : Sents w a) (j : Nat) (hj : j < 12) : Tells w (.iface 161 (.pointer (some (a j)))) (j + 1) (-1) := fun W hW => by
  refine faulted_at _ _ (-1) W (by omega) (fun W' hW' => ?_)
  rw [show ((j + 1 : Nat) : Int) = (j : Int) + 1 by omega]
  exact code_sent j hj a W' ((hS.below hW).below hW')
theorem tells_at (w : World) (a : Nat → Addr) (hS : Sents w a) (j : Nat) (hj : j < 12) (p : Nat) (at_ : Int) (c0 : w.cell? ⟨p, 0, none⟩ = some (.int .i64 at_)) (c1 : w.cell? ⟨p, 1, none⟩ = some (.iface 161 (.pointer (some (a j))))) :
    Tells w (.iface 66 (.pointer (some ⟨p, 0, none⟩))) (j + 1) at_ := fun W hW => by
  refine faulted_at _ _ at_ W (by omega) (fun W' hW' => ?_)
  rw [show ((j + 1 : Nat) : Int) = (j : Int) + 1 by omega]
  have d0 := (hW.cell (World.block_lt_of_cell? _ _ c0)).trans c0
  have d1 := (hW.cell (World.block_lt_of_cell? _ _ c1)).trans c1
  exact code_fault j hj at_ p a W' ((hS.below hW).below hW') ((hW'.cell (World.block_lt_of_cell? _ _ d0)).trans d0) ((hW'.cell (World.block_lt_of_cell? _ _ d1)).trans d1)

theorem tells_ocheck {a : Nat → Addr} {base : Nat} {l : List Opx} {w' : World} {x : Value} (hS : Sents w' a) (h : OCheckRes (ovOf a) base (Go.Delta.faultO l) w' (.returned x)) : Tells w' x (Go.Delta.faultO l).1 (Go.Delta.faultO l).2 := by
  have hcode := faultO_code l
  generalize Go.Delta.faultO l = f at *
  obtain ⟨c, at_⟩ := f
  simp only at hcode ⊢
  unfold OCheckRes at h
  by_cases hc : c = 0
  · subst hc
    rw [if_pos rfl] at h
    obtain rfl : x = .nilIface := by injection h
    exact tells_nil _ _
  · rw [if_neg hc] at h
    obtain ⟨j, hj, hcj, e⟩ := errO_sent (a := a) (c := c) (by omega)
    subst hcj
    obtain ⟨p, hr, _, c0, c1⟩ := h
    have hx : x = .iface 66 (.pointer (some ⟨p, 0, none⟩)) := by injection hr
    simp only at c0 c1
    rw [e] at c1
    rw [hx]
    exact tells_at _ a hS j hj p at_ c0 c1
theorem ocheck_uni (v : Value) (l : List Opx) (a : Nat → Addr) (w : World) (hv : ORow w v l) (hl : l.length ≤ 1000000) (hs : Short l) (hS : Sents w a) :
    Calls Tryd.prog 13 #[v] w fun r w' => (∃ x, r = .returned x ∧ Tells w' x (Go.Delta.faultO l).1 (Go.Delta.faultO l).2) ∧ Below w.heap.size w w' := by
  refine (ocheck_ok v l (ovOf a) w hv hl hs hS.oer).mono ?_
  rintro r w' ⟨hr, hb⟩
  refine ⟨?_, hb⟩
  have hx : ∃ x, r = .returned x := by
    unfold OCheckRes at hr
    split at hr
    · exact ⟨_, hr⟩
    · obtain ⟨p, hr, _⟩ := hr; exact ⟨_, hr⟩
  obtain ⟨x, rfl⟩ := hx
  exact ⟨x, rfl, tells_ocheck (hS.below hb) hr⟩
end Go.Proofs.YtcenohaadggdiacDoor
