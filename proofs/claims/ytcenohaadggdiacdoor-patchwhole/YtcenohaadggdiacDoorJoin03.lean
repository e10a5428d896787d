/-
  Contracts of delta.isMany, wrongCopy, wrongData, wrong over this dump.
  Contracts of delta.firstWrong, Check, Cost over this dump, at any list of ops.
  Contract of patch.builder's add over this dump, at an op that is one.
  What the row's condition on the five errors' variables that Apply meets gives the walk; the door's own heap meets it.
  Plain mathematics of files that are put together: what an op adds, what ops come to, in parts and at once. No program, no walk.
-/
import Derived.Test.YtcenohaadggdiacDoorJoin02
import Derived.Test.YtcenohaadggdiacDoorJoin01
import Derived.Deep.RegionHeld3
namespace Go.Proofs.YtcenohaadggdiacDoor
open Go.RowKit
open Go.Delta (Opx kCopy kData noBytes)

/-- The five errors that are met: what their variables hold. -/
structure OV where
  e : EV
  tS : TypeId
  xS : Value
  tK : TypeId
  xK : Value
/-- The three of them that a check meets. -/
structure OEr3 (e : OV) (w : World) : Prop where
  bound : w.cell? ⟨0, 0, none⟩ = some (.iface e.e.tB e.e.xB)
  shape : w.cell? ⟨5, 0, none⟩ = some (.iface e.tS e.xS)
  kind : w.cell? ⟨6, 0, none⟩ = some (.iface e.tK e.xK)
theorem OEr3.below {e : OV} {w w' : World} (h : OEr3 e w) (hb : Below w.heap.size w w') : OEr3 e w' :=
  ⟨(hb.cell (World.block_lt_of_cell? _ _ h.bound)).trans h.bound, (hb.cell (World.block_lt_of_cell? _ _ h.shape)).trans h.shape, (hb.cell (World.block_lt_of_cell? _ _ h.kind)).trans h.kind⟩
/-- An error by its number. -/
def errO (e : OV) : Nat → Value
  | 3 => .iface e.tS e.xS
  | 4 => .iface e.tK e.xK
  | c => errV e.e c
theorem errO_form (e : OV) (c : Nat) (h : c ≠ 0) : ∃ t x, errO e c = .iface t x := by
  match c, h with
  | 1, _ => exact ⟨_, _, rfl⟩
  | 2, _ => exact ⟨_, _, rfl⟩
  | 3, _ => exact ⟨_, _, rfl⟩
  | 4, _ => exact ⟨_, _, rfl⟩
  | c + 5, _ => exact ⟨_, _, rfl⟩

theorem isMany_ok (n : Int) (w : World) : Calls Tryd.prog 96 #[.int .i64 n] w fun r w' => r = .returned (.bool (decide (1 ≤ n ∧ n ≤ 4000))) ∧ w' = w := by
  by_cases h0 : 1 ≤ n
  · go_enter Tryd.func96, Tryd.ntmps96
    go_wp2
    go_ret
    exact ⟨ret_bool (by simp [h0]), rfl⟩
  · have h0' : decide (1 ≤ n) = false := by simp; omega
    go_enter Tryd.func96, Tryd.ntmps96
    go_wp2
    go_ret
    exact ⟨ret_bool (by simp), rfl⟩

/-- Kinds that are none, as a test tells it. -/
theorem kind_copy {k : ByteArray} (h : k ≠ kCopy) : (k.toList == [99, 111, 112, 121]) = false := by
  rw [beq_eq_false_iff_ne]
  exact fun e => h (bytes_ext (by rw [e, ByteArray.toList_eq]; rfl))
theorem kind_data {k : ByteArray} (h : k ≠ kData) : (k.toList == [100, 97, 116, 97]) = false := by
  rw [beq_eq_false_iff_ne]
  exact fun e => h (bytes_ext (by rw [e, ByteArray.toList_eq]; rfl))
/-- What is wrong with a copy, and with data. -/
def copyFault (o : Opx) : Nat := if o.data ≠ noBytes then 3 else if 0 ≤ o.at_ ∧ o.at_ ≤ 4000 ∧ 1 ≤ o.n ∧ o.n ≤ 4000 then 0 else 2
def dataFault (o : Opx) : Nat := if o.at_ = 0 ∧ o.n = 0 then (if 1 ≤ o.data.size ∧ o.data.size ≤ 4000 then 0 else 2) else 3

set_option maxHeartbeats 1000000 in
set_option maxRecDepth 100000 in
theorem wrongCopy_ok (o : Opx) (e : OV) (w : World) (he : OEr3 e w) : Calls Tryd.prog 79 #[oval o] w fun r w' => r = .returned (errO e (copyFault o)) ∧ Below w.heap.size w w' := by
  obtain ⟨k, a, n, d⟩ := o
  have hB := he.bound
  have hS := he.shape
  have lB := World.block_lt_of_cell? _ _ hB
  have lS := World.block_lt_of_cell? _ _ hS
  have I := hide (fun W => isMany_ok n W)
  unfold oval copyFault
  simp only
  clear he
  by_cases hd : d = noBytes
  · subst hd
    unfold noBytes
    rw [if_neg (by simp)]
    by_cases h0 : a < 0
    · rw [if_neg (by omega)]
      have h0' : decide (a < 0) = true := by simp; omega
      go_enter Tryd.func79, Tryd.ntmps79
      go_wp2
      go_ret
      exact ⟨rfl, (Below.refl _ _).alloc (Nat.le_refl _) _⟩
    · have h0' : decide (a < 0) = false := by simp; omega
      by_cases h1 : 4000 < a
      · rw [if_neg (by omega)]
        have h1' : decide (4000 < a) = true := by simp; omega
        go_enter Tryd.func79, Tryd.ntmps79
        go_wp2
        go_ret
        exact ⟨rfl, (Below.refl _ _).alloc (Nat.le_refl _) _⟩
      · have h1' : decide (4000 < a) = false := by simp; omega
        by_cases h2 : 1 ≤ n ∧ n ≤ 4000
        · rw [if_pos ⟨by omega, by omega, h2⟩]
          rw [show decide (1 ≤ n ∧ n ≤ 4000) = true from decide_eq_true h2] at I
          clear h2
          go_enter Tryd.func79, Tryd.ntmps79
          go_wp2_with fail
          refine (I.out _).mono ?_
          rintro r w1 ⟨rfl, rfl⟩
          go_wp2
          go_ret
          exact ⟨rfl, (Below.refl _ _).alloc (Nat.le_refl _) _⟩
        · rw [if_neg (fun h => h2 h.2.2)]
          rw [show decide (1 ≤ n ∧ n ≤ 4000) = false from decide_eq_false h2] at I
          clear h2
          go_enter Tryd.func79, Tryd.ntmps79
          go_wp2_with fail
          refine (I.out _).mono ?_
          rintro r w1 ⟨rfl, rfl⟩
          go_wp2
          go_ret
          exact ⟨rfl, (Below.refl _ _).alloc (Nat.le_refl _) _⟩
  · rw [if_pos hd]
    have hne : d.toList.isEmpty = false := by
      cases hx : d.toList.isEmpty with
      | false => rfl
      | true => exact absurd (bytes_ext (by rw [List.isEmpty_iff.1 hx, ByteArray.toList_eq]; rfl)) hd
    clear hd
    go_enter Tryd.func79, Tryd.ntmps79
    go_wp2
    go_ret
    exact ⟨rfl, (Below.refl _ _).alloc (Nat.le_refl _) _⟩

set_option maxHeartbeats 1000000 in
set_option maxRecDepth 100000 in
theorem wrongData_ok (o : Opx) (e : OV) (w : World) (he : OEr3 e w) (hs : o.data.size ≤ 1000000) : Calls Tryd.prog 80 #[oval o] w fun r w' => r = .returned (errO e (dataFault o)) ∧ Below w.heap.size w w' := by
  obtain ⟨k, a, n, d⟩ := o
  have hB := he.bound
  have hS := he.shape
  have lB := World.block_lt_of_cell? _ _ hB
  have lS := World.block_lt_of_cell? _ _ hS
  have I := hide (fun W => isMany_ok (d.size : Int) W)
  unfold oval dataFault
  simp only at hs ⊢
  clear he
  by_cases h0 : a = 0
  · subst h0
    by_cases h1 : n = 0
    · subst h1
      rw [if_pos ⟨rfl, rfl⟩]
      by_cases h2 : 1 ≤ d.size ∧ d.size ≤ 4000
      · rw [if_pos h2]
        rw [show decide (1 ≤ (d.size : Int) ∧ (d.size : Int) ≤ 4000) = true from decide_eq_true (by omega)] at I
        clear h2
        go_enter Tryd.func80, Tryd.ntmps80
        go_wp2_with fail
        refine (I.out _).mono ?_
        rintro r w1 ⟨rfl, rfl⟩
        go_wp2
        go_ret
        exact ⟨rfl, (Below.refl _ _).alloc (Nat.le_refl _) _⟩
      · rw [if_neg h2]
        rw [show decide (1 ≤ (d.size : Int) ∧ (d.size : Int) ≤ 4000) = false from decide_eq_false (by omega)] at I
        clear h2
        go_enter Tryd.func80, Tryd.ntmps80
        go_wp2_with fail
        refine (I.out _).mono ?_
        rintro r w1 ⟨rfl, rfl⟩
        go_wp2
        go_ret
        exact ⟨rfl, (Below.refl _ _).alloc (Nat.le_refl _) _⟩
    · rw [if_neg (fun h => h1 h.2)]
      have h1' : (n != 0) = true := by simpa using h1
      clear h1
      go_enter Tryd.func80, Tryd.ntmps80
      go_wp2
      go_ret
      exact ⟨rfl, (Below.refl _ _).alloc (Nat.le_refl _) _⟩
  · rw [if_neg (fun h => h0 h.1)]
    have h0' : (a != 0) = true := by simpa using h0
    clear h0
    go_enter Tryd.func80, Tryd.ntmps80
    go_wp2
    go_ret
    exact ⟨rfl, (Below.refl _ _).alloc (Nat.le_refl _) _⟩

set_option maxHeartbeats 1000000 in
set_option maxRecDepth 100000 in
theorem wrongOp_ok (o : Opx) (e : OV) (w : World) (he : OEr3 e w) (hs : o.data.size ≤ 1000000) : Calls Tryd.prog 52 #[oval o] w fun r w' => r = .returned (errO e (Go.Delta.opFault o)) ∧ Below w.heap.size w w' := by
  have HC := hide (fun W (h : Below w.heap.size w W) => wrongCopy_ok o e W (he.below h))
  have HD := hide (fun W (h : Below w.heap.size w W) => wrongData_ok o e W (he.below h) hs)
  have hK := he.kind
  have lK := World.block_lt_of_cell? _ _ hK
  have ef : Go.Delta.opFault o = if o.kind = kCopy then copyFault o else if o.kind = kData then dataFault o else 4 := rfl
  rw [ef]
  clear ef he
  obtain ⟨k, a, n, d⟩ := o
  unfold oval at HC HD ⊢
  simp only at HC HD ⊢
  generalize copyFault ⟨k, a, n, d⟩ = cf at *
  generalize dataFault ⟨k, a, n, d⟩ = df at *
  by_cases h1 : k = kCopy
  · subst h1
    rw [if_pos rfl]
    unfold kCopy at *
    generalize errO e cf = v at *
    go_enter Tryd.func52, Tryd.ntmps52
    go_wp2_with fail
    refine (HC.out _ ((Below.refl _ _).alloc (Nat.le_refl _) _)).mono ?_
    rintro r w1 ⟨rfl, hb1⟩
    have Hb1 := hide (((Below.refl w.heap.size w).alloc (Nat.le_refl _) (.cells #[.string ⟨#[99, 111, 112, 121]⟩, .int .i64 a, .int .i64 n, .string d] 61)).trans (hb1.mono (by simp)))
    clear hb1
    go_wp2
    go_ret
    exact ⟨rfl, Hb1.out⟩
  · rw [if_neg h1]
    by_cases h2 : k = kData
    · subst h2
      rw [if_pos rfl]
      unfold kData at *
      clear h1
      generalize errO e df = v at *
      go_enter Tryd.func52, Tryd.ntmps52
      go_wp2_with fail
      refine (HD.out _ ((Below.refl _ _).alloc (Nat.le_refl _) _)).mono ?_
      rintro r w1 ⟨rfl, hb1⟩
      have Hb1 := hide (((Below.refl w.heap.size w).alloc (Nat.le_refl _) (.cells #[.string ⟨#[100, 97, 116, 97]⟩, .int .i64 a, .int .i64 n, .string d] 61)).trans (hb1.mono (by simp)))
      clear hb1
      go_wp2
      go_ret
      exact ⟨rfl, Hb1.out⟩
    · rw [if_neg h2]
      have e1 := kind_copy h1
      have e2 := kind_data h2
      clear h1 h2
      go_enter Tryd.func52, Tryd.ntmps52
      go_wp2_with fail
      go_ret
      exact ⟨rfl, (Below.refl _ _).alloc (Nat.le_refl _) _⟩
end Go.Proofs.YtcenohaadggdiacDoor

namespace Go.Proofs.YtcenohaadggdiacDoor
open Go.RowKit
open Go.Delta (Opx)

/-- What the scan comes to, as firstWrong tells it. -/
def owrongOut : Option (Nat × Nat) → Int × Nat
  | none => (0, 0)
  | some (i, c) => (i, c)

/-- No op is too long for a machine. -/
def Short (l : List Opx) : Prop := ∀ o ∈ l, o.data.size ≤ 1000000

set_option maxHeartbeats 1000000 in
set_option maxRecDepth 100000 in
theorem owrong_ok (v : Value) (l : List Opx) (e : OV) (w : World) (hv : ORow w v l) (hl : l.length ≤ 1000000) (hs : Short l) (he : OEr3 e w) :
    Calls Tryd.prog 35 #[v] w fun r w' => r = .returned (.tuple #[.int .i64 (owrongOut (Go.Delta.scanO l 0)).1, errO e (owrongOut (Go.Delta.scanO l 0)).2]) ∧ Below w.heap.size w w' := by
  obtain ⟨a, c, rfl, hv⟩ := hv
  have HV := hide hv
  have HE := hide he
  have HS := hide hs
  have hl' : (l.length : Int) ≤ 1000000 := by omega
  clear he hv hs
  generalize hR : Go.Delta.scanO l 0 = R
  have HR := hide hR
  clear hR
  go_enter Tryd.func35, Tryd.ntmps35
  go_wp2_with fail
  go_loopw [9] (fun t wr => ∃ j : Nat, t = .int .i64 j ∧ j ≤ l.length ∧ Hid (Go.Delta.scanO (l.drop j) j = R) ∧ Hid (Below w.heap.size w wr)) (fun t _ => l.length - (intOf t).toNat)
  case atStart => exact ⟨0, rfl, by omega, HR.out, Below.refl _ _⟩
  case round =>
    clear HR
    obtain ⟨j, rfl, hj, Hsc, Hb⟩ := hrel
    by_cases hlt : j < l.length
    · have hlt' : (j : Int) < l.length := by omega
      obtain ⟨b, o, rfl, hc⟩ := HV.out (by omega)
      obtain ⟨c0, c1, c2, c3⟩ := hc j hlt
      have d0 := (Hb.out.cell (World.block_lt_of_cell? _ _ c0)).trans c0
      have d1 := (Hb.out.cell (World.block_lt_of_cell? _ _ c1)).trans c1
      have d2 := (Hb.out.cell (World.block_lt_of_cell? _ _ c2)).trans c2
      have d3 := (Hb.out.cell (World.block_lt_of_cell? _ _ c3)).trans c3
      have Hs := hide (Go.Delta.scanO_step l j hlt)
      rw [Hsc.out] at Hs
      have HW := hide (fun W (k : Below w.heap.size w W) => wrongOp_ok l[j] e W (HE.out.below k) (HS.out _ (List.getElem_mem hlt)))
      unfold oval at HW
      clear hc c0 c1 c2 c3 Hsc HV HS
      generalize l[j] = op at *
      generalize Go.Delta.opFault op = f at *
      have hba : Below w.heap.size w (wr.alloc (.cells #[.string op.kind, .int .i64 op.at_, .int .i64 op.n, .string op.data] 61)) := Hb.out.alloc Hb.out.size _
      have Hba := hide hba
      clear hba
      by_cases hf : f = 0
      · subst hf
        have hR := Hs.out
        rw [if_pos rfl] at hR
        have HR := hide hR
        clear hR Hs
        rw [show errO e 0 = .nilIface from rfl] at HW
        go_wp2_with fail
        refine (HW.out _ Hba.out).mono ?_
        rintro r w1 ⟨rfl, hb1⟩
        have Hb1 := hide (bthen Hba.out hb1)
        clear hb1
        go_wp2_with fail
        go_roundw
        case rel => exact ⟨j + 1, by go_num, by omega, HR.out.symm, Hb1.out⟩
        case measure => simp [intOf]; omega
      · have hR := Hs.out
        rw [if_neg hf] at hR
        subst hR
        obtain ⟨t, x, ev⟩ := errO_form e f hf
        rw [ev] at HW
        have Hev := hide ev
        clear ev Hs hf
        go_wp2_with fail
        refine (HW.out _ Hba.out).mono ?_
        rintro r w1 ⟨rfl, hb1⟩
        have Hb1 := hide (bthen Hba.out hb1)
        clear hb1
        go_wp2_with fail
        go_ret2
        exact ⟨by unfold owrongOut; simp only; rw [Hev.out]; rfl, Hb1.out⟩
    · have hle : (l.length : Int) ≤ (j : Int) := by omega
      have hR : R = none := by rw [← Hsc.out, List.drop_eq_nil_of_le (by omega), Go.Delta.scanO]
      subst hR
      go_wp2_with fail
      go_ret2
      exact ⟨rfl, Hb.out⟩

theorem faultO_code (l : List Opx) : (Go.Delta.faultO l).1 = 0 ∨ (Go.Delta.faultO l).1 = 2 ∨ (Go.Delta.faultO l).1 = 3 ∨ (Go.Delta.faultO l).1 = 4 := by
  unfold Go.Delta.faultO
  split
  · exact Or.inl rfl
  · rename_i i c h
    exact Or.inr (Go.Delta.scanO_code _ _ _ _ h).1
/-- What Check answers. -/
def OCheckRes (e : OV) (base : Nat) (f : Nat × Int) (w' : World) (r : Ending) : Prop :=
  if f.1 = 0 then r = .returned .nilIface else
    ∃ p, r = .returned (.iface 66 (.pointer (some ⟨p, 0, none⟩))) ∧ base ≤ p ∧ w'.cell? ⟨p, 0, none⟩ = some (.int .i64 f.2) ∧ w'.cell? ⟨p, 1, none⟩ = some (errO e f.1)

section
variable (a : Option Addr) (n cap : Nat) (at_ : Int) (t : TypeId) (x : Value) (w : World)
set_option maxHeartbeats 1000000 in
set_option maxRecDepth 100000 in
theorem ocheck_nil (h : Calls Tryd.prog 35 #[.slice a n cap] w fun r w' => r = .returned (.tuple #[.int .i64 at_, .nilIface]) ∧ Below w.heap.size w w') :
    Calls Tryd.prog 13 #[.slice a n cap] w fun r w' => r = .returned .nilIface ∧ Below w.heap.size w w' := by
  have HW := hide h
  clear h
  go_enter Tryd.func13, Tryd.ntmps13
  go_wp2_with fail
  refine HW.out.mono ?_
  rintro e1 w1 ⟨rfl, hb1⟩
  have Hb1 := hide hb1
  clear hb1
  go_wp2
  go_ret
  exact ⟨rfl, Hb1.out⟩
set_option maxHeartbeats 1000000 in
set_option maxRecDepth 100000 in
theorem ocheck_at (h : Calls Tryd.prog 35 #[.slice a n cap] w fun r w' => r = .returned (.tuple #[.int .i64 at_, .iface t x]) ∧ Below w.heap.size w w') :
    Calls Tryd.prog 13 #[.slice a n cap] w fun r w' => (∃ p, r = .returned (.iface 66 (.pointer (some ⟨p, 0, none⟩))) ∧ w.heap.size ≤ p ∧ w'.cell? ⟨p, 0, none⟩ = some (.int .i64 at_) ∧ w'.cell? ⟨p, 1, none⟩ = some (.iface t x)) ∧ Below w.heap.size w w' := by
  have HW := hide h
  clear h
  go_enter Tryd.func13, Tryd.ntmps13
  go_wp2_with fail
  refine HW.out.mono ?_
  rintro e1 w1 ⟨rfl, hb1⟩
  have Hb1 := hide hb1
  clear hb1
  go_wp2
  go_ret
  exact ⟨⟨w1.heap.size, rfl, Hb1.out.size, by simp, by simp⟩, Hb1.out.alloc Hb1.out.size _⟩
end

theorem ocheck_ok (v : Value) (l : List Opx) (e : OV) (w : World) (hv : ORow w v l) (hl : l.length ≤ 1000000) (hs : Short l) (he : OEr3 e w) :
    Calls Tryd.prog 13 #[v] w fun r w' => OCheckRes e w.heap.size (Go.Delta.faultO l) w' r ∧ Below w.heap.size w w' := by
  have HW := owrong_ok v l e w hv hl hs he
  obtain ⟨a, cap, rfl, _⟩ := hv
  unfold Go.Delta.faultO
  cases hx : Go.Delta.scanO l 0 with
  | none =>
    rw [hx] at HW
    refine (ocheck_nil _ _ _ _ _ HW).mono ?_
    rintro r w' ⟨rfl, hb⟩
    exact ⟨by rw [OCheckRes, if_pos rfl], hb⟩
  | some p =>
    obtain ⟨i, c⟩ := p
    have hc := (Go.Delta.scanO_code _ _ _ _ hx).1
    rw [hx] at HW
    obtain ⟨t, x, ev⟩ := errO_form e c (by omega)
    simp only [owrongOut, ev] at HW
    refine (ocheck_at _ _ _ _ _ _ _ HW).mono ?_
    rintro r w' ⟨hr, hb⟩
    refine ⟨?_, hb⟩
    rw [OCheckRes, if_neg (by simp only; omega)]
    simp only [ev]
    exact hr

set_option maxHeartbeats 1000000 in
set_option maxRecDepth 100000 in
theorem cost_ok (v : Value) (l : List Opx) (w : World) (hv : ORow w v l) (hl : l.length ≤ 1000000) (hs : Short l) :
    Calls Tryd.prog 14 #[v] w fun r w' => r = .returned (.int .i64 (Go.Delta.cost l)) ∧ Below w.heap.size w w' := by
  obtain ⟨a, c, rfl, hv⟩ := hv
  have HV := hide hv
  have HS := hide hs
  have hl' : (l.length : Int) ≤ 1000000 := by omega
  clear hv hs
  go_enter Tryd.func14, Tryd.ntmps14
  go_wp2_with fail
  go_loopw [3, 8] (fun t3 t wr => ∃ j n : Nat, t = .int .i64 j ∧ t3 = .int .i64 n ∧ j ≤ l.length ∧ n ≤ j * 1000000 ∧ Hid (n = Go.Delta.cost (l.take j)) ∧ Hid (Below w.heap.size w wr)) (fun _ t _ => l.length - (intOf t).toNat)
  case atStart => exact ⟨0, 0, rfl, rfl, by omega, by omega, by simp [Hid, Go.Delta.cost], Below.refl _ _⟩
  case round =>
    obtain ⟨j, n, rfl, rfl, hj, hn, Hn, Hb⟩ := hrel
    by_cases hlt : j < l.length
    · have hlt' : (j : Int) < l.length := by omega
      obtain ⟨b, o, rfl, hc⟩ := HV.out (by omega)
      obtain ⟨c0, c1, c2, c3⟩ := hc j hlt
      have d0 := (Hb.out.cell (World.block_lt_of_cell? _ _ c0)).trans c0
      have d1 := (Hb.out.cell (World.block_lt_of_cell? _ _ c1)).trans c1
      have d2 := (Hb.out.cell (World.block_lt_of_cell? _ _ c2)).trans c2
      have d3 := (Hb.out.cell (World.block_lt_of_cell? _ _ c3)).trans c3
      have Hsn := hide (List.take_succ_eq_append_getElem hlt)
      have hsz := HS.out _ (List.getElem_mem hlt)
      clear hc c0 c1 c2 c3
      generalize l[j] = op at *
      have hn' : (n : Int) + (op.data.size : Int) ≤ 1000000000000000 := by
        have : j * 1000000 ≤ 1000000 * 1000000 := Nat.mul_le_mul_right _ (by omega)
        omega
      go_wp2_with fail
      go_roundw
      case rel => exact ⟨j + 1, n + op.data.size, by go_num, by go_num, by omega, by omega, by rw [Hsn.out, Go.Delta.cost_snoc, ← Hn.out]; exact rfl, Hb.out.alloc Hb.out.size _⟩
      case measure => simp [intOf]; omega
    · have hle : (l.length : Int) ≤ (j : Int) := by omega
      have hN := Hn.out
      rw [List.take_of_length_le (by omega)] at hN
      have HN := hide hN
      clear hN
      go_wp2_with fail
      go_ret
      exact ⟨by rw [HN.out]; rfl, Hb.out⟩
end Go.Proofs.YtcenohaadggdiacDoor

namespace Go.Proofs.YtcenohaadggdiacDoor
open Go.RowKit
open Go.Delta (Opx copyOp dataOp kCopy kData noBytes)

/-- The errors that Apply meets: what their variables hold. -/
structure PV where
  o : OV
  tN : TypeId
  xN : Value
structure PEr (e : PV) (w : World) : Prop where
  three : OEr3 e.o w
  full : w.cell? ⟨3, 0, none⟩ = some (.iface e.o.e.tF e.o.e.xF)
  none : w.cell? ⟨2, 0, none⟩ = some (.iface e.tN e.xN)
theorem PEr.below {e : PV} {w w' : World} (h : PEr e w) (hb : Below w.heap.size w w') : PEr e w' :=
  ⟨h.three.below hb, (hb.cell (World.block_lt_of_cell? _ _ h.full)).trans h.full, (hb.cell (World.block_lt_of_cell? _ _ h.none)).trans h.none⟩

/-- Whether n blocks from block k on are there, as the program asks it. -/
theorem there_iff (len size k n : Nat) (h1 : 1 ≤ size) (hn : 1 ≤ n) : k + n ≤ (len + size - 1) / size ↔ (k + n - 1) * size < len := by
  rw [Nat.le_div_iff_mul_le (by omega)]
  obtain ⟨m, hm⟩ : ∃ m, k + n = m + 1 := ⟨k + n - 1, by omega⟩
  rw [hm, Nat.add_sub_cancel, Nat.succ_mul]
  omega

/-- What add answers. -/
def AddRes (e : PV) (p : Nat) (old : ByteArray) (size : Nat) (bs : List UInt8) (pc : Option (List UInt8)) (r : Ending) (w' : World) : Prop :=
  match pc with
  | none => r = .returned (.iface e.tN e.xN)
  | some l => if 4000 < bs.length + l.length then r = .returned (.iface e.o.e.tF e.o.e.xF) else r = .returned .nilIface ∧ ∃ a v, BdAt p w' old size a v (bs ++ l) ∧ fresh2 p a

section
variable {p : Nat} {w : World} {old : ByteArray} {size : Nat} {a v : Value} {bs : List UInt8}
set_option maxHeartbeats 2000000 in
set_option maxRecDepth 100000 in
theorem add_data (e : PV) (d : List UInt8) (h : BdAt p w old size a v bs) (ha : fresh2 p a) (he : PEr e w) (hd1 : 1 ≤ d.length) (hd2 : d.length ≤ 4000) (hb : bs.length ≤ 4000) :
    Calls Tryd.prog 38 #[.pointer (some ⟨p, 0, none⟩), .agg #[.string ⟨#[100, 97, 116, 97]⟩, .int .i64 0, .int .i64 0, .string (str d)]] w fun r w' => AddRes e p old size bs (some d) r w' ∧ Below p w w' := by
  have hds : (str d).size = d.length := str_len d
  have hds' : ((str d).size : Int) ≤ 4000 := by omega
  have hb' : (bs.length : Int) ≤ 4000 := by omega
  have hF := he.full
  have lF := World.block_lt_of_cell? _ _ hF
  have hba := (Below.refl w.heap.size w).alloc (Nat.le_refl _) (.cells #[.string ⟨#[100, 97, 116, 97]⟩, .int .i64 0, .int .i64 0, .string (str d)] 61)
  have HB := hide (h.kept hba)
  have Hba := hide hba
  have HL := hide (fun W (k : BdAt p W old size a v bs) => blen_ok k)
  have HW := hide (fun W (k : BdAt p W old size a v bs) => bwrite_ok (str d) k ha (by omega) (by omega))
  rw [strL] at HW
  have hlt := h.lt
  clear h hba he
  unfold AddRes
  simp only
  by_cases hfull : 4000 < bs.length + d.length
  · simp only [if_pos hfull]
    have hfull' : (4000 : Int) < (bs.length : Int) + ((str d).size : Int) := by omega
    generalize str d = DB at *
    go_enter Tryd.func38, Tryd.ntmps38
    go_wp2_with fail
    refine (HL.out _ HB.out).mono ?_
    rintro r w1 ⟨rfl, rfl⟩
    go_wp2_with fail
    go_ret
    exact ⟨rfl, Hba.out.mono (by omega)⟩
  · simp only [if_neg hfull]
    have hfull' : (bs.length : Int) + ((str d).size : Int) ≤ 4000 := by omega
    generalize str d = DB at *
    go_enter Tryd.func38, Tryd.ntmps38
    go_wp2_with fail
    refine (HL.out _ HB.out).mono ?_
    rintro r w1 ⟨rfl, rfl⟩
    go_wp2_with fail
    refine (HW.out _ HB.out).mono ?_
    rintro r w2 ⟨rfl, ⟨v2, h2⟩, hb2⟩
    have H2 := hide h2
    have Hb2 := hide ((Hba.out.mono (by omega)).trans hb2)
    clear h2 hb2
    go_wp2_with fail
    go_ret
    exact ⟨⟨rfl, _, _, H2.out, Or.inr rfl⟩, Hb2.out⟩

set_option maxHeartbeats 4000000 in
set_option maxRecDepth 100000 in
theorem add_copy (e : PV) (k n : Nat) (h : BdAt p w old size a v bs) (ha : fresh2 p a) (he : PEr e w) (hk : k ≤ 4000) (hn1 : 1 ≤ n) (hn2 : n ≤ 4000) (hb : bs.length ≤ 4000) (h1 : 1 ≤ size) (h2 : size ≤ 64) (ho : old.size ≤ 4000) :
    Calls Tryd.prog 38 #[.pointer (some ⟨p, 0, none⟩), .agg #[.string ⟨#[99, 111, 112, 121]⟩, .int .i64 k, .int .i64 n, .string ⟨#[]⟩]] w fun r w' => AddRes e p old size bs (if (k + n - 1) * size < old.size then some ((old.data.toList.drop (k * size)).take (n * size)) else none) r w' ∧ Below p w w' := by
  have hb' : (bs.length : Int) ≤ 4000 := by omega
  have hk' : (k : Int) ≤ 4000 := by omega
  have hn' : (n : Int) ≤ 4000 := by omega
  have hF := he.full
  have lF := World.block_lt_of_cell? _ _ hF
  have hN := he.none
  have lN := World.block_lt_of_cell? _ _ hN
  have hba := (Below.refl w.heap.size w).alloc (Nat.le_refl _) (.cells #[.string ⟨#[99, 111, 112, 121]⟩, .int .i64 k, .int .i64 n, .string ⟨#[]⟩] 61)
  have HB := hide (fun W (x : Below w.heap.size w W) => h.kept x)
  have Hba := hide hba
  have HL := hide (fun W (k : BdAt p W old size a v bs) => blen_ok k)
  have HK := hide (fun W (k : BdAt p W old size a v bs) => blocks_ok k h1 h2 ho)
  have hlt := h.lt
  have hth := there_iff old.size size k n h1 hn1
  have hq : (old.size + size - 1) / size ≤ 5000 := Nat.le_trans (Nat.div_le_self _ _) (by omega)
  obtain ⟨q, hqe⟩ : ∃ q, q = (old.size + size - 1) / size := ⟨_, rfl⟩
  rw [← hqe] at HK hth hq
  have hq' : (q : Int) ≤ 5000 := by omega
  have hop := OpAt.fresh w (copyOp k n) 61
  simp only [copyOp] at hop
  unfold kCopy noBytes at hop
  have Hop := hide hop
  clear h hba he hqe hop
  unfold AddRes
  by_cases hin : (k + n - 1) * size < old.size
  · simp only [if_pos hin]
    have hle : k + n ≤ q := hth.2 hin
    have hle' : (k : Int) + (n : Int) ≤ (q : Int) := by omega
    have hko : k * size ≤ old.size := Nat.le_trans (Nat.mul_le_mul_right _ (show k ≤ k + n - 1 by omega)) (Nat.le_of_lt hin)
    have hpl : 1 ≤ ((old.data.toList.drop (k * size)).take (n * size)).length ∧ ((old.data.toList.drop (k * size)).take (n * size)).length ≤ 4000 := by
      have hks : k * size < old.size := Nat.lt_of_le_of_lt (Nat.mul_le_mul_right _ (show k ≤ k + n - 1 by omega)) hin
      have hns : 1 ≤ n * size := Nat.mul_le_mul hn1 h1
      rw [List.length_take, List.length_drop, lenL]
      omega
    have HC := hide (fun W (x : BdAt p W old size a v bs) => copied_ok k n x h2 ho hk hn2 hko)
    generalize (old.data.toList.drop (k * size)).take (n * size) = d at *
    obtain ⟨hd1, hd2⟩ := hpl
    have hds : (str d).size = d.length := str_len d
    have hds' : ((str d).size : Int) ≤ 4000 := by omega
    have HW := hide (fun W (k : BdAt p W old size a v bs) => bwrite_ok (str d) k ha (by omega) (by omega))
    rw [strL] at HW
    clear hth hin
    by_cases hfull : 4000 < bs.length + d.length
    · simp only [if_pos hfull]
      have hfull' : (4000 : Int) < (bs.length : Int) + ((str d).size : Int) := by omega
      generalize str d = DB at *
      go_enter Tryd.func38, Tryd.ntmps38
      go_wp2_with fail
      have hw1 : IntKind.i64.wrap ((k : Int) + (n : Int)) = (k : Int) + (n : Int) := iwrap_id _ (by omega) (by omega)
      generalize w.alloc (.cells #[.string ⟨#[99, 111, 112, 121]⟩, .int .i64 k, .int .i64 n, .string ⟨#[]⟩] 61) = wo at *
      obtain ⟨o0, o1, o2, o3, _, _, _, _, olt⟩ := Hop.out
      simp only at o0 o1 o2 o3
      go_region_held3 (fun w' => Hid (Below w.heap.size w w') ∧ w'.cell? ⟨w.heap.size, 1, none⟩ = some (.int .i64 k) ∧ w'.cell? ⟨w.heap.size, 2, none⟩ = some (.int .i64 n)) (first | exact ⟨Hb3, f1, f2⟩ | exact ⟨Hba.out.drew, o1, o2⟩)
        (first
          | (go_at_call 62; refine (HK.out _ (HB.out _ Hba.out.drew)).mono ?_; rintro r w3 ⟨rfl, hb3⟩; have Hb3 := hide (bthen Hba.out.drew hb3); have f1 : w3.cell? ⟨w.heap.size, 1, none⟩ = some (.int .i64 k) := (hb3.cell (p := ⟨w.heap.size, 1, none⟩) olt).trans o1; have f2 : w3.cell? ⟨w.heap.size, 2, none⟩ = some (.int .i64 n) := (hb3.cell (p := ⟨w.heap.size, 2, none⟩) olt).trans o2; clear hb3))
      all_goals
        go_wp2_with fail
        refine (HC.out _ (HB.out _ Hb3.out)).mono ?_
        rintro r w4 ⟨rfl, hb4⟩
        have Hb4 := hide (bthen Hb3.out hb4)
        clear hb4
        go_wp2_with fail
        refine (HL.out _ (HB.out _ Hb4.out)).mono ?_
        rintro r w5 ⟨rfl, rfl⟩
        have g := (Hb4.out.cell (p := ⟨3, 0, none⟩) lF).trans hF
        go_wp2_with fail
        go_ret
        exact ⟨rfl, Hb4.out.mono (by omega)⟩
    · simp only [if_neg hfull]
      have hfull' : (bs.length : Int) + ((str d).size : Int) ≤ 4000 := by omega
      generalize str d = DB at *
      go_enter Tryd.func38, Tryd.ntmps38
      go_wp2_with fail
      have hw1 : IntKind.i64.wrap ((k : Int) + (n : Int)) = (k : Int) + (n : Int) := iwrap_id _ (by omega) (by omega)
      generalize w.alloc (.cells #[.string ⟨#[99, 111, 112, 121]⟩, .int .i64 k, .int .i64 n, .string ⟨#[]⟩] 61) = wo at *
      obtain ⟨o0, o1, o2, o3, _, _, _, _, olt⟩ := Hop.out
      simp only at o0 o1 o2 o3
      go_region_held3 (fun w' => Hid (Below w.heap.size w w') ∧ w'.cell? ⟨w.heap.size, 1, none⟩ = some (.int .i64 k) ∧ w'.cell? ⟨w.heap.size, 2, none⟩ = some (.int .i64 n)) (first | exact ⟨Hb3, f1, f2⟩ | exact ⟨Hba.out.drew, o1, o2⟩)
        (first
          | (go_at_call 62; refine (HK.out _ (HB.out _ Hba.out.drew)).mono ?_; rintro r w3 ⟨rfl, hb3⟩; have Hb3 := hide (bthen Hba.out.drew hb3); have f1 : w3.cell? ⟨w.heap.size, 1, none⟩ = some (.int .i64 k) := (hb3.cell (p := ⟨w.heap.size, 1, none⟩) olt).trans o1; have f2 : w3.cell? ⟨w.heap.size, 2, none⟩ = some (.int .i64 n) := (hb3.cell (p := ⟨w.heap.size, 2, none⟩) olt).trans o2; clear hb3))
      all_goals
        go_wp2_with fail
        refine (HC.out _ (HB.out _ Hb3.out)).mono ?_
        rintro r w4 ⟨rfl, hb4⟩
        have Hb4 := hide (bthen Hb3.out hb4)
        clear hb4
        go_wp2_with fail
        refine (HL.out _ (HB.out _ Hb4.out)).mono ?_
        rintro r w5 ⟨rfl, rfl⟩
        go_wp2_with fail
        refine (HW.out _ (HB.out _ Hb4.out)).mono ?_
        rintro r w6 ⟨rfl, ⟨v6, h6⟩, hb6⟩
        have H6 := hide h6
        have Hb6 := hide ((Hb4.out.mono (by omega)).trans hb6)
        clear h6 hb6
        go_wp2_with fail
        go_ret
        exact ⟨⟨rfl, _, _, H6.out, Or.inr rfl⟩, Hb6.out⟩
  · simp only [if_neg hin]
    have hle : q < k + n := by omega
    have hle' : (q : Int) < (k : Int) + (n : Int) := by omega
    clear hth hin
    go_enter Tryd.func38, Tryd.ntmps38
    go_wp2_with fail
    have hw1 : IntKind.i64.wrap ((k : Int) + (n : Int)) = (k : Int) + (n : Int) := iwrap_id _ (by omega) (by omega)
    generalize w.alloc (.cells #[.string ⟨#[99, 111, 112, 121]⟩, .int .i64 k, .int .i64 n, .string ⟨#[]⟩] 61) = wo at *
    obtain ⟨o0, o1, o2, o3, _, _, _, _, olt⟩ := Hop.out
    simp only at o0 o1 o2 o3
    go_region_held3 (fun w' => Hid (Below w.heap.size w w') ∧ w'.cell? ⟨w.heap.size, 1, none⟩ = some (.int .i64 k) ∧ w'.cell? ⟨w.heap.size, 2, none⟩ = some (.int .i64 n)) (first | exact ⟨Hb3, f1, f2⟩ | exact ⟨Hba.out.drew, o1, o2⟩)
      (first
        | (go_at_call 62; refine (HK.out _ (HB.out _ Hba.out.drew)).mono ?_; rintro r w3 ⟨rfl, hb3⟩; have Hb3 := hide (bthen Hba.out.drew hb3); have f1 : w3.cell? ⟨w.heap.size, 1, none⟩ = some (.int .i64 k) := (hb3.cell (p := ⟨w.heap.size, 1, none⟩) olt).trans o1; have f2 : w3.cell? ⟨w.heap.size, 2, none⟩ = some (.int .i64 n) := (hb3.cell (p := ⟨w.heap.size, 2, none⟩) olt).trans o2; clear hb3))
    all_goals
      have g := (Hb3.out.cell (p := ⟨2, 0, none⟩) lN).trans hN
      go_wp2_with fail
      go_ret
      exact ⟨rfl, Hb3.out.mono (by omega)⟩
end
end Go.Proofs.YtcenohaadggdiacDoor

namespace Go.Proofs.YtcenohaadggdiacDoor
open Go.ChangeShapes Go.WideShapes Go.ChangeAt Go.RowKit

theorem Tryd.pBound : Tryd.prog.globalNamed "packhorse/api.ErrBound" = some 0 := by kernel_rfl
theorem Tryd.qBound : (Tryd.prog.globals[0]?).map (·.type) = some 26 := by kernel_rfl
theorem Tryd.pShape : Tryd.prog.globalNamed "packhorse/api.ErrShape" = some 5 := by kernel_rfl
theorem Tryd.qShape : (Tryd.prog.globals[5]?).map (·.type) = some 26 := by kernel_rfl
theorem Tryd.pKind : Tryd.prog.globalNamed "packhorse/api.ErrKind" = some 6 := by kernel_rfl
theorem Tryd.qKind : (Tryd.prog.globals[6]?).map (·.type) = some 26 := by kernel_rfl
theorem Tryd.pNone : Tryd.prog.globalNamed "packhorse/api.ErrNone" = some 2 := by kernel_rfl
theorem Tryd.qNone : (Tryd.prog.globals[2]?).map (·.type) = some 26 := by kernel_rfl
theorem Tryd.pFull : Tryd.prog.globalNamed "packhorse/api.ErrFull" = some 3 := by kernel_rfl
theorem Tryd.qFull : (Tryd.prog.globals[3]?).map (·.type) = some 26 := by kernel_rfl
abbrev laidP5 : List (String × DataW Unit) := [("packhorse/api.ErrBound", Rows.laid_packhorse_api_ErrBound), ("packhorse/api.ErrShape", Rows.laid_packhorse_api_ErrShape), ("packhorse/api.ErrKind", Rows.laid_packhorse_api_ErrKind), ("packhorse/api.ErrNone", Rows.laid_packhorse_api_ErrNone), ("packhorse/api.ErrFull", Rows.laid_packhorse_api_ErrFull)]

theorem per_of_laid {W : World} (h : laidMetH Tryd.prog laidP5 W) : ∃ e, PEr e W := by
  rw [MakeChecks.laidMetH_plain _ _ _ (by kernel_rfl)] at h
  obtain ⟨aBound, _, hvBound, _⟩ := laid_sentinel h Tryd.pBound Tryd.qBound Tryd.underlying26 Tryd.row161 Tryd.underlying161 Tryd.underlying179 rfl rfl Tryd.underlying9 Tryd.cells179 Tryd.cells9
  obtain ⟨aShape, _, hvShape, _⟩ := laid_sentinel h.tail Tryd.pShape Tryd.qShape Tryd.underlying26 Tryd.row161 Tryd.underlying161 Tryd.underlying179 rfl rfl Tryd.underlying9 Tryd.cells179 Tryd.cells9
  obtain ⟨aKind, _, hvKind, _⟩ := laid_sentinel h.tail.tail Tryd.pKind Tryd.qKind Tryd.underlying26 Tryd.row161 Tryd.underlying161 Tryd.underlying179 rfl rfl Tryd.underlying9 Tryd.cells179 Tryd.cells9
  obtain ⟨aNone, _, hvNone, _⟩ := laid_sentinel h.tail.tail.tail Tryd.pNone Tryd.qNone Tryd.underlying26 Tryd.row161 Tryd.underlying161 Tryd.underlying179 rfl rfl Tryd.underlying9 Tryd.cells179 Tryd.cells9
  obtain ⟨aFull, _, hvFull, _⟩ := laid_sentinel h.tail.tail.tail.tail Tryd.pFull Tryd.qFull Tryd.underlying26 Tryd.row161 Tryd.underlying161 Tryd.underlying179 rfl rfl Tryd.underlying9 Tryd.cells179 Tryd.cells9
  exact ⟨⟨⟨⟨0, .nilIface, _, _, _, _⟩, _, _, _, _⟩, _, _⟩, ⟨by simpa using World.var?_cell Tryd.pBound hvBound 0, by simpa using World.var?_cell Tryd.pShape hvShape 0, by simpa using World.var?_cell Tryd.pKind hvKind 0⟩, by simpa using World.var?_cell Tryd.pFull hvFull 0, by simpa using World.var?_cell Tryd.pNone hvNone 0⟩
theorem door_metP5 (os : Os) (args : Array Value) : laidMetH Tryd.prog laidP5 ((World.doorLaid Tryd.prog 400 os).forCall (fun _ _ => 0) ⟨#[], args, []⟩).memory :=
  laidMetH_of_parts3 (fuel := 8) (laidMet_of_run' 8 (by kernel_rfl) (by kernel_rfl)) (by kernel_rfl) (by kernel_rfl)
end Go.Proofs.YtcenohaadggdiacDoor

namespace Go.Proofs.YtcenohaadggdiacDoor
open Go.Delta (Opx cost copyOp dataOp kCopy kData noBytes opFault)

/-- What an op adds; none: it copies a block that there is not. -/
def pieceO (old : List UInt8) (size : Nat) (o : Opx) : Option (List UInt8) :=
  if o.kind = kCopy then (if (o.at_.toNat + o.n.toNat - 1) * size < old.length then some ((old.drop (o.at_.toNat * size)).take (o.n.toNat * size)) else none) else some o.data.data.toList
theorem pieceO_copy (old : List UInt8) (size a n : Nat) : pieceO old size (copyOp a n) = if (a + n - 1) * size < old.length then some ((old.drop (a * size)).take (n * size)) else none := (if_pos rfl).trans rfl
theorem pieceO_data (old : List UInt8) (size : Nat) (d : List UInt8) : pieceO old size (dataOp d) = some d := by
  unfold pieceO
  rw [if_neg (show ¬ (dataOp d).kind = kCopy from fun e => Go.Delta.kinds_ne e.symm)]
  simp only [dataOp, strL]
/-- Ops over a file, from op i on, behind what is there: an error's number and its place, or the whole. -/
def patchL (old : List UInt8) (size : Nat) : List Opx → Nat → List UInt8 → Except (Nat × Nat) (List UInt8)
  | [], _, out => .ok out
  | o :: r, i, out =>
    match pieceO old size o with
    | none => .error (6, i)
    | some p => if 4000 < out.length + p.length then .error (8, i) else patchL old size r (i + 1) (out ++ p)
theorem patchL_step (old : List UInt8) (size : Nat) (l : List Opx) (j : Nat) (out : List UInt8) (h : j < l.length) :
    patchL old size (l.drop j) j out = match pieceO old size l[j] with | none => .error (6, j) | some p => if 4000 < out.length + p.length then .error (8, j) else patchL old size (l.drop (j + 1)) (j + 1) (out ++ p) := by
  rw [List.drop_eq_getElem_cons h, patchL]
theorem patchL_code (old : List UInt8) (size : Nat) : ∀ (l : List Opx) (i : Nat) (out : List UInt8) (c k : Nat), patchL old size l i out = .error (c, k) → (c = 6 ∨ c = 8) ∧ i ≤ k ∧ k < i + l.length
  | [], _, _, _, _, h => by cases h
  | o :: r, i, out, c, k, h => by
    rw [patchL] at h
    split at h
    · cases h; simp
    · split at h
      · cases h; simp
      · have := patchL_code old size r _ _ _ _ h
        simp; omega
/-- The whole is no longer than it may be. -/
theorem patchL_len (old : List UInt8) (size : Nat) : ∀ (l : List Opx) (i : Nat) (out all : List UInt8), patchL old size l i out = .ok all → out.length ≤ 4000 → all.length ≤ 4000
  | [], _, out, all, h, ho => by cases h; exact ho
  | o :: r, i, out, all, h, ho => by
    rw [patchL] at h
    split at h
    · cases h
    · split at h
      · cases h
      · rename_i p _ hp
        exact patchL_len old size r _ _ _ h (by rw [List.length_append]; omega)
/-- Behind whatever stands there, and at whatever place, it adds the same. -/
theorem patchL_front (old : List UInt8) (size : Nat) : ∀ (l : List Opx) (i j : Nat) (out all : List UInt8), patchL old size l i out = .ok all → ∀ pre, pre.length ≤ out.length → ∃ p, all = out ++ p ∧ patchL old size l j pre = .ok (pre ++ p)
  | [], _, _, out, all, h, pre, _ => by cases h; exact ⟨[], by simp, by simp [patchL]⟩
  | o :: r, i, j, out, all, h, pre, hp => by
    rw [patchL] at h ⊢
    split at h
    · cases h
    · rename_i p hpc
      split at h
      · cases h
      · rename_i hl
        rw [if_neg (by omega)]
        obtain ⟨q, e1, e2⟩ := patchL_front old size r (i + 1) (j + 1) (out ++ p) all h (pre ++ p) (by rw [List.length_append, List.length_append]; omega)
        exact ⟨p ++ q, by rw [e1, List.append_assoc], by rw [e2, List.append_assoc]⟩
theorem patchL_append (old : List UInt8) (size : Nat) : ∀ (a b : List Opx) (i : Nat) (out all : List UInt8), patchL old size (a ++ b) i out = .ok all → ∃ mid, patchL old size a i out = .ok mid ∧ patchL old size b (i + a.length) mid = .ok all
  | [], b, i, out, all, h => ⟨out, rfl, h⟩
  | o :: r, b, i, out, all, h => by
    rw [List.cons_append, patchL] at h
    rw [patchL]
    split at h
    · cases h
    · rename_i p hpc
      split at h
      · cases h
      · rename_i hl
        rw [if_neg hl]
        obtain ⟨mid, e1, e2⟩ := patchL_append old size r b (i + 1) (out ++ p) all h
        exact ⟨mid, e1, by rw [List.length_cons]; rw [show i + (r.length + 1) = i + 1 + r.length by omega]; exact e2⟩
/-- In two parts what it is at once. -/
theorem patchL_parts (old : List UInt8) (size : Nat) (a b : List Opx) (all : List UInt8) (h : patchL old size (a ++ b) 0 [] = .ok all) : ∃ x y, patchL old size a 0 [] = .ok x ∧ patchL old size b 0 [] = .ok y ∧ x ++ y = all := by
  obtain ⟨mid, e1, e2⟩ := patchL_append old size a b 0 [] all h
  obtain ⟨p, e3, e4⟩ := patchL_front old size b _ 0 mid all e2 [] (by simp)
  exact ⟨mid, p, e1, by simpa using e4, e3.symm⟩
/-- Data costs what it is. -/
theorem patchL_cost (old : List UInt8) (size : Nat) : ∀ (l : List Opx) (i : Nat) (out all : List UInt8), (∀ o ∈ l, opFault o = 0) → patchL old size l i out = .ok all → out.length + cost l ≤ all.length
  | [], _, out, all, _, h => by cases h; simp [cost]
  | o :: r, i, out, all, hw, h => by
    rw [patchL] at h
    split at h
    · cases h
    · rename_i p hpc
      split at h
      · cases h
      · have ih := patchL_cost old size r _ _ _ (fun x hx => hw x (List.mem_cons_of_mem _ hx)) h
        rw [List.length_append] at ih
        have hd : o.data.size ≤ p.length := by
          rcases Go.Delta.op_right (hw o (List.mem_cons_self ..)) with ⟨a, n, rfl, _⟩ | ⟨d, rfl, _⟩
          · exact Nat.zero_le _
          · unfold pieceO at hpc
            rw [if_neg (show ¬ (dataOp d).kind = kCopy from fun e => Go.Delta.kinds_ne e.symm)] at hpc
            cases hpc
            rw [lenL]
            exact Nat.le_refl _
        rw [cost]
        omega
/-- What is put together, in one form: the bytes, an error's number, its place. -/
def patchOut (old : List UInt8) (size : Int) (ops : List Opx) : List UInt8 × Nat × Int :=
  if 1 ≤ size ∧ size ≤ 64 ∧ old.length ≤ 4000 then
    (if (Go.Delta.faultO ops).1 = 0 then (match patchL old size.toNat ops 0 [] with | .ok all => (all, 0, -1) | .error (c, i) => ([], c, (i : Int))) else ([], (Go.Delta.faultO ops).1, (Go.Delta.faultO ops).2))
  else ([], 2, -1)
theorem patchOut_len (old : List UInt8) (size : Int) (ops : List Opx) : (patchOut old size ops).1.length ≤ 4000 := by
  unfold patchOut
  split
  · split
    · split
      · rename_i all h
        exact patchL_len _ _ _ _ _ _ h (by simp)
      · simp
    · simp
  · simp
theorem patchOut_bad (old : List UInt8) (size : Int) (ops : List Opx) : (patchOut old size ops).2.1 ≠ 0 → (patchOut old size ops).1 = [] := by
  unfold patchOut
  split
  · split
    · split
      · intro h; exact absurd rfl h
      · intro _; rfl
    · intro _; rfl
  · intro _; rfl
end Go.Proofs.YtcenohaadggdiacDoor
