/-
  Contracts of delta.isMany, wrongCopy, wrongData, wrong over this dump.
-/
import Derived.Test.YtgogjncamjbajacDoorOps
import Derived.Test.YtgogjncamjbajacDoorWrong
namespace Go.Proofs.YtgogjncamjbajacDoor
open Go.RowKit
open Go.Delta (Opx kCopy kData noBytes)

/-- The five errors that are met: what their variables hold. -/
structure OV where
  e : EV
  tS : TypeId
  xS : Value
  tK : TypeId
  xK : Value
structure OEr (e : OV) (w : World) : Prop where
  er : Er e.e w
  shape : w.cell? ⟨4, 0, none⟩ = some (.iface e.tS e.xS)
  kind : w.cell? ⟨2, 0, none⟩ = some (.iface e.tK e.xK)
theorem OEr.below {e : OV} {w w' : World} (h : OEr e w) (hb : Below w.heap.size w w') : OEr e w' :=
  ⟨h.er.below hb, (hb.cell (World.block_lt_of_cell? _ _ h.shape)).trans h.shape, (hb.cell (World.block_lt_of_cell? _ _ h.kind)).trans h.kind⟩
/-- An error by its number. -/
def errO (e : OV) : Nat → Value
  | 3 => .iface e.tS e.xS
  | 4 => .iface e.tK e.xK
  | c => errV e.e c
theorem errO_form (e : OV) (c : Nat) (h : c ≠ 0) : ∃ t x, errO e c = .iface t x := by
  match c, h with
  | 1, _ => exact ⟨_, _, rfl⟩
  | 2, _ => exact ⟨_, _, rfl⟩
  | 3, _ => exact ⟨_, _, rfl⟩
  | 4, _ => exact ⟨_, _, rfl⟩
  | c + 5, _ => exact ⟨_, _, rfl⟩

theorem isMany_ok (n : Int) (w : World) : Calls Tryd.prog 63 #[.int .i64 n] w fun r w' => r = .returned (.bool (decide (1 ≤ n ∧ n ≤ 4000))) ∧ w' = w := by
  by_cases h0 : 1 ≤ n
  · go_enter Tryd.func63, Tryd.ntmps63
    go_wp2
    go_ret
    exact ⟨ret_bool (by simp [h0]), rfl⟩
  · have h0' : decide (1 ≤ n) = false := by simp; omega
    go_enter Tryd.func63, Tryd.ntmps63
    go_wp2
    go_ret
    exact ⟨ret_bool (by simp), rfl⟩

/-- Kinds that are none, as a test tells it. -/
theorem kind_copy {k : ByteArray} (h : k ≠ kCopy) : (k.toList == [99, 111, 112, 121]) = false := by
  rw [beq_eq_false_iff_ne]
  exact fun e => h (bytes_ext (by rw [e, ByteArray.toList_eq]; rfl))
theorem kind_data {k : ByteArray} (h : k ≠ kData) : (k.toList == [100, 97, 116, 97]) = false := by
  rw [beq_eq_false_iff_ne]
  exact fun e => h (bytes_ext (by rw [e, ByteArray.toList_eq]; rfl))
/-- What is wrong with a copy, and with data. -/
def copyFault (o : Opx) : Nat := if o.data ≠ noBytes then 3 else if 0 ≤ o.at_ ∧ o.at_ ≤ 4000 ∧ 1 ≤ o.n ∧ o.n ≤ 4000 then 0 else 2
def dataFault (o : Opx) : Nat := if o.at_ = 0 ∧ o.n = 0 then (if 1 ≤ o.data.size ∧ o.data.size ≤ 4000 then 0 else 2) else 3

set_option maxHeartbeats 1000000 in
set_option maxRecDepth 100000 in
theorem wrongCopy_ok (o : Opx) (e : OV) (w : World) (he : OEr e w) : Calls Tryd.prog 52 #[oval o] w fun r w' => r = .returned (errO e (copyFault o)) ∧ Below w.heap.size w w' := by
  obtain ⟨k, a, n, d⟩ := o
  have hB := he.er.bound
  have hS := he.shape
  have lB := World.block_lt_of_cell? _ _ hB
  have lS := World.block_lt_of_cell? _ _ hS
  have I := hide (fun W => isMany_ok n W)
  unfold oval copyFault
  simp only
  clear he
  by_cases hd : d = noBytes
  · subst hd
    unfold noBytes
    rw [if_neg (by simp)]
    by_cases h0 : a < 0
    · rw [if_neg (by omega)]
      have h0' : decide (a < 0) = true := by simp; omega
      go_enter Tryd.func52, Tryd.ntmps52
      go_wp2
      go_ret
      exact ⟨rfl, (Below.refl _ _).alloc (Nat.le_refl _) _⟩
    · have h0' : decide (a < 0) = false := by simp; omega
      by_cases h1 : 4000 < a
      · rw [if_neg (by omega)]
        have h1' : decide (4000 < a) = true := by simp; omega
        go_enter Tryd.func52, Tryd.ntmps52
        go_wp2
        go_ret
        exact ⟨rfl, (Below.refl _ _).alloc (Nat.le_refl _) _⟩
      · have h1' : decide (4000 < a) = false := by simp; omega
        by_cases h2 : 1 ≤ n ∧ n ≤ 4000
        · rw [if_pos ⟨by omega, by omega, h2⟩]
          rw [show decide (1 ≤ n ∧ n ≤ 4000) = true from decide_eq_true h2] at I
          clear h2
          go_enter Tryd.func52, Tryd.ntmps52
          go_wp2_with fail
          refine (I.out _).mono ?_
          rintro r w1 ⟨rfl, rfl⟩
          go_wp2
          go_ret
          exact ⟨rfl, (Below.refl _ _).alloc (Nat.le_refl _) _⟩
        · rw [if_neg (fun h => h2 h.2.2)]
          rw [show decide (1 ≤ n ∧ n ≤ 4000) = false from decide_eq_false h2] at I
          clear h2
          go_enter Tryd.func52, Tryd.ntmps52
          go_wp2_with fail
          refine (I.out _).mono ?_
          rintro r w1 ⟨rfl, rfl⟩
          go_wp2
          go_ret
          exact ⟨rfl, (Below.refl _ _).alloc (Nat.le_refl _) _⟩
  · rw [if_pos hd]
    have hne : d.toList.isEmpty = false := by
      cases hx : d.toList.isEmpty with
      | false => rfl
      | true => exact absurd (bytes_ext (by rw [List.isEmpty_iff.1 hx, ByteArray.toList_eq]; rfl)) hd
    clear hd
    go_enter Tryd.func52, Tryd.ntmps52
    go_wp2
    go_ret
    exact ⟨rfl, (Below.refl _ _).alloc (Nat.le_refl _) _⟩

set_option maxHeartbeats 1000000 in
set_option maxRecDepth 100000 in
theorem wrongData_ok (o : Opx) (e : OV) (w : World) (he : OEr e w) (hs : o.data.size ≤ 1000000) : Calls Tryd.prog 53 #[oval o] w fun r w' => r = .returned (errO e (dataFault o)) ∧ Below w.heap.size w w' := by
  obtain ⟨k, a, n, d⟩ := o
  have hB := he.er.bound
  have hS := he.shape
  have lB := World.block_lt_of_cell? _ _ hB
  have lS := World.block_lt_of_cell? _ _ hS
  have I := hide (fun W => isMany_ok (d.size : Int) W)
  unfold oval dataFault
  simp only at hs ⊢
  clear he
  by_cases h0 : a = 0
  · subst h0
    by_cases h1 : n = 0
    · subst h1
      rw [if_pos ⟨rfl, rfl⟩]
      by_cases h2 : 1 ≤ d.size ∧ d.size ≤ 4000
      · rw [if_pos h2]
        rw [show decide (1 ≤ (d.size : Int) ∧ (d.size : Int) ≤ 4000) = true from decide_eq_true (by omega)] at I
        clear h2
        go_enter Tryd.func53, Tryd.ntmps53
        go_wp2_with fail
        refine (I.out _).mono ?_
        rintro r w1 ⟨rfl, rfl⟩
        go_wp2
        go_ret
        exact ⟨rfl, (Below.refl _ _).alloc (Nat.le_refl _) _⟩
      · rw [if_neg h2]
        rw [show decide (1 ≤ (d.size : Int) ∧ (d.size : Int) ≤ 4000) = false from decide_eq_false (by omega)] at I
        clear h2
        go_enter Tryd.func53, Tryd.ntmps53
        go_wp2_with fail
        refine (I.out _).mono ?_
        rintro r w1 ⟨rfl, rfl⟩
        go_wp2
        go_ret
        exact ⟨rfl, (Below.refl _ _).alloc (Nat.le_refl _) _⟩
    · rw [if_neg (fun h => h1 h.2)]
      have h1' : (n != 0) = true := by simpa using h1
      clear h1
      go_enter Tryd.func53, Tryd.ntmps53
      go_wp2
      go_ret
      exact ⟨rfl, (Below.refl _ _).alloc (Nat.le_refl _) _⟩
  · rw [if_neg (fun h => h0 h.1)]
    have h0' : (a != 0) = true := by simpa using h0
    clear h0
    go_enter Tryd.func53, Tryd.ntmps53
    go_wp2
    go_ret
    exact ⟨rfl, (Below.refl _ _).alloc (Nat.le_refl _) _⟩

set_option maxHeartbeats 1000000 in
set_option maxRecDepth 100000 in
theorem wrongOp_ok (o : Opx) (e : OV) (w : World) (he : OEr e w) (hs : o.data.size ≤ 1000000) : Calls Tryd.prog 31 #[oval o] w fun r w' => r = .returned (errO e (Go.Delta.opFault o)) ∧ Below w.heap.size w w' := by
  have HC := hide (fun W (h : Below w.heap.size w W) => wrongCopy_ok o e W (he.below h))
  have HD := hide (fun W (h : Below w.heap.size w W) => wrongData_ok o e W (he.below h) hs)
  have hK := he.kind
  have lK := World.block_lt_of_cell? _ _ hK
  have ef : Go.Delta.opFault o = if o.kind = kCopy then copyFault o else if o.kind = kData then dataFault o else 4 := rfl
  rw [ef]
  clear ef he
  obtain ⟨k, a, n, d⟩ := o
  unfold oval at HC HD ⊢
  simp only at HC HD ⊢
  generalize copyFault ⟨k, a, n, d⟩ = cf at *
  generalize dataFault ⟨k, a, n, d⟩ = df at *
  by_cases h1 : k = kCopy
  · subst h1
    rw [if_pos rfl]
    unfold kCopy at *
    generalize errO e cf = v at *
    go_enter Tryd.func31, Tryd.ntmps31
    go_wp2_with fail
    refine (HC.out _ ((Below.refl _ _).alloc (Nat.le_refl _) _)).mono ?_
    rintro r w1 ⟨rfl, hb1⟩
    have Hb1 := hide (((Below.refl w.heap.size w).alloc (Nat.le_refl _) (.cells #[.string ⟨#[99, 111, 112, 121]⟩, .int .i64 a, .int .i64 n, .string d] 48)).trans (hb1.mono (by simp)))
    clear hb1
    go_wp2
    go_ret
    exact ⟨rfl, Hb1.out⟩
  · rw [if_neg h1]
    by_cases h2 : k = kData
    · subst h2
      rw [if_pos rfl]
      unfold kData at *
      clear h1
      generalize errO e df = v at *
      go_enter Tryd.func31, Tryd.ntmps31
      go_wp2_with fail
      refine (HD.out _ ((Below.refl _ _).alloc (Nat.le_refl _) _)).mono ?_
      rintro r w1 ⟨rfl, hb1⟩
      have Hb1 := hide (((Below.refl w.heap.size w).alloc (Nat.le_refl _) (.cells #[.string ⟨#[100, 97, 116, 97]⟩, .int .i64 a, .int .i64 n, .string d] 48)).trans (hb1.mono (by simp)))
      clear hb1
      go_wp2
      go_ret
      exact ⟨rfl, Hb1.out⟩
    · rw [if_neg h2]
      have e1 := kind_copy h1
      have e2 := kind_data h2
      clear h1 h2
      go_enter Tryd.func31, Tryd.ntmps31
      go_wp2_with fail
      go_ret
      exact ⟨rfl, (Below.refl _ _).alloc (Nat.le_refl _) _⟩
end Go.Proofs.YtgogjncamjbajacDoor
