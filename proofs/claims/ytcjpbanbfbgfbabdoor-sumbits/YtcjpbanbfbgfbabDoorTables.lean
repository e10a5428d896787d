/-
  Contracts of sum.overOneByte and of (made).overTwiceAsMany over this dump.
-/
import Derived.Test.YtcjpbanbfbgfbabDoorMade
namespace Go.Proofs.YtcjpbanbfbgfbabDoor
open Go.RowKit

/-- An array of 32 at block p. -/
def Arr (p : Nat) (w : World) (c : Array Value) : Prop := w.heap[p]? = some (.cells c 39 (0, 0)) ∧ c.size = 32
theorem Arr.lt {p : Nat} {w : World} {c : Array Value} (h : Arr p w c) : p < w.heap.size := (Array.getElem?_eq_some_iff.1 h.1).1
theorem Arr.below {p k : Nat} {w w' : World} {c : Array Value} (h : Arr p w c) (hb : Below k w w') (hp : p < k) : Arr p w' c := ⟨(hb.block p hp).trans h.1, h.2⟩
theorem Arr.drew {p : Nat} {w : World} {c : Array Value} (h : Arr p w c) : Arr p w.drew c := h
theorem Arr.fresh (w : World) (c : Array Value) (h : c.size = 32) : Arr w.heap.size (w.alloc (.cells c 39)) c := ⟨by show (w.heap.push _)[w.heap.size]? = _; simp, h⟩
theorem Arr.cell {p : Nat} {w : World} {c : Array Value} (h : Arr p w c) (j : Nat) : w.cell? ⟨p, j, none⟩ = c[j]? := cell_of_row w p j c _ _ h.1
theorem Arr.frozen {p : Nat} {w : World} {c : Array Value} (h : Arr p w c) (j : Nat) : w.frozen? ⟨p, j, none⟩ = false := by simp [World.frozen?, h.1]
theorem Arr.set {p : Nat} {w : World} {c : Array Value} (h : Arr p w c) (j : Nat) (v : Value) : Arr p (w.setCell ⟨p, j, none⟩ v) (c.setIfInBounds j v) := ⟨heap_setCell_same w p j c _ v h.1, by simp [h.2]⟩
theorem Arr.other {p q : Nat} {w : World} {c d : Array Value} (h : Arr p w c) (hq : Arr q w d) (hne : p ≠ q) (j : Nat) (v : Value) : Arr p (w.setCell ⟨q, j, none⟩ v) c := by
  refine ⟨?_, h.2⟩
  rw [setCell_eq_setRow w q j d _ _ v hq.1, setRow_other w q p _ hne]
  exact h.1
theorem Arr.fresh' (w : World) (n : Nat) (c : Array Value) (hn : n = w.heap.size) (h : c.size = 32) : Arr n (w.alloc (.cells c 39)) c := by
  subst hn; exact Arr.fresh w c h

theorem Arr.row {p : Nat} {w : World} {c d : Array Value} (h : Arr p w c) (hd : d.size = 32) : Arr p (w.setRow p d) d := ⟨setRow_heap w p c d _ _ h.1, hd⟩
theorem made_size : (Tryd.prog.info? 39).map (·.size) = some 32 := by kernel_rfl
theorem made_at {c : Array Value} (h : c.size = 32) : (Tryd.prog.info? 39).map (·.size) = some c.size := by rw [h]; exact made_size
theorem below_row {k p : Nat} {w w' : World} (h : Below k w w') (hp : k ≤ p) (c : Array Value) : Below k w (w'.setRow p c) :=
  ⟨h.os, h.tape, h.output, by simp; exact h.size, fun i hi => by rw [setRow_other _ _ _ _ (by omega)]; exact h.block i hi⟩

/-- The first i of an array are what each bit makes over k bits. -/
def Upto (k i : Nat) (c : Array Value) : Prop := ∀ j, j < i → c[j]? = some (.int .u32 (Go.Crc.shs k (2 ^ j) : Nat))
theorem Upto.next {k i : Nat} {c : Array Value} (h : Upto k i c) (hc : c.size = 32) (hi : i < 32) : Upto k (i + 1) (c.setIfInBounds i (.int .u32 (Go.Crc.shs k (2 ^ i) : Nat))) := by
  intro j hj
  rw [Array.getElem?_setIfInBounds]
  split
  · rename_i e
    subst e
    rw [if_pos (by omega)]
  · exact h j (by omega)
theorem Upto.all {k : Nat} {c : Array Value} (h : Upto k 32 c) (hc : c.size = 32) : c = tabV k := by
  apply Array.ext_getElem?
  intro j
  by_cases hj : j < 32
  · rw [h j hj, tabV_at k j hj]
  · rw [Array.getElem?_eq_none (by omega), Array.getElem?_eq_none (by rw [tabV_size]; omega)]

set_option maxHeartbeats 1000000 in
set_option maxRecDepth 100000 in
theorem oneByte_ok (w : World) : Calls Tryd.prog 16 #[] w fun r w' => r = .returned (.agg (tabV 8)) ∧ Below w.heap.size w w' := by
  go_enter Tryd.func16, Tryd.ntmps16
  go_wp2_with fail
  go_loopw [3] (fun t wr => ∃ (i : Nat) (c c0 : Array Value), t = .int .i64 i ∧ i ≤ 32 ∧ Hid (Arr (w.heap.size + 1) wr c) ∧ Hid (Upto 8 i c) ∧ Hid (Arr w.heap.size wr c0) ∧ Hid (Below w.heap.size w wr)) (fun t _ => 32 - (intOf t).toNat)
  case atStart =>
    refine ⟨0, _, _, rfl, by omega, Arr.fresh' _ _ _ (by simp) rfl, fun j hj => absurd hj (by omega), (Arr.fresh _ _ rfl).below ((Below.refl _ _).alloc (Nat.le_refl _) _) (by simp), ((Below.refl _ _).alloc (Nat.le_refl _) _).alloc (by simp) _⟩
  case round =>
    obtain ⟨i, c, c0, rfl, hi, HA, HU, H0, Hb⟩ := hrel
    by_cases hlt : i < 32
    · have hlt' : (i : Int) < 32 := by omega
      have hcell := HA.out.cell i
      rw [Array.getElem?_eq_getElem (by rw [HA.out.2]; exact hlt)] at hcell
      have hfz := HA.out.frozen i
      have hpw : 2 ^ i < 2 ^ 32 := Nat.pow_lt_pow_right (by omega) hlt
      have HD := hide (fun W => divide_ok (2 ^ i) W hpw)
      have HN := hide (HU.out.next HA.out.2 hlt)
      have hp : (2 : Int) ^ i % 4294967296 = ((2 ^ i : Nat) : Int) := by
        rw [show (2 : Int) ^ i = ((2 ^ i : Nat) : Int) by push_cast; rfl]
        clear HD HN
        generalize 2 ^ i = y at *
        omega
      generalize 2 ^ i = y at *
      generalize c[i]'(by rw [HA.out.2]; exact hlt) = old at *
      go_wp2_with fail
      refine (HD.out _).mono ?_
      rintro e w1 ⟨rfl, rfl⟩
      go_wp2_with fail
      go_roundw
      case rel => exact ⟨i + 1, _, c0, by go_num, by omega, HA.out.set i _, HN.out, H0.out.other HA.out (by omega) i _, Hb.out.setCell (by simp) _⟩
      case measure => simp [intOf]; omega
    · have hle : (32 : Int) ≤ i := by omega
      obtain rfl : i = 32 := by omega
      obtain rfl := HU.out.all HA.out.2
      go_wp2_with (first
        | (refine wpList_load_row rfl 39 (.tmp 1) rfl (w.heap.size + 1) rfl _ _ _ _ HA.out.1 Tryd.underlying39 rfl (made_at HA.out.2) ?_)
        | (refine wpList_store_row rfl 39 (.tmp 0) (.tmp 12) rfl w.heap.size (tabV 8) rfl rfl _ _ H0.out.1 (made_at HA.out.2) (H0.out.2.trans HA.out.2.symm) (tabV_one 8) ?_))
      (try simp only [Exit.inBlock, Exit.then])
      exact bodyPost_ret (v := .agg (tabV 8)) (results_cell_row rfl _ _ w.heap.size _ _ _ _ rfl (H0.out.row HA.out.2).1 Tryd.underlying39 rfl (made_at HA.out.2)) rfl ⟨rfl, below_row Hb.out (Nat.le_refl _) _⟩

theorem index_arr (tv : Array Value) (i : Nat) (v : Value) (W : World) (hi : i < 32) (h : tv[i]? = some v) : (Instr.index 39 (.agg tv) (.int .i64 i)).run Tryd.prog W = .ok v W := by
  unfold Instr.index
  simp [go_sem, part, h]
  omega
theorem bthen' {k : Nat} {w w1 w2 : World} (h : Below k w w1) (hb : Below w1.heap.size w1 w2) (hk : k ≤ w1.heap.size) : Below k w w2 := h.trans (hb.mono hk)
theorem arr3 (w : World) (c : Array Value) (A B : Obj) (hc : c.size = 32) : Arr w.heap.size (((w.alloc (.cells c 39)).alloc A).alloc B) c :=
  (Arr.fresh w c hc).below (((Below.refl (w.heap.size + 1) _).alloc (by simp) A).alloc (by simp) B) (by omega)
theorem arr2 (w : World) (c : Array Value) (A B : Obj) (hc : c.size = 32) : Arr (w.heap.size + 1) (((w.alloc A).alloc (.cells c 39)).alloc B) c := by
  exact (Arr.fresh' (w.alloc A) (w.heap.size + 1) c (by simp) hc).below ((Below.refl (w.heap.size + 2) _).alloc (by simp) B) (by omega)
theorem arr1 (w : World) (c : Array Value) (A B : Obj) (hc : c.size = 32) : Arr (w.heap.size + 2) (((w.alloc A).alloc B).alloc (.cells c 39)) c :=
  Arr.fresh' ((w.alloc A).alloc B) (w.heap.size + 2) c (by simp) hc

set_option maxHeartbeats 1000000 in
set_option maxRecDepth 100000 in
theorem twice_ok (k : Nat) (w : World) (hT : Tab w) : Calls Tryd.prog 18 #[.agg (tabV k)] w fun r w' => r = .returned (.agg (tabV (k + k))) ∧ Below w.heap.size w w' := by
  have HO := hide (fun c W hc hW => of_ok k c W hc hW)
  have HAt := hide (tabV_at k)
  have hsz := hide (tabV_size k)
  have h1 := hide (tabV_one k)
  generalize tabV k = tv at *
  go_enter Tryd.func18, Tryd.ntmps18
  go_wp2_with (first
        | (refine wpList_load_row rfl 39 (.tmp 1) rfl w.heap.size rfl _ tv _ _ (arr3 w tv _ _ hsz.out).1 Tryd.underlying39 rfl (made_at hsz.out) ?_))
  go_loopw [7] (fun t wr => ∃ (i : Nat) (c c0 : Array Value), t = .int .i64 i ∧ i ≤ 32 ∧ Hid (Arr (w.heap.size + 1 + 1) wr c) ∧ Hid (Upto (k + k) i c) ∧ Hid (Arr (w.heap.size + 1) wr c0) ∧ Hid (Arr w.heap.size wr tv) ∧ Hid (Below w.heap.size w wr)) (fun t _ => 32 - (intOf t).toNat)
  case atStart =>
    exact ⟨0, _, _, rfl, by omega, arr1 _ _ _ _ rfl, fun j hj => absurd hj (by omega), arr2 _ _ _ _ rfl, arr3 _ _ _ _ hsz.out, (((Below.refl _ _).alloc (Nat.le_refl _) _).alloc (by simp) _).alloc (by simp; omega) _⟩
  case round =>
    obtain ⟨i, c, c0, rfl, hi, HA, HU, H0, Hv, Hb⟩ := hrel
    by_cases hlt : i < 32
    · have hlt' : (i : Int) < 32 := by omega
      have hpw : 2 ^ i < 2 ^ 32 := Nat.pow_lt_pow_right (by omega) hlt
      have hv := Go.Crc.shs_lt k (2 ^ i) hpw
      have hat := index_arr tv i _ wr hlt (HAt.out i hlt)
      have hn := HU.out.next HA.out.2 hlt
      rw [Go.Crc.shs_add] at hn
      have HN := hide hn
      clear hn hpw
      have HC := hide (HO.out (Go.Crc.shs k (2 ^ i)) wr hv (hT.below Hb.out))
      generalize Go.Crc.shs k (2 ^ i) = v at *
      go_wp2_with (first
        | (refine wpList_load_row rfl 39 (.tmp 1) rfl w.heap.size rfl _ tv _ _ Hv.out.1 Tryd.underlying39 rfl (made_at hsz.out) ?_))
      refine HC.out.mono ?_
      rintro e w1 ⟨rfl, hb1⟩
      have Hb1 := hide hb1
      clear hb1
      have hA1 := hide (HA.out.below Hb1.out HA.out.lt)
      have h01 := hide (H0.out.below Hb1.out H0.out.lt)
      have hv1 := hide (Hv.out.below Hb1.out Hv.out.lt)
      have hcell := hA1.out.cell i
      rw [Array.getElem?_eq_getElem (by rw [HA.out.2]; exact hlt)] at hcell
      have hfz := hA1.out.frozen i
      generalize c[i]'(by rw [HA.out.2]; exact hlt) = old at *
      go_wp2_with fail
      go_roundw
      case rel =>
        exact ⟨i + 1, _, c0, by go_num, by omega, hA1.out.set i _, HN.out, h01.out.other hA1.out (by omega) i _, hv1.out.other hA1.out (by omega) i _, (bthen' Hb.out Hb1.out (Nat.le_of_lt Hv.out.lt)).setCell (by simp; omega) _⟩
      case measure => simp [intOf]; omega
    · have hle : (32 : Int) ≤ i := by omega
      obtain rfl : i = 32 := by omega
      obtain rfl := HU.out.all HA.out.2
      go_wp2_with (first
        | (refine wpList_load_row rfl 39 (.tmp 3) rfl (w.heap.size + 1 + 1) rfl _ _ _ _ HA.out.1 Tryd.underlying39 rfl (made_at HA.out.2) ?_)
        | (refine wpList_store_row rfl 39 (.tmp 2) (.tmp 17) rfl (w.heap.size + 1) (tabV (k + k)) rfl rfl _ _ H0.out.1 (made_at HA.out.2) (H0.out.2.trans HA.out.2.symm) (tabV_one _) ?_))
      (try simp only [Exit.inBlock, Exit.then])
      exact bodyPost_ret (v := .agg (tabV (k + k))) (results_cell_row rfl _ _ (w.heap.size + 1) _ _ _ _ rfl (H0.out.row HA.out.2).1 Tryd.underlying39 rfl (made_at HA.out.2)) rfl ⟨rfl, below_row Hb.out (by omega) _⟩
end Go.Proofs.YtcjpbanbfbgfbabDoor
