/-
  Contracts of plain.Code and of coded, at nil and at the twelve errors, over this dump.
-/
import Derived.Test.YtogpjblikphpcaaGreatDoorErrIs
import Derived.Test.YtogpjblikphpcaaGreatDoorBase
namespace Go.Proofs.YtogpjblikphpcaaGreatDoor
open Go.RowKit

/-- The twelve errors' variables, in the document's order. -/
def gnos : List Nat := [5, 4, 6, 7, 3, 0, 8, 2, 9, 10, 1, 11]
def gno (k : Nat) : Nat := gnos.getD k 0

/-- The twelve errors' variables hold twelve errors of errors.New's make; package errors' own variable holds its handle. -/
structure Sents (w : World) (a : Nat → Addr) : Prop where
  cell : ∀ k, k < 12 → w.cell? ⟨gno k, 0, none⟩ = some (.iface 231 (.pointer (some (a k))))
  row : ∀ k, k < 12 → ∃ c t, w.heap[(a k).block]? = some (.cells c t (0, 0))
  ne : ∀ i j, i < 12 → j < 12 → i ≠ j → a i ≠ a j
  handle : w.cell? ⟨12, 0, none⟩ = some (.iface 162 (.agg #[.pointer (some ⟨21, 28, none⟩)]))

theorem Sents.c0 {w : World} {a : Nat → Addr} (h : Sents w a) : w.cell? ⟨5, 0, none⟩ = some (.iface 231 (.pointer (some (a 0)))) := h.cell 0 (by decide)
theorem Sents.c1 {w : World} {a : Nat → Addr} (h : Sents w a) : w.cell? ⟨4, 0, none⟩ = some (.iface 231 (.pointer (some (a 1)))) := h.cell 1 (by decide)
theorem Sents.c2 {w : World} {a : Nat → Addr} (h : Sents w a) : w.cell? ⟨6, 0, none⟩ = some (.iface 231 (.pointer (some (a 2)))) := h.cell 2 (by decide)
theorem Sents.c3 {w : World} {a : Nat → Addr} (h : Sents w a) : w.cell? ⟨7, 0, none⟩ = some (.iface 231 (.pointer (some (a 3)))) := h.cell 3 (by decide)
theorem Sents.c4 {w : World} {a : Nat → Addr} (h : Sents w a) : w.cell? ⟨3, 0, none⟩ = some (.iface 231 (.pointer (some (a 4)))) := h.cell 4 (by decide)
theorem Sents.c5 {w : World} {a : Nat → Addr} (h : Sents w a) : w.cell? ⟨0, 0, none⟩ = some (.iface 231 (.pointer (some (a 5)))) := h.cell 5 (by decide)
theorem Sents.c6 {w : World} {a : Nat → Addr} (h : Sents w a) : w.cell? ⟨8, 0, none⟩ = some (.iface 231 (.pointer (some (a 6)))) := h.cell 6 (by decide)
theorem Sents.c7 {w : World} {a : Nat → Addr} (h : Sents w a) : w.cell? ⟨2, 0, none⟩ = some (.iface 231 (.pointer (some (a 7)))) := h.cell 7 (by decide)
theorem Sents.c8 {w : World} {a : Nat → Addr} (h : Sents w a) : w.cell? ⟨9, 0, none⟩ = some (.iface 231 (.pointer (some (a 8)))) := h.cell 8 (by decide)
theorem Sents.c9 {w : World} {a : Nat → Addr} (h : Sents w a) : w.cell? ⟨10, 0, none⟩ = some (.iface 231 (.pointer (some (a 9)))) := h.cell 9 (by decide)
theorem Sents.c10 {w : World} {a : Nat → Addr} (h : Sents w a) : w.cell? ⟨1, 0, none⟩ = some (.iface 231 (.pointer (some (a 10)))) := h.cell 10 (by decide)
theorem Sents.c11 {w : World} {a : Nat → Addr} (h : Sents w a) : w.cell? ⟨11, 0, none⟩ = some (.iface 231 (.pointer (some (a 11)))) := h.cell 11 (by decide)
theorem Sents.below {w w' : World} {a : Nat → Addr} (h : Sents w a) (hb : Below w.heap.size w w') : Sents w' a := by
  refine ⟨fun k hk => (hb.cell (World.block_lt_of_cell? _ _ (h.cell k hk))).trans (h.cell k hk), fun k hk => ?_, h.ne, (hb.cell (World.block_lt_of_cell? _ _ h.handle)).trans h.handle⟩
  obtain ⟨c, t, hr⟩ := h.row k hk
  exact ⟨c, t, (hb.block _ (Array.getElem?_eq_some_iff.1 hr).1).trans hr⟩

theorem code_nil (w : World) : Calls Tryz.prog 33 #[.nilIface] w fun r w' => r = .returned (.tuple #[.int .i64 0, .int .i64 (-1)]) ∧ w' = w := by
  go_enter Tryz.func33, Tryz.ntmps33
  go_wp2
  go_ret2
  exact ⟨rfl, rfl⟩

def errList (a : Nat → Addr) : Array Value := #[.iface 231 (.pointer (some (a 0))), .iface 231 (.pointer (some (a 1))), .iface 231 (.pointer (some (a 2))), .iface 231 (.pointer (some (a 3))), .iface 231 (.pointer (some (a 4))), .iface 231 (.pointer (some (a 5))), .iface 231 (.pointer (some (a 6))), .iface 231 (.pointer (some (a 7))), .iface 231 (.pointer (some (a 8))), .iface 231 (.pointer (some (a 9))), .iface 231 (.pointer (some (a 10))), .iface 231 (.pointer (some (a 11)))]

/-- The list that Code ranges over. -/
theorem errList_cell (a : Nat → Addr) (w : World) (j : Nat) (hj : j < 12) : (w.alloc (.cells (errList a) 28)).cell? ⟨w.heap.size, j, none⟩ = some (.iface 231 (.pointer (some (a j)))) := by
  unfold errList
  match j, hj with
  | 0, _ => simp
  | 1, _ => simp
  | 2, _ => simp
  | 3, _ => simp
  | 4, _ => simp
  | 5, _ => simp
  | 6, _ => simp
  | 7, _ => simp
  | 8, _ => simp
  | 9, _ => simp
  | 10, _ => simp
  | 11, _ => simp

set_option maxHeartbeats 2000000 in
set_option maxRecDepth 100000 in
theorem code_sent (k : Nat) (hk : k < 12) (a : Nat → Addr) (w : World) (h : Sents w a) :
    Calls Tryz.prog 33 #[.iface 231 (.pointer (some (a k)))] w fun r w' => r = .returned (.tuple #[.int .i64 ((k : Int) + 1), .int .i64 (-1)]) ∧ Below w.heap.size w w' := by
  have H := hide h
  clear h
  have hb0 : Below w.heap.size w (w.alloc (.cells #[.pointer none] 86)) := (Below.refl _ _).alloc (Nat.le_refl _) _
  have HA := hide (H.out.below hb0)
  have Hb0 := hide hb0
  clear hb0
  go_enter Tryz.func33, Tryz.ntmps33
  go_wp2_with fail
  refine (as_miss (a k) _ _ HA.out.handle).mono ?_
  rintro e w1 ⟨rfl, hb1⟩
  have H1 := hide (HA.out.below hb1)
  have Hb1 := hide (Hb0.out.trans (hb1.mono (by simp)))
  have h0 := H1.out.c0
  have h1 := H1.out.c1
  have h2 := H1.out.c2
  have h3 := H1.out.c3
  have h4 := H1.out.c4
  have h5 := H1.out.c5
  have h6 := H1.out.c6
  have h7 := H1.out.c7
  have h8 := H1.out.c8
  have h9 := H1.out.c9
  have h10 := H1.out.c10
  have h11 := H1.out.c11
  clear hb1 HA Hb0
  go_wp2_with fail
  clear h0 h1 h2 h3 h4 h5 h6 h7 h8 h9 h10 h11
  have hb2 : Below w1.heap.size w1 (w1.alloc (.cells (errList a) 28)) := (Below.refl _ _).alloc (Nat.le_refl _) _
  have h2 := H1.out.below hb2
  have hcl := errList_cell a w1
  have hB2 := Hb1.out.trans (hb2.mono Hb1.out.size)
  unfold errList at h2 hcl hB2
  generalize hw2 : w1.alloc (.cells #[.iface 231 (.pointer (some (a 0))), .iface 231 (.pointer (some (a 1))), .iface 231 (.pointer (some (a 2))), .iface 231 (.pointer (some (a 3))), .iface 231 (.pointer (some (a 4))), .iface 231 (.pointer (some (a 5))), .iface 231 (.pointer (some (a 6))), .iface 231 (.pointer (some (a 7))), .iface 231 (.pointer (some (a 8))), .iface 231 (.pointer (some (a 9))), .iface 231 (.pointer (some (a 10))), .iface 231 (.pointer (some (a 11)))] 28) = w2 at *
  have H2 := hide h2
  have Hcl := hide hcl
  have HB2 := hide hB2
  clear hw2 h2 hcl hB2 hb2 H1 Hb1
  go_loop [3, 30] (fun v3 v30 => ∃ j : Nat, j ≤ k ∧ v3 = .int .i64 (-1) ∧ v30 = .int .i64 j) (fun _ v30 => 12 - (intOf v30).toNat)
  case atStart => exact ⟨0, Nat.zero_le _, rfl, rfl⟩
  case round =>
    obtain ⟨j, hj, rfl, rfl⟩ := hrel
    have hj12 : (j : Int) < 12 := by omega
    have hc := Hcl.out j (by omega)
    by_cases hjk : j = k
    · subst hjk
      go_wp2_with fail
      refine (is_same (a j) _).mono ?_
      rintro e w3 ⟨rfl, rfl⟩
      go_wp2
      go_ret2
      exact ⟨rfl, HB2.out⟩
    · obtain ⟨c1, t1, hr1⟩ := H2.out.row k hk
      obtain ⟨c2, t2, hr2⟩ := H2.out.row j (by omega)
      have hne := H2.out.ne k j hk (by omega) (fun e => hjk e.symm)
      have Hr1 := hide hr1
      have Hr2 := hide hr2
      have Hne := hide hne
      have Hjk := hide hjk
      clear hr1 hr2 hne hjk
      go_wp2_with fail
      refine (is_other (a k) (a j) c1 c2 t1 t2 _ Hne.out Hr1.out Hr2.out).mono ?_
      rintro e w3 ⟨rfl, rfl⟩
      go_wp2
      go_round
      case rel => exact ⟨j + 1, by have := Hjk.out; omega, rfl, by go_num⟩
      case measure => simp [intOf]; omega
end Go.Proofs.YtogpjblikphpcaaGreatDoor
