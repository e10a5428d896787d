/-
  Contracts of plain.Code and of coded, at nil and at the twelve errors, over this dump.
-/
import Derived.Test.YtgcpljgdeoeppaaDoorErrIs
import Derived.Test.YtgcpljgdeoeppaaDoorWriter
namespace Go.Proofs.YtgcpljgdeoeppaaDoor
open Go.RowKit

/-- The twelve errors' variables hold twelve errors of errors.New's make; package errors' own variable holds its handle. -/
structure Sents (w : World) (a : Nat → Addr) : Prop where
  cell : ∀ k, k < 12 → w.cell? ⟨k, 0, none⟩ = some (.iface 55 (.pointer (some (a k))))
  row : ∀ k, k < 12 → ∃ c t, w.heap[(a k).block]? = some (.cells c t (0, 0))
  ne : ∀ i j, i < 12 → j < 12 → i ≠ j → a i ≠ a j
  handle : w.cell? ⟨12, 0, none⟩ = some (.iface 90 (.agg #[.pointer (some ⟨13, 25, none⟩)]))

theorem Sents.lt {w : World} {a : Nat → Addr} (h : Sents w a) : 12 < w.heap.size := World.block_lt_of_cell? _ _ h.handle
theorem Sents.below {w w' : World} {a : Nat → Addr} (h : Sents w a) (hb : Below w.heap.size w w') : Sents w' a := by
  have hl := h.lt
  refine ⟨fun k hk => (hb.cell (p := ⟨k, 0, none⟩) (by simp; omega)).trans (h.cell k hk), fun k hk => ?_, h.ne, (hb.cell (p := ⟨12, 0, none⟩) hl).trans h.handle⟩
  obtain ⟨c, t, hr⟩ := h.row k hk
  exact ⟨c, t, (hb.block _ (Array.getElem?_eq_some_iff.1 hr).1).trans hr⟩

theorem code_nil (w : World) : Calls Tryd.prog 8 #[.nilIface] w fun r w' => r = .returned (.tuple #[.int .i64 0, .int .i64 (-1)]) ∧ w' = w := by
  go_enter Tryd.func8, Tryd.ntmps8
  go_wp2
  go_ret2
  exact ⟨rfl, rfl⟩

def errList (a : Nat → Addr) : Array Value := #[.iface 55 (.pointer (some (a 0))), .iface 55 (.pointer (some (a 1))), .iface 55 (.pointer (some (a 2))), .iface 55 (.pointer (some (a 3))), .iface 55 (.pointer (some (a 4))), .iface 55 (.pointer (some (a 5))), .iface 55 (.pointer (some (a 6))), .iface 55 (.pointer (some (a 7))), .iface 55 (.pointer (some (a 8))), .iface 55 (.pointer (some (a 9))), .iface 55 (.pointer (some (a 10))), .iface 55 (.pointer (some (a 11)))]

/-- The list that Code ranges over. -/
theorem errList_cell (a : Nat → Addr) (w : World) (j : Nat) (hj : j < 12) : (w.alloc (.cells (errList a) 25)).cell? ⟨w.heap.size, j, none⟩ = some (.iface 55 (.pointer (some (a j)))) := by
  unfold errList
  match j, hj with
  | 0, _ => simp
  | 1, _ => simp
  | 2, _ => simp
  | 3, _ => simp
  | 4, _ => simp
  | 5, _ => simp
  | 6, _ => simp
  | 7, _ => simp
  | 8, _ => simp
  | 9, _ => simp
  | 10, _ => simp
  | 11, _ => simp

set_option maxHeartbeats 2000000 in
set_option maxRecDepth 100000 in
theorem code_sent (k : Nat) (hk : k < 12) (a : Nat → Addr) (w : World) (h : Sents w a) :
    Calls Tryd.prog 8 #[.iface 55 (.pointer (some (a k)))] w fun r w' => r = .returned (.tuple #[.int .i64 ((k : Int) + 1), .int .i64 (-1)]) ∧ Below w.heap.size w w' := by
  have H := hide h
  clear h
  have hb0 : Below w.heap.size w (w.alloc (.cells #[.pointer none] 29)) := (Below.refl _ _).alloc (Nat.le_refl _) _
  have HA := hide (H.out.below hb0)
  have Hb0 := hide hb0
  clear hb0
  go_enter Tryd.func8, Tryd.ntmps8
  go_wp2_with fail
  refine (as_miss (a k) _ _ HA.out.handle).mono ?_
  rintro e w1 ⟨rfl, hb1⟩
  have H1 := hide (HA.out.below hb1)
  have Hb1 := hide (Hb0.out.trans (hb1.mono (by simp)))
  have h0 := H1.out.cell 0 (by omega)
  have h1 := H1.out.cell 1 (by omega)
  have h2 := H1.out.cell 2 (by omega)
  have h3 := H1.out.cell 3 (by omega)
  have h4 := H1.out.cell 4 (by omega)
  have h5 := H1.out.cell 5 (by omega)
  have h6 := H1.out.cell 6 (by omega)
  have h7 := H1.out.cell 7 (by omega)
  have h8 := H1.out.cell 8 (by omega)
  have h9 := H1.out.cell 9 (by omega)
  have h10 := H1.out.cell 10 (by omega)
  have h11 := H1.out.cell 11 (by omega)
  clear hb1 HA Hb0
  go_wp2_with fail
  clear h0 h1 h2 h3 h4 h5 h6 h7 h8 h9 h10 h11
  have hb2 : Below w1.heap.size w1 (w1.alloc (.cells (errList a) 25)) := (Below.refl _ _).alloc (Nat.le_refl _) _
  have h2 := H1.out.below hb2
  have hcl := errList_cell a w1
  have hB2 := Hb1.out.trans (hb2.mono Hb1.out.size)
  unfold errList at h2 hcl hB2
  generalize hw2 : w1.alloc (.cells #[.iface 55 (.pointer (some (a 0))), .iface 55 (.pointer (some (a 1))), .iface 55 (.pointer (some (a 2))), .iface 55 (.pointer (some (a 3))), .iface 55 (.pointer (some (a 4))), .iface 55 (.pointer (some (a 5))), .iface 55 (.pointer (some (a 6))), .iface 55 (.pointer (some (a 7))), .iface 55 (.pointer (some (a 8))), .iface 55 (.pointer (some (a 9))), .iface 55 (.pointer (some (a 10))), .iface 55 (.pointer (some (a 11)))] 25) = w2 at *
  have H2 := hide h2
  have Hcl := hide hcl
  have HB2 := hide hB2
  clear hw2 h2 hcl hB2 hb2 H1 Hb1
  go_loop [3, 30] (fun v3 v30 => ∃ j : Nat, j ≤ k ∧ v3 = .int .i64 (-1) ∧ v30 = .int .i64 j) (fun _ v30 => 12 - (intOf v30).toNat)
  case atStart => exact ⟨0, Nat.zero_le _, rfl, rfl⟩
  case round =>
    obtain ⟨j, hj, rfl, rfl⟩ := hrel
    have hj12 : (j : Int) < 12 := by omega
    have hc := Hcl.out j (by omega)
    by_cases hjk : j = k
    · subst hjk
      go_wp2_with fail
      refine (is_same (a j) _).mono ?_
      rintro e w3 ⟨rfl, rfl⟩
      go_wp2
      go_ret2
      exact ⟨rfl, HB2.out⟩
    · obtain ⟨c1, t1, hr1⟩ := H2.out.row k hk
      obtain ⟨c2, t2, hr2⟩ := H2.out.row j (by omega)
      have hne := H2.out.ne k j hk (by omega) (fun e => hjk e.symm)
      have Hr1 := hide hr1
      have Hr2 := hide hr2
      have Hne := hide hne
      have Hjk := hide hjk
      clear hr1 hr2 hne hjk
      go_wp2_with fail
      refine (is_other (a k) (a j) c1 c2 t1 t2 _ Hne.out Hr1.out Hr2.out).mono ?_
      rintro e w3 ⟨rfl, rfl⟩
      go_wp2
      go_round
      case rel => exact ⟨j + 1, by have := Hjk.out; omega, rfl, by go_num⟩
      case measure => simp [intOf]; omega

set_option maxHeartbeats 400000 in
theorem coded_nil (c : Int) (w : World) : Calls Tryd.prog 9 #[.nilIface, .int .i64 c] w fun r w' => r = .returned (.bool (c == 0)) ∧ w' = w := by
  by_cases hc : c = 0
  · subst hc
    go_enter Tryd.func9, Tryd.ntmps9
    go_wp2_with fail
    refine (code_nil _).mono ?_
    rintro e w1 ⟨rfl, rfl⟩
    go_wp2
    go_ret
    exact ⟨rfl, rfl⟩
  · have hb : ((0 : Int) == c) = false := by simp; omega
    have hb2 : Hid ((c == 0) = false) := by simp [Hid]; omega
    clear hc
    go_enter Tryd.func9, Tryd.ntmps9
    go_wp2_with fail
    refine (code_nil _).mono ?_
    rintro e w1 ⟨rfl, rfl⟩
    go_wp2
    go_ret
    exact ⟨by rw [hb2.out]; rfl, rfl⟩

set_option maxHeartbeats 400000 in
set_option maxRecDepth 100000 in
theorem coded_sent (k : Nat) (hk : k < 12) (a : Nat → Addr) (c : Int) (w : World) (h : Sents w a) :
    Calls Tryd.prog 9 #[.iface 55 (.pointer (some (a k))), .int .i64 c] w fun r w' => r = .returned (.bool (c == (k : Int) + 1)) ∧ Below w.heap.size w w' := by
  have H := hide h
  clear h
  by_cases hc : c = (k : Int) + 1
  · subst hc
    have hb : ((k : Int) + 1 == (k : Int) + 1) = true := by simp
    go_enter Tryd.func9, Tryd.ntmps9
    go_wp2_with fail
    refine (code_sent k hk a _ H.out).mono ?_
    rintro e w1 ⟨rfl, hb1⟩
    have Hb1 := hide hb1
    clear hb1
    go_wp2
    go_ret
    exact ⟨by rw [hb]; rfl, Hb1.out⟩
  · have hb : ((k : Int) + 1 == c) = false := by simp; omega
    have hb2 : Hid ((c == (k : Int) + 1) = false) := by simp [Hid]; omega
    clear hc
    go_enter Tryd.func9, Tryd.ntmps9
    go_wp2_with fail
    refine (code_sent k hk a _ H.out).mono ?_
    rintro e w1 ⟨rfl, hb1⟩
    have Hb1 := hide hb1
    clear hb1
    go_wp2
    go_ret
    exact ⟨by rw [hb2.out]; rfl, Hb1.out⟩
end Go.Proofs.YtgcpljgdeoeppaaDoor
