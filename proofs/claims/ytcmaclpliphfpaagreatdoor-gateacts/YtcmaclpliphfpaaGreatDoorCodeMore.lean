/-
  Contracts of plain.Code at an *api.Fault and at an error of another make, over this dump.
-/
import Derived.Test.YtcmaclpliphfpaaGreatDoorErrAs
namespace Go.Proofs.YtcmaclpliphfpaaGreatDoor
open Go.RowKit

set_option maxHeartbeats 2000000 in
set_option maxRecDepth 100000 in
/-- An error of errors.New's make that is none of the twelve. -/
theorem code_other (x : Addr) (a : Nat → Addr) (cx : Array Value) (tx : TypeId) (w : World) (h : Sents w a) (hx : w.heap[x.block]? = some (.cells cx tx (0, 0))) (hne : ∀ k, k < 12 → x ≠ a k) :
    Calls Tryz.prog 21 #[.iface 177 (.pointer (some x))] w fun r w' => r = .returned (.tuple #[.int .i64 (-1), .int .i64 (-1)]) ∧ Below w.heap.size w w' := by
  have H := hide h
  have HNE := hide hne
  clear h hne
  have hxl : x.block < w.heap.size := (Array.getElem?_eq_some_iff.1 hx).1
  have hb0 : Below w.heap.size w (w.alloc (.cells #[.pointer none] 65)) := (Below.refl _ _).alloc (Nat.le_refl _) _
  have HA := hide (H.out.below hb0)
  have Hb0 := hide hb0
  have HX := hide hx
  clear hb0 hx
  go_enter Tryz.func21, Tryz.ntmps21
  go_wp2_with fail
  refine (as_miss x _ _ HA.out.handle).mono ?_
  rintro e w1 ⟨rfl, hb1⟩
  have H1 := hide (HA.out.below hb1)
  have Hb1 := hide (Hb0.out.trans (hb1.mono (by simp)))
  have h0 := H1.out.c0
  have h1 := H1.out.c1
  have h2 := H1.out.c2
  have h3 := H1.out.c3
  have h4 := H1.out.c4
  have h5 := H1.out.c5
  have h6 := H1.out.c6
  have h7 := H1.out.c7
  have h8 := H1.out.c8
  have h9 := H1.out.c9
  have h10 := H1.out.c10
  have h11 := H1.out.c11
  clear hb1 HA Hb0
  go_wp2_with fail
  clear h0 h1 h2 h3 h4 h5 h6 h7 h8 h9 h10 h11
  have hb2 : Below w1.heap.size w1 (w1.alloc (.cells (errList a) 28)) := (Below.refl _ _).alloc (Nat.le_refl _) _
  have h2 := H1.out.below hb2
  have hcl := errList_cell a w1
  have hB2 := Hb1.out.trans (hb2.mono Hb1.out.size)
  unfold errList at h2 hcl hB2
  generalize hw2 : w1.alloc (.cells #[.iface 177 (.pointer (some (a 0))), .iface 177 (.pointer (some (a 1))), .iface 177 (.pointer (some (a 2))), .iface 177 (.pointer (some (a 3))), .iface 177 (.pointer (some (a 4))), .iface 177 (.pointer (some (a 5))), .iface 177 (.pointer (some (a 6))), .iface 177 (.pointer (some (a 7))), .iface 177 (.pointer (some (a 8))), .iface 177 (.pointer (some (a 9))), .iface 177 (.pointer (some (a 10))), .iface 177 (.pointer (some (a 11)))] 28) = w2 at *
  have H2 := hide h2
  have Hcl := hide hcl
  have HB2 := hide hB2
  clear hw2 h2 hcl hB2 hb2 H1 Hb1
  have HX2 := hide ((HB2.out.block _ hxl).trans HX.out)
  go_loop [3, 30] (fun v3 v30 => ∃ j : Nat, j ≤ 12 ∧ v3 = .int .i64 (-1) ∧ v30 = .int .i64 j) (fun _ v30 => 12 - (intOf v30).toNat)
  case atStart => exact ⟨0, Nat.zero_le _, rfl, rfl⟩
  case round =>
    obtain ⟨j, hj, rfl, rfl⟩ := hrel
    by_cases hjk : j < 12
    · have hj12 : (j : Int) < 12 := by omega
      have hc := Hcl.out j hjk
      obtain ⟨c2, t2, hr2⟩ := H2.out.row j hjk
      have hne := HNE.out j hjk
      have Hr2 := hide hr2
      have Hne := hide hne
      clear hr2 hne
      go_wp2_with fail
      refine (is_other x (a j) cx c2 tx t2 _ Hne.out HX2.out Hr2.out).mono ?_
      rintro e w3 ⟨rfl, rfl⟩
      go_wp2
      go_round
      case rel => exact ⟨j + 1, by omega, rfl, by go_num⟩
      case measure => simp [intOf]; omega
    · have hj12 : (12 : Int) ≤ (j : Int) := by omega
      go_wp2_with fail
      go_ret2
      exact ⟨rfl, HB2.out⟩

set_option maxHeartbeats 2000000 in
set_option maxRecDepth 100000 in
/-- A Fault with its place, which wraps one of the twelve. -/
theorem code_fault (k : Nat) (hk : k < 12) (pl : Int) (pb : Nat) (a : Nat → Addr) (w : World) (h : Sents w a) (hf0 : w.cell? ⟨pb, 0, none⟩ = some (.int .i64 pl)) (hf1 : w.cell? ⟨pb, 1, none⟩ = some (.iface 177 (.pointer (some (a k))))) :
    Calls Tryz.prog 21 #[.iface 65 (.pointer (some ⟨pb, 0, none⟩))] w fun r w' => r = .returned (.tuple #[.int .i64 ((k : Int) + 1), .int .i64 pl]) ∧ Below w.heap.size w w' := by
  have H := hide h
  clear h
  have hpl : pb < w.heap.size := World.block_lt_of_cell? _ _ hf0
  have hb0 : Below w.heap.size w (w.alloc (.cells #[.pointer none] 65)) := (Below.refl _ _).alloc (Nat.le_refl _) _
  have HA := hide (H.out.below hb0)
  have Hb0 := hide hb0
  have HF0 := hide hf0
  have HF1 := hide hf1
  clear hb0 hf0 hf1
  go_enter Tryz.func21, Tryz.ntmps21
  go_wp2_with fail
  refine (as_hit ⟨pb, 0, none⟩ w.heap.size _ (by simp) HA.out.handle (by simp) (by simp)).mono ?_
  rintro e w1 ⟨rfl, hb1, hcell, hoth⟩
  have hb01 : Below w.heap.size w w1 := Hb0.out.trans hb1
  have H1 := hide (H.out.below hb01)
  have Hb1 := hide hb01
  have hg0 := (hb01.cell (p := ⟨pb, 0, none⟩) hpl).trans HF0.out
  have hg1 := (hb01.cell (p := ⟨pb, 1, none⟩) hpl).trans HF1.out
  have h0 := H1.out.c0
  have h1 := H1.out.c1
  have h2 := H1.out.c2
  have h3 := H1.out.c3
  have h4 := H1.out.c4
  have h5 := H1.out.c5
  have h6 := H1.out.c6
  have h7 := H1.out.c7
  have h8 := H1.out.c8
  have h9 := H1.out.c9
  have h10 := H1.out.c10
  have h11 := H1.out.c11
  clear hb1 HA Hb0 hb01 hoth
  go_wp2_with fail
  clear h0 h1 h2 h3 h4 h5 h6 h7 h8 h9 h10 h11
  have hb2 : Below w1.heap.size w1 (w1.alloc (.cells (errList a) 28)) := (Below.refl _ _).alloc (Nat.le_refl _) _
  have h2 := H1.out.below hb2
  have hcl := errList_cell a w1
  have hB2 := Hb1.out.trans (hb2.mono Hb1.out.size)
  have hg2 := (hb2.cell (p := ⟨pb, 1, none⟩) (World.block_lt_of_cell? _ _ hg1)).trans hg1
  unfold errList at h2 hcl hB2 hg2
  generalize hw2 : w1.alloc (.cells #[.iface 177 (.pointer (some (a 0))), .iface 177 (.pointer (some (a 1))), .iface 177 (.pointer (some (a 2))), .iface 177 (.pointer (some (a 3))), .iface 177 (.pointer (some (a 4))), .iface 177 (.pointer (some (a 5))), .iface 177 (.pointer (some (a 6))), .iface 177 (.pointer (some (a 7))), .iface 177 (.pointer (some (a 8))), .iface 177 (.pointer (some (a 9))), .iface 177 (.pointer (some (a 10))), .iface 177 (.pointer (some (a 11)))] 28) = w2 at *
  have H2 := hide h2
  have Hcl := hide hcl
  have HB2 := hide hB2
  have HG2 := hide hg2
  clear hw2 h2 hcl hB2 hb2 H1 Hb1 hg2 hg0 hg1 hcell
  go_loop [3, 30] (fun v3 v30 => ∃ j : Nat, j ≤ k ∧ v3 = .int .i64 pl ∧ v30 = .int .i64 j) (fun _ v30 => 12 - (intOf v30).toNat)
  case atStart => exact ⟨0, Nat.zero_le _, rfl, rfl⟩
  case round =>
    obtain ⟨j, hj, rfl, rfl⟩ := hrel
    have hj12 : (j : Int) < 12 := by omega
    have hc := Hcl.out j (by omega)
    by_cases hjk : j = k
    · subst hjk
      go_wp2_with fail
      refine (is_wrap_same pb (a j) _ HG2.out).mono ?_
      rintro e w3 ⟨rfl, rfl⟩
      go_wp2
      go_ret2
      exact ⟨rfl, HB2.out⟩
    · obtain ⟨c1, t1, hr1⟩ := H2.out.row k hk
      obtain ⟨c2, t2, hr2⟩ := H2.out.row j (by omega)
      have hne := H2.out.ne k j hk (by omega) (fun e => hjk e.symm)
      have Hr1 := hide hr1
      have Hr2 := hide hr2
      have Hne := hide hne
      have Hjk := hide hjk
      clear hr1 hr2 hne hjk
      go_wp2_with fail
      refine (is_wrap_other pb (a k) (a j) c1 c2 t1 t2 _ HG2.out Hne.out Hr1.out Hr2.out).mono ?_
      rintro e w3 ⟨rfl, rfl⟩
      go_wp2
      go_round
      case rel => exact ⟨j + 1, by have := Hjk.out; omega, rfl, by go_num⟩
      case measure => simp [intOf]; omega
end Go.Proofs.YtcmaclpliphfpaaGreatDoor
