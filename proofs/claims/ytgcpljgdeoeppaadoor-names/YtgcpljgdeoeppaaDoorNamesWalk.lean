/-
  The walk of the law Names over the contracts.
-/
import Derived.Test.YtgcpljgdeoeppaaDoorSameInts
import Derived.Test.YtgcpljgdeoeppaaDoorCodeMore
import Derived.Test.YtgcpljgdeoeppaaDoorBackWalk
namespace Go.Proofs.YtgcpljgdeoeppaaDoor
open Go.RowKit

theorem errNew_ok (s : ByteArray) (w : World) : Calls Tryd.prog 10 #[.string s] w fun r w' => r = .returned (.iface 55 (.pointer (some ⟨w.heap.size, 0, none⟩))) ∧ w.alloc (.cells #[.string s] 57) = w' := by
  go_enter Tryd.func10, Tryd.ntmps10
  go_wp2
  go_ret
  exact ⟨rfl, rfl⟩

def bounds : List Int := [1099511627776, 4000, 64, 12, 20, 20000, 65536, 32, 2147483648, 64, 20, 1048576, 2000, 80, 16]
theorem bounds_cell (w : World) (j : Nat) (hj : j < bounds.length) : (w.alloc (.cells (bounds.map (Value.int .i64)).toArray 3)).cell? ⟨w.heap.size, 0 + j, none⟩ = some (.int .i64 bounds[j]) := by
  have hj' : j < 15 := hj
  match j, hj' with
  | 0, _ => simp [bounds]
  | 1, _ => simp [bounds]
  | 2, _ => simp [bounds]
  | 3, _ => simp [bounds]
  | 4, _ => simp [bounds]
  | 5, _ => simp [bounds]
  | 6, _ => simp [bounds]
  | 7, _ => simp [bounds]
  | 8, _ => simp [bounds]
  | 9, _ => simp [bounds]
  | 10, _ => simp [bounds]
  | 11, _ => simp [bounds]
  | 12, _ => simp [bounds]
  | 13, _ => simp [bounds]
  | 14, _ => simp [bounds]

theorem same_bounds (p q : Nat) (W : World) (h1 : ∀ j (h : j < bounds.length), W.cell? ⟨p, 0 + j, none⟩ = some (.int .i64 bounds[j])) (h2 : ∀ j (h : j < bounds.length), W.cell? ⟨q, 0 + j, none⟩ = some (.int .i64 bounds[j])) :
    Calls Tryd.prog 7 #[.slice (some ⟨p, 0, none⟩) 15 15, .slice (some ⟨q, 0, none⟩) 15 15] W fun r w' => r = .returned (.bool true) ∧ Below W.heap.size W w' := by
  have := sameInts_ok (some ⟨p, 0, none⟩) p 0 15 bounds (some ⟨q, 0, none⟩) q 0 15 bounds W (fun _ => rfl) (fun _ => rfl) h1 h2 (by decide) (by decide)
  rw [show bounds.length = 15 from rfl, show decide (bounds = bounds) = true by simp] at this
  exact this

set_option maxHeartbeats 2000000 in
set_option maxRecDepth 100000 in
theorem names_ok (a : Nat → Addr) (w : World) (h : Sents w a) : Calls Tryd.prog 3 #[] w fun r w' => r = .returned (.bool true) ∧ Below w.heap.size w w' := by
  have H := hide h
  clear h
  have hc1 : ∀ j (h : j < bounds.length), ((w.alloc (.cells (bounds.map (Value.int .i64)).toArray 3)).alloc (.cells (bounds.map (Value.int .i64)).toArray 3)).cell? ⟨w.heap.size, 0 + j, none⟩ = some (.int .i64 bounds[j]) := fun j hj => by
    rw [World.cell?_alloc_lt _ _ ⟨w.heap.size, 0 + j, none⟩ (by simp)]; exact bounds_cell w j hj
  have hc2 : ∀ j (h : j < bounds.length), ((w.alloc (.cells (bounds.map (Value.int .i64)).toArray 3)).alloc (.cells (bounds.map (Value.int .i64)).toArray 3)).cell? ⟨w.heap.size + 1, 0 + j, none⟩ = some (.int .i64 bounds[j]) := fun j hj => by
    have := bounds_cell (w.alloc (.cells (bounds.map (Value.int .i64)).toArray 3)) j hj
    rw [World.size_alloc] at this
    exact this
  have hb0 : Below w.heap.size w ((w.alloc (.cells (bounds.map (Value.int .i64)).toArray 3)).alloc (.cells (bounds.map (Value.int .i64)).toArray 3)) := ((Below.refl _ _).alloc (Nat.le_refl _) _).alloc (by simp) _
  have H0 := hide (H.out.below hb0)
  have Hsb := hide (same_bounds _ _ _ hc1 hc2)
  have Hb0 := hide hb0
  clear hc1 hc2 hb0 H
  go_enter Tryd.func3, Tryd.ntmps3
  go_wp2_with fail
  refine Hsb.out.mono ?_
  rintro e w1 ⟨rfl, hb1⟩
  have H1 := hide (H0.out.below hb1)
  have Hb1 := hide (bthen Hb0.out hb1)
  clear hb1 H0 Hb0 Hsb
  have h0 := H1.out.cell 0 (by omega)
  have h1 := H1.out.cell 1 (by omega)
  have h2 := H1.out.cell 2 (by omega)
  have h3 := H1.out.cell 3 (by omega)
  have h4 := H1.out.cell 4 (by omega)
  have h5 := H1.out.cell 5 (by omega)
  have h6 := H1.out.cell 6 (by omega)
  have h7 := H1.out.cell 7 (by omega)
  have h8 := H1.out.cell 8 (by omega)
  have h9 := H1.out.cell 9 (by omega)
  have h10 := H1.out.cell 10 (by omega)
  have h11 := H1.out.cell 11 (by omega)
  go_wp2_with fail
  clear h0 h1 h2 h3 h4 h5 h6 h7 h8 h9 h10 h11
  have hb2 : Below w1.heap.size w1 (w1.alloc (.cells (errList a) 25)) := (Below.refl _ _).alloc (Nat.le_refl _) _
  have h2 := H1.out.below hb2
  have hcl := errList_cell a w1
  have hB2 := bthen Hb1.out hb2
  unfold errList at h2 hcl hB2
  generalize hw2 : w1.alloc (.cells #[.iface 55 (.pointer (some (a 0))), .iface 55 (.pointer (some (a 1))), .iface 55 (.pointer (some (a 2))), .iface 55 (.pointer (some (a 3))), .iface 55 (.pointer (some (a 4))), .iface 55 (.pointer (some (a 5))), .iface 55 (.pointer (some (a 6))), .iface 55 (.pointer (some (a 7))), .iface 55 (.pointer (some (a 8))), .iface 55 (.pointer (some (a 9))), .iface 55 (.pointer (some (a 10))), .iface 55 (.pointer (some (a 11)))] 25) = w2 at *
  generalize w1.heap.size = eb at *
  have H2 := hide h2
  have Hcl := hide hcl
  have HB2 := hide hB2
  clear hw2 h2 hcl hB2 hb2 H1 Hb1
  go_loopw [4] (fun t wr => ∃ j : Nat, j ≤ 12 ∧ t = .int .i64 j ∧ Hid (Sents wr a) ∧ Hid (Below w2.heap.size w2 wr)) (fun t _ => 12 - (intOf t).toNat)
  case atStart => exact ⟨0, Nat.zero_le _, rfl, H2.out, Below.refl _ _⟩
  case round =>
    obtain ⟨j, hj, rfl, HS, Hb⟩ := hrel
    by_cases hlt : j < 12
    · have hlt' : (j : Int) < 12 := by omega
      have hc0 := Hcl.out j hlt
      have hcj : wr.cell? ⟨eb, j, none⟩ = some (.iface 55 (.pointer (some (a j)))) := (Hb.out.cell (p := ⟨eb, j, none⟩) (World.block_lt_of_cell? _ _ hc0)).trans hc0
      clear hc0
      have hbA : Below wr.heap.size wr (wr.alloc (.cells #[.int .i64 7, .iface 55 (.pointer (some (a j)))] 31)) := (Below.refl _ _).alloc (Nat.le_refl _) _
      have HSA := hide (HS.out.below hbA)
      have HbA := hide (bthen Hb.out hbA)
      have HcA := hide ((hbA.cell (p := ⟨eb, j, none⟩) (World.block_lt_of_cell? _ _ hcj)).trans hcj)
      clear hbA
      go_wp2_with fail
      refine (code_fault j hlt 7 wr.heap.size a _ HSA.out (by simp) (by simp)).mono ?_
      rintro e w3 ⟨rfl, hb3⟩
      have H3 := hide (HSA.out.below hb3)
      have Hb3 := hide (bthen HbA.out hb3)
      have hc3 := (hb3.cell (p := ⟨eb, j, none⟩) (World.block_lt_of_cell? _ _ HcA.out)).trans HcA.out
      clear hb3 HSA HbA HcA hcj HS Hb
      go_wp2_with fail
      refine (coded_sent j hlt a _ _ H3.out).mono ?_
      rintro e w4 ⟨rfl, hb4⟩
      have H4 := hide (H3.out.below hb4)
      have Hb4 := hide (bthen Hb3.out hb4)
      clear hb4 H3 Hb3 hc3
      rw [show ((j : Int) + 1 == (j : Int) + 1) = true by simp]
      have hnq : ((j : Int) + 1 != (j : Int) + 1) = false := by simp
      go_wp2_with fail
      go_roundw
      case rel => exact ⟨j + 1, by omega, by go_num, H4.out, Hb4.out⟩
      case measure => simp [intOf]; omega
    · have hlt' : (12 : Int) ≤ (j : Int) := by omega
      go_wp2_with fail
      refine (errNew_ok _ _).mono ?_
      rintro e w5 ⟨rfl, h5⟩
      have hbN : Below wr.heap.size wr (wr.alloc (.cells #[.string ⟨#[97, 110, 111, 116, 104, 101, 114, 32, 111, 110, 101]⟩] 57)) := (Below.refl _ _).alloc (Nat.le_refl _) _
      have hrow : (wr.alloc (.cells #[.string ⟨#[97, 110, 111, 116, 104, 101, 114, 32, 111, 110, 101]⟩] 57)).heap[wr.heap.size]? = some (.cells #[.string ⟨#[97, 110, 111, 116, 104, 101, 114, 32, 111, 110, 101]⟩] 57 (0, 0)) := heap_alloc_new wr _
      rw [h5] at hbN hrow
      have hne : ∀ k, k < 12 → (⟨wr.heap.size, 0, none⟩ : Addr) ≠ a k := fun k hk e => by
        obtain ⟨c, t, hr⟩ := HS.out.row k hk
        have := (Array.getElem?_eq_some_iff.1 hr).1
        rw [← e] at this
        simp at this
      have H5 := hide (HS.out.below hbN)
      have Hb5 := hide (bthen Hb.out hbN)
      have Hrow := hide hrow
      have Hne := hide hne
      clear hbN hrow hne h5 HS Hb
      go_wp2_with fail
      refine (code_other _ a _ _ _ H5.out Hrow.out Hne.out).mono ?_
      rintro e w6 ⟨rfl, hb6⟩
      have Hb6 := hide (bthen Hb5.out hb6)
      clear hb6
      go_wp2_with fail
      refine (coded_nil _ _).mono ?_
      rintro e w7 ⟨rfl, rfl⟩
      rw [show ((0 : Int) == 0) = true from rfl]
      go_wp2_with fail
      go_ret
      exact ⟨rfl, bthen HB2.out Hb6.out⟩
end Go.Proofs.YtgcpljgdeoeppaaDoor
