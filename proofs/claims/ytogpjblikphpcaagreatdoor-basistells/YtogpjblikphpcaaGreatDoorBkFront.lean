/-
  A front: how much of a text was gone through, and the sum of that; contract of its upTo.
-/
import Derived.Test.YtogpjblikphpcaaGreatDoorFarMath
import Derived.Test.YtogpjblikphpcaaGreatDoorMore
import Derived.Test.YtogpjblikphpcaaGreatDoorSep
import Derived.Deep.DeepCutAuto
import Derived.Deep.RegionHeld3
namespace Go.Proofs.YtogpjblikphpcaaGreatDoor
open Go.RowKit
open Go.Basis

/-- A front's cells at a block. -/
def Fr3 (p : Nat) (data : ByteArray) (n : Nat) : Fam := CellsF p 113 [.string data, .int .i64 n, .int .u32 (sumTo data n)]
theorem sumTo_lt (data : ByteArray) (n : Nat) : ∃ c : Nat, sumTo data n = c ∧ c < 4294967296 := ⟨_, rfl, Go.Crc.crc_lt _ _ (by decide)⟩
theorem sumTo_zero (data : ByteArray) : sumTo data 0 = 0 := by unfold sumTo; rw [List.take_zero, Go.Crc.crc_nil]; rfl

set_option maxHeartbeats 2000000 in
set_option maxRecDepth 100000 in
theorem upTo_ok (p : Nat) (data : ByteArray) (i j : Nat) (W : World) (hij : i ≤ j) (hj : j ≤ data.size) (hd : data.size ≤ 1000000) :
    Tri Tryz.prog 57 #[.pointer (some ⟨p, 0, none⟩), .int .i64 j] [Fr3 p data i] (fun e L => e = .returned (.int .u32 (sumTo data j)) ∧ L = [Fr3 p data j]) W := by
  intro M hM
  have hS : Sep M W (CellsF p 113 [.string data, .int .i64 i, .int .u32 (sumTo data i)] :: []) W := Sep.of_star hM
  have hsum : ∀ W', Calls Tryz.prog 78 #[.int .u32 (sumTo data i), .string (data.extract i j)] W' fun r w' => r = .returned (.int .u32 (sumTo data j)) ∧ w' = W' := fun W' => by
    obtain ⟨c, hc, hlt⟩ := sumTo_lt data i
    rw [hc]
    have h := more_ok c (data.extract i j) W' hlt (by rw [← lenL, extractL, List.length_take]; omega)
    have e : (Go.Crc.crc c (data.extract i j).data.toList : Nat) = Go.Crc.crc 0 (data.data.toList.take j) := by
      rw [← sum_on hij]
      have hc' : c = Go.Crc.crc 0 (data.data.toList.take i) := by
        unfold sumTo at hc
        omega
      rw [hc', extractL, List.drop_take]
    rw [e] at h
    exact h
  have HSum := hide hsum
  have hS2 := (hS.set 2 (.int .u32 (sumTo data j))).set 1 (.int .i64 j)
  simp only [List.set_cons_zero, List.set_cons_succ] at hS2
  have HS : Hid (Sep M W [Fr3 p data j] ((W.setCell ⟨p, 2, none⟩ (.int .u32 (sumTo data j))).setCell ⟨p, 1, none⟩ (.int .i64 j))) := hS2
  have e2 := (hS2.cell 2).1
  simp only [List.getElem?_cons_zero, List.getElem?_cons_succ] at e2
  have E2 := hide e2
  clear e2
  obtain ⟨⟨c0, f0⟩, ⟨c1, f1⟩, ⟨c2, f2⟩⟩ : (W.cell? ⟨p, 0, none⟩ = some (.string data) ∧ W.frozen? ⟨p, 0, none⟩ = false) ∧ (W.cell? ⟨p, 1, none⟩ = some (.int .i64 i) ∧ W.frozen? ⟨p, 1, none⟩ = false) ∧ (W.cell? ⟨p, 2, none⟩ = some (.int .u32 (sumTo data i)) ∧ W.frozen? ⟨p, 2, none⟩ = false) := ⟨hS.cell 0, hS.cell 1, hS.cell 2⟩
  generalize sumTo data i = ci at *
  generalize sumTo data j = cj at *
  have hi0 : (0 : Int) ≤ i := by omega
  have hij' : (i : Int) ≤ j := by omega
  have hj' : (j : Int) ≤ data.size := by omega
  have hd' : (data.size : Int) ≤ 1000000 := by omega
  clear hsum hS hS2 hM
  go_enter Tryz.func57, Tryz.ntmps57
  go_upto_region 1 with fail
  go_region_with (first | (go_at_call 78; refine (HSum.out _).mono ?_; rintro r w9 ⟨rfl, rfl⟩))
  all_goals
    have e2 := E2.out
    go_wp2_with fail
    go_ret
    exact ⟨_, ⟨rfl, rfl⟩, HS.out.drew⟩
end Go.Proofs.YtogpjblikphpcaaGreatDoor
