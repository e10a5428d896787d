/-
  Contract of the document's SameTexts over this dump: any two lists of texts.
-/
import Derived.Test.YtledipmimfphdaaDoorRowVal
import Derived.Deep.QuietTactic
import Derived.BigQuiet
import Derived.WalkSmall
namespace Go.Proofs.YtledipmimfphdaaDoor
open Go.RowKit

theorem bytes_neq {a b : ByteArray} : (a.toList == b.toList) = decide (a = b) := by
  rw [Bool.eq_iff_iff, beq_iff_eq, decide_eq_true_eq]
  exact ⟨fun h => bytes_ext h, fun h => by rw [h]⟩
theorem take_one {α : Type} (l r : List α) (j : Nat) (h1 : j < l.length) (h2 : j < r.length) (h : l.take j = r.take j) (he : l[j] = r[j]) : l.take (j + 1) = r.take (j + 1) := by
  rw [List.take_succ_eq_append_getElem h1, List.take_succ_eq_append_getElem h2, h, he]

set_option maxHeartbeats 1000000 in
set_option maxRecDepth 100000 in
theorem sameTexts_ok (u v : Value) (l m : List ByteArray) (w : World) (hu : Row1 strV w u l) (hv : Row1 strV w v m) (hl : l.length ≤ 1000000) (hm : m.length ≤ 1000000) :
    Calls Tryd.prog 11 #[u, v] w fun r w' => r = .returned (.bool (decide (l = m))) ∧ Below w.heap.size w w' := by
  obtain ⟨la, lc, rfl, hla⟩ := hu
  obtain ⟨ra, rc, rfl, hra⟩ := hv
  have HL := hide hla
  have HR := hide hra
  clear hla hra
  have hl' : (l.length : Int) ≤ 1000000 := by omega
  have hm' : (m.length : Int) ≤ 1000000 := by omega
  by_cases hlen : l.length = m.length
  · have b1 : ((l.length : Int) != (m.length : Int)) = false := by simp [hlen]
    have HLN := hide hlen
    clear hlen
    go_enter Tryd.func11, Tryd.ntmps11
    go_wp2_with fail
    go_loopw [5] (fun t wr => ∃ j : Nat, j ≤ l.length ∧ t = .int .i64 j ∧ Hid (l.take j = m.take j) ∧ Hid (Below w.heap.size w wr)) (fun t _ => l.length - (intOf t).toNat)
    case atStart => exact ⟨0, Nat.zero_le _, rfl, by simp [Hid], Below.refl _ _⟩
    case round =>
      obtain ⟨j, hj, rfl, Ht, Hb⟩ := hrel
      by_cases hlt : j < l.length
      · have hlt2 : j < m.length := by have := HLN.out; omega
        obtain ⟨lb, lo, rfl, hlc⟩ := HL.out (by omega)
        obtain ⟨rb, ro, rfl, hrc⟩ := HR.out (by omega)
        have hlt' : (j : Int) < l.length := by omega
        have hlt2' : (j : Int) < m.length := by omega
        have hc1 := (Hb.out.cell (World.block_lt_of_cell? _ _ (hlc j hlt))).trans (hlc j hlt)
        have hc2 := (Hb.out.cell (World.block_lt_of_cell? _ _ (hrc j hlt2))).trans (hrc j hlt2)
        have hnx := take_one l m j hlt hlt2 Ht.out
        have hdf : l[j] ≠ m[j] → decide (l = m) = false := fun hne => by
          simp only [decide_eq_false_iff_not]
          intro e
          apply hne
          subst e
          rfl
        unfold strV at hc1 hc2
        clear hlc hrc
        generalize l[j] = x at *
        generalize m[j] = y at *
        have Hnx := hide hnx
        have Hdf := hide hdf
        clear hnx hdf
        by_cases hxy : x = y
        · subst hxy
          have hnq : (x.toList == x.toList) = true := by simp
          go_wp2_with fail
          go_quiet (fail)
          go_wp2_with fail
          go_roundw
          case rel => exact ⟨j + 1, by omega, by go_num, Hnx.out trivial, below_drewN Hb.out _⟩
          case measure => simp [intOf]; omega
        · have hnq : (x.toList == y.toList) = false := by rw [bytes_neq]; simp [hxy]
          have Hd := hide (Hdf.out hxy)
          clear hxy
          go_wp2_with fail
          go_quiet (fail)
          go_wp2_with fail
          go_ret
          rw [Hd.out]
          exact ⟨rfl, below_drewN Hb.out _⟩
      · have hlt' : (l.length : Int) ≤ (j : Int) := by omega
        have hd : decide (l = m) = true := by
          have h1 := Ht.out
          have h2 := HLN.out
          rw [List.take_of_length_le (by omega), List.take_of_length_le (by omega)] at h1
          simp [h1]
        have Hd := hide hd
        clear hd
        go_wp2_with fail
        go_ret
        rw [Hd.out]
        exact ⟨rfl, Hb.out⟩
  · have b1 : ((l.length : Int) != (m.length : Int)) = true := by rw [bne_iff_ne]; omega
    have hd : decide (l = m) = false := by
      simp only [decide_eq_false_iff_not]
      intro e
      exact hlen (by rw [e])
    have Hd := hide hd
    clear hd hlen
    go_enter Tryd.func11, Tryd.ntmps11
    go_wp2_with fail
    go_ret
    rw [Hd.out]
    exact ⟨rfl, Below.refl _ _⟩
end Go.Proofs.YtledipmimfphdaaDoor
