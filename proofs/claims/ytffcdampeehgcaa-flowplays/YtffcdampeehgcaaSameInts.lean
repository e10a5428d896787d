/-
  Contract of the document's SameInts over this dump: any two lists of numbers.
-/
import Derived.Test.YtffcdampeehgcaaBase
import Derived.Deep.QuietTactic
import Derived.BigQuiet
namespace Go.Proofs.Ytffcdampeehgcaa
open Go.RowKit

theorem take_eq_succ {α : Type} (l r : List α) (j : Nat) (h1 : j < l.length) (h2 : j < r.length) (h : l.take j = r.take j) (he : l[j] = r[j]) : l.take (j + 1) = r.take (j + 1) := by
  rw [List.take_succ_eq_append_getElem h1, List.take_succ_eq_append_getElem h2, h, he]

set_option maxHeartbeats 1000000 in
set_option maxRecDepth 100000 in
theorem sameInts_ok (la : Option Addr) (lb lo lc : Nat) (zs : List Int) (ra : Option Addr) (rb ro rc : Nat) (ys : List Int) (w : World)
    (hla : 0 < zs.length → la = some ⟨lb, lo, none⟩) (hra : 0 < ys.length → ra = some ⟨rb, ro, none⟩)
    (hlc : ∀ j (h : j < zs.length), w.cell? ⟨lb, lo + j, none⟩ = some (.int .i64 zs[j])) (hrc : ∀ j (h : j < ys.length), w.cell? ⟨rb, ro + j, none⟩ = some (.int .i64 ys[j]))
    (hl : zs.length ≤ 1000000) (hr : ys.length ≤ 1000000) :
    Calls Try.prog 14 #[.slice la zs.length lc, .slice ra ys.length rc] w fun r w' => r = .returned (.bool (decide (zs = ys))) ∧ Below w.heap.size w w' := by
  have HL := hide hlc
  have HR := hide hrc
  clear hlc hrc
  have hl' : (zs.length : Int) ≤ 1000000 := by omega
  have hr' : (ys.length : Int) ≤ 1000000 := by omega
  by_cases hlen : zs.length = ys.length
  · have b1 : ((zs.length : Int) != (ys.length : Int)) = false := by simp [hlen]
    have HLN := hide hlen
    clear hlen
    go_enter Try.func14, Try.ntmps14
    go_wp2_with fail
    go_loopw [5] (fun t wr => ∃ j : Nat, j ≤ zs.length ∧ t = .int .i64 j ∧ Hid (zs.take j = ys.take j) ∧ Hid (Below w.heap.size w wr)) (fun t _ => zs.length - (intOf t).toNat)
    case atStart => exact ⟨0, Nat.zero_le _, rfl, by simp [Hid], Below.refl _ _⟩
    case round =>
      obtain ⟨j, hj, rfl, Ht, Hb⟩ := hrel
      by_cases hlt : j < zs.length
      · have hlt2 : j < ys.length := by have := HLN.out; omega
        obtain rfl := hla (by omega)
        obtain rfl := hra (by omega)
        have hlt' : (j : Int) < zs.length := by omega
        have hlt2' : (j : Int) < ys.length := by omega
        have hc1 : wr.cell? ⟨lb, lo + j, none⟩ = some (.int .i64 zs[j]) := (Hb.out.cell (p := ⟨lb, lo + j, none⟩) (World.block_lt_of_cell? _ _ (HL.out j hlt))).trans (HL.out j hlt)
        have hc2 : wr.cell? ⟨rb, ro + j, none⟩ = some (.int .i64 ys[j]) := (Hb.out.cell (p := ⟨rb, ro + j, none⟩) (World.block_lt_of_cell? _ _ (HR.out j hlt2))).trans (HR.out j hlt2)
        have hnx := take_eq_succ zs ys j hlt hlt2 Ht.out
        have hdf : zs[j] ≠ ys[j] → decide (zs = ys) = false := fun hne => by
          simp only [decide_eq_false_iff_not]
          intro e
          apply hne
          subst e
          rfl
        generalize zs[j] = x at *
        generalize ys[j] = y at *
        have Hnx := hide hnx
        have Hdf := hide hdf
        clear hnx hdf
        by_cases hxy : x = y
        · subst hxy
          have hnq : (x != x) = false := by simp
          go_wp2_with fail
          go_quiet (fail)
          go_wp2_with fail
          go_roundw
          case rel => exact ⟨j + 1, by omega, by go_num, Hnx.out trivial, Hb.out.trans ⟨rfl, rfl, rfl, Nat.le_refl _, fun _ _ => rfl⟩⟩
          case measure => simp [intOf]; omega
        · have hnq : (x != y) = true := by simp [hxy]
          have Hd := hide (Hdf.out hxy)
          clear hxy
          go_wp2_with fail
          go_quiet (fail)
          go_wp2_with fail
          go_ret
          rw [Hd.out]
          exact ⟨rfl, Hb.out.trans ⟨rfl, rfl, rfl, Nat.le_refl _, fun _ _ => rfl⟩⟩
      · have hlt' : (zs.length : Int) ≤ (j : Int) := by omega
        have hd : decide (zs = ys) = true := by
          have h1 := Ht.out
          have h2 := HLN.out
          rw [List.take_of_length_le (by omega), List.take_of_length_le (by omega)] at h1
          simp [h1]
        have Hd := hide hd
        clear hd
        go_wp2_with fail
        go_ret
        rw [Hd.out]
        exact ⟨rfl, Hb.out⟩
  · have b1 : ((zs.length : Int) != (ys.length : Int)) = true := by rw [bne_iff_ne]; omega
    have hd : decide (zs = ys) = false := by
      simp only [decide_eq_false_iff_not]
      intro e
      exact hlen (by rw [e])
    have Hd := hide hd
    clear hd hlen
    go_enter Try.func14, Try.ntmps14
    go_wp2_with fail
    go_ret
    rw [Hd.out]
    exact ⟨rfl, Below.refl _ _⟩
end Go.Proofs.Ytffcdampeehgcaa
