/-
  Contracts of weak.Sum over this dump.
-/
import Derived.Test.YtgogjncamjbajacDoorHalvesAdd
import Derived.Deep.RegionWith
namespace Go.Proofs.YtgogjncamjbajacDoor
open Go.RowKit

set_option maxHeartbeats 1000000 in
set_option maxRecDepth 100000 in
theorem wsumOf_ok (s : ByteArray) (w : World) (hs : s.size ≤ 1000000) : Calls Tryd.prog 41 #[.string s] w fun r w' => r = .returned (hv (hA s.data.toList) (hB s.data.toList)) ∧ Below w.heap.size w w' := by
  have hs' : (s.size : Int) ≤ 1000000 := by omega
  go_enter Tryd.func41, Tryd.ntmps41
  go_wp2_with fail
  go_loopw [4] (fun t wr => ∃ i : Nat, t = .int .i64 i ∧ i ≤ s.size ∧ Hid (HvAt (w.heap.size + 1) wr (hA (s.data.toList.take i)) (hB (s.data.toList.take i))) ∧ Hid (HvAt w.heap.size wr 0 0) ∧ Hid (Below w.heap.size w wr)) (fun t _ => s.size - (intOf t).toNat)
  case atStart =>
    refine ⟨0, rfl, by omega, ?_, ?_, ?_⟩
    · have h := HvAt.fresh (w.alloc (.cells #[.int .i64 0, .int .i64 0] 77)) 0 0 77
      rw [show (w.alloc (.cells #[.int .i64 0, .int .i64 0] 77)).heap.size = w.heap.size + 1 by simp] at h
      exact h
    · exact (HvAt.fresh w 0 0 77).below ((Below.refl _ _).alloc (Nat.le_refl _) _) (by simp)
    · exact ((Below.refl _ _).alloc (Nat.le_refl _) _).alloc (by simp) _
  case round =>
    obtain ⟨i, rfl, hi, Hh, Hr, Hb⟩ := hrel
    by_cases hlt : i < s.size
    · have hlt' : (i : Int) < s.size := by omega
      have hx := byte_lt s[i]
      have HC := hide (fun W => hadd_ok (hA (s.data.toList.take i)) (hB (s.data.toList.take i)) s[i].toNat W (hA_nonneg _) (hA_lt _) (hB_nonneg _) (hB_lt _) (by omega) (by omega))
      have ea := hA_snoc (s.data.toList.take i) s[i]
      have eb := hB_snoc (s.data.toList.take i) s[i]
      rw [← takeL s i hlt] at ea eb
      have E := hide (And.intro ea (show (hB (s.data.toList.take i) + (hA (s.data.toList.take i) + s[i].toNat)) % 65536 = hB (s.data.toList.take (i + 1)) by rw [← eb, ← ea]; omega))
      clear ea eb hx
      generalize hA (s.data.toList.take i) = a at *
      generalize hB (s.data.toList.take i) = b at *
      obtain ⟨c0, c1, f0, f1, lt⟩ := Hh.out
      unfold hv at HC
      go_wp2_with fail
      go_region_with (go_at_call 59; refine (HC.out _).mono ?_; rintro e w2 ⟨rfl, hb2⟩; have Hb2 := hide hb2; clear hb2; obtain ⟨k0, k1, g0, g1, klt⟩ := Hh.out.drew.below Hb2.out lt)
      all_goals rw [E.out.1, E.out.2]
      all_goals go_wp2_with fail
      all_goals
        go_roundw
        case rel =>
          refine ⟨i + 1, by go_num, by omega, ?_, ?_, ?_⟩
          · exact (Hh.out.drew.below Hb2.out lt).set _ _
          · exact ((Hr.out.drew.below Hb2.out (Nat.lt_trans (by simp) lt)).below (((Below.refl (w.heap.size + 1) _).setCell (by simp) _).setCell (by simp) _) (by simp))
          · exact ((Hb.out.drew.trans (Hb2.out.mono (Nat.le_trans (by simp) (Nat.le_of_lt lt)))).setCell (by simp) _).setCell (by simp) _
        case measure => simp [intOf]; omega
    · have hle : (s.size : Int) ≤ i := by omega
      obtain rfl : i = s.size := by omega
      rw [← lenL s, List.take_length] at Hh
      obtain ⟨c0, c1, f0, f1, lt⟩ := Hh.out
      obtain ⟨r0, r1, q0, q1, _⟩ := Hr.out
      go_wp2_with fail
      (try simp only [Exit.inBlock, Exit.then])
      refine bodyPost_ret (v := hv (hA s.data.toList) (hB s.data.toList)) ?_ rfl ⟨rfl, (Hb.out.setCell (by simp) _).setCell (by simp) _⟩
      obtain ⟨s0, s1, _, _, _⟩ := Hr.out.set (hA s.data.toList) (hB s.data.toList)
      simp only [results, show Tryd.f41.results = #[.cell 2 77] from rfl]
      go_simp
      rfl

/-- The sum of a text. -/
def wk (l : List UInt8) : Int := hA l + 65536 * hB l

theorem wk_weak (l : List UInt8) : wk l = Go.Weak.weak l := by unfold wk hA hB Go.Weak.weak; omega

theorem wk_bounds (l : List UInt8) : 0 ≤ wk l ∧ wk l < 4294967296 := by
  have := hA_nonneg l; have := hA_lt l; have := hB_nonneg l; have := hB_lt l
  unfold wk; omega

set_option maxHeartbeats 1000000 in
set_option maxRecDepth 100000 in
theorem wSum_ok (s : ByteArray) (w : World) (hs : s.size ≤ 1000000) : Calls Tryd.prog 26 #[.string s] w fun r w' => r = .returned (.int .i64 (wk s.data.toList)) ∧ Below w.heap.size w w' := by
  have H1 := hide (fun W => wsumOf_ok s W hs)
  have H2 := hide (fun W => hwhole_ok (hA s.data.toList) (hB s.data.toList) W (hA_nonneg _) (hA_lt _) (hB_nonneg _) (hB_lt _))
  unfold wk
  unfold hv at H1 H2
  generalize hA s.data.toList = a at *
  generalize hB s.data.toList = b at *
  go_enter Tryd.func26, Tryd.ntmps26
  go_wp2_with fail
  refine (H1.out _).mono ?_
  rintro e w1 ⟨rfl, hb1⟩
  have Hb1 := hide hb1
  clear hb1
  go_wp2_with fail
  refine (H2.out _).mono ?_
  rintro e w2 ⟨rfl, hb2⟩
  have Hb2 := hide (bthen Hb1.out hb2)
  clear hb2 Hb1
  go_wp2_with fail
  go_ret
  exact ⟨rfl, Hb2.out⟩
end Go.Proofs.YtgogjncamjbajacDoor
