/-
  WeakSlides, walked: sums that slide over a text are those of its parts; of equal parts they are equal.
-/
import Derived.Test.YtbfgjehkjmmceabWeakAll
import Derived.Deep.QuietTactic
import Derived.BigQuiet
import Derived.Deep.DeepCutAuto
namespace Go.Proofs.Ytbfgjehkjmmceab
open Go.RowKit

set_option maxHeartbeats 4000000 in
set_option maxRecDepth 100000 in
theorem slides_main (s : ByteArray) (m : Nat) (w : World) (hs : s.size ≤ 200) (m0 : 1 ≤ m) (m1 : m ≤ s.size) : Calls Try.prog 3 #[.string s, .int .i64 m] w fun r w' => r = .returned (.bool true) ∧ Below w.heap.size w w' := by
  have hs' : (s.size : Int) ≤ 200 := by omega
  have m0' : (1 : Int) ≤ m := by omega
  have m1' : (m : Int) ≤ s.size := by omega
  have HW := hide weighed_ok
  have HA := hide (fun W => all_ok s m W (by omega) (by omega) (by omega) (by omega))
  go_enter Try.func3, Try.ntmps3
  go_wp2_with fail
  refine (HW.out _).mono ?_
  rintro e w1 ⟨rfl, hb1⟩
  have Hb1 := hide hb1
  clear hb1
  go_wp2_with fail
  refine (HA.out _).mono ?_
  rintro e w5 ⟨v, rfl, hown, hb5⟩
  have Hb5 := hide (bthen Hb1.out hb5)
  clear hb5 Hb1 HW HA
  obtain ⟨g, c, rfl⟩ := own_form hown
  have HC : Hid (∀ j, j < s.size - m + 1 → w5.cell? ⟨g, j, none⟩ = some (.int .i64 (wk (Go.Weak.part s.data.toList j m)))) := fun j hj => sums_cell hown j hj
  have hK : s.size - m + 1 ≤ 200 := by omega
  have hK' : ((s.size - m + 1 : Nat) : Int) = (s.size : Int) - m + 1 := by omega
  clear hown
  generalize hKe : s.size - m + 1 = K at *
  have HKe := hide hKe
  clear hKe
  have hKi : (K : Int) ≤ 200 := by omega
  have hKm : (K : Int) + m = (s.size : Int) + 1 := by omega
  go_wp2_with fail
  go_loopw [7] (fun t wr => ∃ i : Nat, t = .int .i64 i ∧ i ≤ K ∧ Hid (Below w5.heap.size w5 wr)) (fun t _ => K - (intOf t).toNat)
  case atStart => exact ⟨0, rfl, by omega, Below.refl _ _⟩
  case round =>
    obtain ⟨i, rfl, hi, Hbr⟩ := hrel
    have HKm := hide hKm
    clear hK' hKm
    have hKm := HKm.out
    by_cases hlt : i < K
    · have hlt' : (i : Int) < K := by omega
      have him' : (i : Int) + m ≤ s.size := by omega
      clear hKm
      have him : i + m ≤ s.size := by omega
      have hii : i ≤ i + m := by omega
      have hi0 : (0 : Int) ≤ (i : Int) := by omega
      have hii' : (i : Int) ≤ (i : Int) + (m : Int) := by omega
      have hc := HC.out i hlt
      have hcr : wr.cell? ⟨g, i, none⟩ = some (.int .i64 (wk (Go.Weak.part s.data.toList i m))) := (Hbr.out.cell (p := ⟨g, i, none⟩) (World.block_lt_of_cell? _ _ hc)).trans hc
      have HS := hide (fun W => sum_ok (s.extract i (i + m)) W (by rw [ByteArray.size_extract]; omega))
      rw [extractL, show i + m - i = m by omega] at HS
      obtain ⟨q0, q1⟩ := wk_bounds (Go.Weak.part s.data.toList i m)
      have HV := hide (show wk ((s.data.toList.drop i).take m) = wk (Go.Weak.part s.data.toList i m) from rfl)
      rw [HV.out] at HS
      clear hc HV
      generalize hvi : wk (Go.Weak.part s.data.toList i m) = vi at *
      have Hvi := hide hvi
      clear hvi
      have hw1 : IntKind.i64.wrap ((i : Int) + (m : Int)) = (i : Int) + (m : Int) := iwrap_id _ (by omega) (by omega)
      have g0 : decide (vi < 0) = false := by simp; omega
      have g1 : decide (4294967296 ≤ vi) = false := by simp; omega
      go_upto_region 10 with fail
      go_cut [70] (fun v70 wc => v70 = .bool false ∧ Hid (Below w5.heap.size w5 wc))
      case first =>
        go_region_held3 (fun w' => Hid (Below w5.heap.size w5 w') ∧ w'.cell? ⟨g, i, none⟩ = some (.int .i64 vi)) (first | exact ⟨Hbr.out.drew, hcr⟩ | exact ⟨Hb6.out, hc6⟩)
          (first | (go_at_call 6; refine (HS.out _).mono ?_; rintro e w6 ⟨rfl, hb6⟩; have Hb6 := hide (bthen Hbr.out.drew hb6); have hc6 : w6.cell? ⟨g, i, none⟩ = some (.int .i64 vi) := (hb6.cell (p := ⟨g, i, none⟩) (World.block_lt_of_cell? wr _ hcr)).trans hcr; clear hb6))
        all_goals go_wp2_with fail
        go_meet
        case rel => exact ⟨rfl, Hb6.out⟩
      case rest =>
        obtain ⟨rfl, Hbc⟩ := hcut
        clear Hbr hcr HS
        have hc := HC.out i hlt
        have hcr : wc.cell? ⟨g, i, none⟩ = some (.int .i64 vi) := by
          rw [Hvi.out] at hc
          exact (Hbc.out.cell (p := ⟨g, i, none⟩) (World.block_lt_of_cell? _ _ hc)).trans hc
        clear hc
        go_upto_region 12 with fail
        go_cut [96] (fun v96 wd => v96 = .bool false ∧ Hid (Below w5.heap.size w5 wd))
        case first =>
          by_cases hi1 : 0 < i
          · obtain ⟨j, hj⟩ : ∃ j : Nat, j = i - 1 := ⟨_, rfl⟩
            have d0 : decide ((0 : Int) < (i : Int)) = true := by simp; omega
            have hw2 : IntKind.i64.wrap ((i : Int) - 1) = (j : Int) := by rw [iwrap_id _ (by omega) (by omega)]; omega
            have hw3 : IntKind.i64.wrap ((i : Int) + (m : Int) - 1) = (j : Int) + (m : Int) := by rw [iwrap_id _ (by omega) (by omega)]; omega
            have hjK : j < K := by omega
            have hjK' : (j : Int) < K := by omega
            have hKm := HKm.out
            have hjs : j < s.size := by omega
            have hjs' : (j : Int) < s.size := by omega
            have hjm : j + m < s.size := by omega
            have hjm' : (j : Int) + (m : Int) < s.size := by omega
            have hj0 : (0 : Int) ≤ (j : Int) + (m : Int) := by omega
            have hc := HC.out j hjK
            have hcj : wc.cell? ⟨g, j, none⟩ = some (.int .i64 (wk (Go.Weak.part s.data.toList j m))) := (Hbc.out.cell (p := ⟨g, j, none⟩) (World.block_lt_of_cell? _ _ hc)).trans hc
            clear hc
            have hsl := (slide s.data.toList j m (by omega) (by rw [lenL]; exact hjm)).2.2 (by omega)
            rw [show j + 1 = i by omega, Hvi.out, atL s j hjs, atL s (j + m) hjm] at hsl
            have HR := hide (fun W => Roll_ok (wk (Go.Weak.part s.data.toList j m)) m (s[j].toNat : Int) (s[j + m].toNat : Int) W (by omega) (by have := byte_lt s[j]; omega) (by omega) (by have := byte_lt s[j + m]; omega))
            rw [hsl] at HR
            generalize wk (Go.Weak.part s.data.toList j m) = vj at *
            have d1 : decide (0 < i) = true := by simp; omega
            clear hsl hj hKm
            go_region_held3 (fun w' => Hid (Below w5.heap.size w5 w') ∧ w'.cell? ⟨g, i, none⟩ = some (.int .i64 vi) ∧ w'.cell? ⟨g, j, none⟩ = some (.int .i64 vj)) (first | exact ⟨Hbc.out.drew, hcr, hcj⟩ | exact ⟨Hb7.out, hc7, hd7⟩)
              (first | (go_at_call 7; refine (HR.out _).mono ?_; rintro e w7 ⟨rfl, hb7⟩; have Hb7 := hide (bthen Hbc.out.drew hb7); have hc7 : w7.cell? ⟨g, i, none⟩ = some (.int .i64 vi) := (hb7.cell (p := ⟨g, i, none⟩) (World.block_lt_of_cell? wc _ hcr)).trans hcr; have hd7 : w7.cell? ⟨g, j, none⟩ = some (.int .i64 vj) := (hb7.cell (p := ⟨g, j, none⟩) (World.block_lt_of_cell? wc _ hcj)).trans hcj; clear hb7))
            all_goals
              go_wp2_with fail
              go_meet
              case rel => exact ⟨rfl, Hb7.out⟩
          · have d0 : decide ((0 : Int) < (i : Int)) = false := by simp; omega
            have d1 : decide (0 < i) = false := by simp; omega
            have hi2 : (i : Int) ≤ 0 := by omega
            clear hi1
            go_quiet (fail)
            go_wp2_with fail
            go_meet
            case rel => exact ⟨rfl, Hbc.out.trans ⟨rfl, rfl, rfl, Nat.le_refl _, fun _ _ => rfl⟩⟩
        case rest =>
          obtain ⟨rfl, Hbd⟩ := hcut
          clear Hbc hcr
          go_wp2_with fail
          go_loopw [8] (fun t we => ∃ k : Nat, t = .int .i64 k ∧ k ≤ i ∧ Hid (Below w5.heap.size w5 we)) (fun t _ => i - (intOf t).toNat)
          case atStart => exact ⟨0, rfl, by omega, Hbd.out⟩
          case round =>
            obtain ⟨k, rfl, hk, Hbe⟩ := hrel
            by_cases hki : k < i
            · have hki' : (k : Int) < i := by omega
              have hkK : (k : Int) < K := by omega
              have hk0 : (0 : Int) ≤ (k : Int) := by omega
              have hkm : k + m ≤ s.size := by omega
              have hkm' : (k : Int) + (m : Int) ≤ s.size := by omega
              have hkk : k ≤ k + m := by omega
              have hkk' : (k : Int) ≤ (k : Int) + (m : Int) := by omega
              have hw4 : IntKind.i64.wrap ((k : Int) + (m : Int)) = (k : Int) + (m : Int) := iwrap_id _ (by omega) (by omega)
              have hc := HC.out i hlt
              rw [Hvi.out] at hc
              have hci : wr.cell? ⟨g, i, none⟩ = some (.int .i64 vi) := (Hbe.out.cell (p := ⟨g, i, none⟩) (World.block_lt_of_cell? _ _ hc)).trans hc
              have hd := HC.out k (by omega)
              have hck : wr.cell? ⟨g, k, none⟩ = some (.int .i64 (wk (Go.Weak.part s.data.toList k m))) := (Hbe.out.cell (p := ⟨g, k, none⟩) (World.block_lt_of_cell? _ _ hd)).trans hd
              clear hc hd
              by_cases heq : s.extract i (i + m) = s.extract k (k + m)
              · have hv : wk (Go.Weak.part s.data.toList k m) = vi := by
                  rw [← Hvi.out]
                  have h1 := extractL s i (i + m)
                  have h2 := extractL s k (k + m)
                  rw [heq, h2, show k + m - k = m by omega, show i + m - i = m by omega] at h1
                  unfold Go.Weak.part
                  rw [h1]
                rw [hv] at hck
                clear hv
                have hb1 : ((s.extract i (i + m)).toList == (s.extract k (k + m)).toList) = true := by rw [heq]; exact beq_self_eq_true _
                have hnq : (vi != vi) = false := by simp
                clear heq
                go_wp2_with fail
                go_quiet (fail)
                go_wp2_with fail
                go_roundw
                case rel => exact ⟨k + 1, by go_num, by omega, Hbe.out.trans ⟨rfl, rfl, rfl, Nat.le_refl _, fun _ _ => rfl⟩⟩
                case measure => simp [intOf]; omega
              · have hb1 : ((s.extract i (i + m)).toList == (s.extract k (k + m)).toList) = false := by rw [beq_eq_false_iff_ne]; exact fun h => heq (bytes_ext h)
                clear heq hck
                go_wp2_with fail
                go_quiet (fail)
                go_wp2_with fail
                go_roundw
                case rel => exact ⟨k + 1, by go_num, by omega, Hbe.out.trans ⟨rfl, rfl, rfl, Nat.le_refl _, fun _ _ => rfl⟩⟩
                case measure => simp [intOf]; omega
            · have hle : (i : Int) ≤ k := by omega
              go_wp2_with fail
              go_roundw
              case rel => exact ⟨i + 1, by go_num, by omega, Hbe.out⟩
              case measure => simp [intOf]; omega
    · have hle : (K : Int) ≤ i := by omega
      go_wp2_with fail
      go_ret
      exact ⟨rfl, bthen Hb5.out Hbr.out⟩

set_option maxHeartbeats 1000000 in
set_option maxRecDepth 100000 in
theorem slides_any (s : ByteArray) (n : Int) (w : World) : Calls Try.prog 3 #[.string s, .int .i64 n] w fun r w' => r = .returned (.bool true) ∧ Below w.heap.size w w' := by
  by_cases h : s.size ≤ 200 ∧ 1 ≤ n ∧ n ≤ s.size
  · obtain ⟨m, rfl⟩ : ∃ m : Nat, n = m := ⟨n.toNat, by omega⟩
    exact slides_main s m w h.1 (by omega) (by omega)
  have HW := hide weighed_ok
  rcases (show 200 < s.size ∨ (s.size ≤ 200 ∧ n < 1) ∨ (s.size ≤ 200 ∧ 1 ≤ n ∧ (s.size : Int) < n) by omega) with h1 | ⟨h1, h2⟩ | ⟨h1, h2, h3⟩
  · have h1' : (200 : Int) < s.size := by omega
    clear h h1
    go_enter Try.func3, Try.ntmps3
    go_wp2_with fail
    refine (HW.out _).mono ?_
    rintro e w1 ⟨rfl, hb1⟩
    have Hb1 := hide hb1
    clear hb1
    go_wp2_with fail
    go_ret
    exact ⟨rfl, Hb1.out⟩
  · have h1' : (s.size : Int) ≤ 200 := by omega
    clear h h1
    go_enter Try.func3, Try.ntmps3
    go_wp2_with fail
    refine (HW.out _).mono ?_
    rintro e w1 ⟨rfl, hb1⟩
    have Hb1 := hide hb1
    clear hb1
    go_wp2_with fail
    go_ret
    exact ⟨rfl, Hb1.out⟩
  · have h1' : (s.size : Int) ≤ 200 := by omega
    clear h h1
    go_enter Try.func3, Try.ntmps3
    go_wp2_with fail
    refine (HW.out _).mono ?_
    rintro e w1 ⟨rfl, hb1⟩
    have Hb1 := hide hb1
    clear hb1
    go_wp2_with fail
    go_ret
    exact ⟨rfl, Hb1.out⟩
end Go.Proofs.Ytbfgjehkjmmceab
