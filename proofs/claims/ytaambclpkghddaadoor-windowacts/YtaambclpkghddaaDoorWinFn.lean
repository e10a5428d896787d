/-
  Contracts of package window's functions on numbers: isNumber, begin, after, gap, Ahead.
-/
import Derived.Test.YtaambclpkghddaaDoorWindowInv
namespace Go.Proofs.YtaambclpkghddaaDoor
open Go.RowKit
open Go.Window (dist startN)

/-- Is it a frame's number? -/
def nmB (n : Int) : Bool := decide (0 ≤ n ∧ n < 65536)
set_option maxRecDepth 100000 in
theorem isNumber_ok (n : Int) (w : World) : Calls Tryd.prog 33 #[.int .i64 n] w fun r w' => r = .returned (.bool (nmB n)) ∧ w' = w := by
  by_cases h0 : 0 ≤ n
  · by_cases h1 : n < 65536
    · have e : nmB n = true := by simp [nmB, h0, h1]
      rw [e]
      clear e
      go_enter Tryd.func33, Tryd.ntmps33
      go_wp2_with fail
      go_ret
      exact ⟨rfl, rfl⟩
    · have e : nmB n = false := by simp [nmB, h0, h1]
      have h1' : 65536 ≤ n := by omega
      rw [e]
      clear e h1
      go_enter Tryd.func33, Tryd.ntmps33
      go_wp2_with fail
      go_ret
      exact ⟨by first | (apply ret_bool; simp <;> omega) | rfl, rfl⟩
  · have e : nmB n = false := by simp [nmB, h0]
    have h0' : n < 0 := by omega
    rw [e]
    clear e h0
    go_enter Tryd.func33, Tryd.ntmps33
    go_wp2_with fail
    go_ret
    exact ⟨by first | (apply ret_bool; simp <;> omega) | rfl, rfl⟩
set_option maxRecDepth 100000 in
theorem gap_ok (a b : Nat) (w : World) (ha : a < 65536) (hb : b < 65536) : Calls Tryd.prog 26 #[.int .i64 (a : Int), .int .i64 (b : Int)] w fun r w' => r = .returned (.int .i64 (dist a b : Nat)) ∧ w' = w := by
  have H1 := hide (show ((b : Int) - a + 65536) % 65536 = dist a b by unfold dist; omega)
  obtain ⟨x, hx⟩ : ∃ x, (b : Int) - a = x := ⟨_, rfl⟩
  have hx0 : -65536 < x := by omega
  have hx1 : x < 65536 := by omega
  rw [hx] at H1
  rw [← H1.out]
  clear ha hb H1
  have hx2 : 0 ≤ x + 65536 := by omega
  go_enter Tryd.func26, Tryd.ntmps26
  go_wp2_with fail
  go_ret
  refine ⟨ret_int ?_, rfl⟩
  first | rfl | rw [Int.tmod_eq_emod_of_nonneg hx2]
set_option maxRecDepth 100000 in
theorem after_ok (a : Nat) (w : World) (ha : a < 65536) : Calls Tryd.prog 27 #[.int .i64 (a : Int)] w fun r w' => r = .returned (.int .i64 (((a + 1) % 65536 : Nat) : Int)) ∧ w' = w := by
  have H1 := hide (show ((a : Int) + 1) % 65536 = (((a + 1) % 65536 : Nat) : Int) by omega)
  rw [← H1.out]
  have ha' : (a : Int) < 65536 := by omega
  clear H1 ha
  go_enter Tryd.func27, Tryd.ntmps27
  go_wp2_with fail
  go_ret
  refine ⟨ret_int ?_, rfl⟩
  first | rfl | (rw [Int.tmod_eq_emod_of_nonneg (by omega)])
theorem begin_form (n : Int) (h : 0 ≤ n) : n.tmod 65536 = (startN n : Int) := by
  unfold startN
  rw [Int.tmod_eq_emod_of_nonneg h, if_neg (by omega)]
  omega
set_option maxRecDepth 100000 in
theorem begin_ok (n : Int) (w : World) : Calls Tryd.prog 25 #[.int .i64 n] w fun r w' => r = .returned (.int .i64 (startN n : Nat)) ∧ w' = w := by
  by_cases h : n < 0
  · have e : startN n = 0 := by simp [startN, h]
    rw [e]
    clear e
    go_enter Tryd.func25, Tryd.ntmps25
    go_wp2_with fail
    go_ret
    exact ⟨by first | rfl | (apply ret_int; simp; omega), rfl⟩
  · have h' : 0 ≤ n := by omega
    have e := begin_form n h'
    have E := hide e
    clear e h
    go_enter Tryd.func25, Tryd.ntmps25
    go_wp2_with fail
    go_ret
    refine ⟨?_, rfl⟩
    have := E.out
    rw [← this]
    apply ret_int
    first | rfl | (rw [Int.tmod_eq_emod_of_nonneg h'])
theorem nm_no (a b : Int) (h : nmB a = false ∨ nmB b = false) : Go.Window.ahead a b = false := by
  unfold Go.Window.ahead
  unfold nmB at h
  rw [decide_eq_false_iff_not]
  rcases h with h | h <;> rw [decide_eq_false_iff_not] at h <;> omega
theorem nm_dist (a b : Nat) (ha : a < 65536) (hb : b < 65536) : Go.Window.ahead (a : Int) (b : Int) = decide (1 ≤ dist a b ∧ dist a b < 32768) := by
  unfold Go.Window.ahead dist
  rw [decide_eq_decide]
  omega
set_option maxHeartbeats 1000000 in
set_option maxRecDepth 100000 in
theorem ahead_ok (a b : Int) (w : World) : Calls Tryd.prog 17 #[.int .i64 a, .int .i64 b] w fun r w' => r = .returned (.bool (Go.Window.ahead a b)) ∧ w' = w := by
  have HA := hide (fun W => isNumber_ok a W)
  have HB := hide (fun W => isNumber_ok b W)
  by_cases h : nmB a = true ∧ nmB b = true
  · obtain ⟨h1, h2⟩ := h
    rw [h1] at HA
    rw [h2] at HB
    simp only [nmB, decide_eq_true_eq] at h1 h2
    obtain ⟨x, rfl⟩ : ∃ x : Nat, a = x := ⟨a.toNat, by omega⟩
    obtain ⟨y, rfl⟩ : ∃ y : Nat, b = y := ⟨b.toNat, by omega⟩
    rw [nm_dist x y (by omega) (by omega)]
    have HD := hide (fun W => gap_ok x y W (by omega) (by omega))
    generalize dist x y = d at *
    clear h1 h2
    by_cases h0 : 1 ≤ d
    · have h0' : (1 : Int) ≤ d := by omega
      by_cases h3 : d < 32768
      · have h3' : (d : Int) < 32768 := by omega
        have e : decide (1 ≤ d ∧ d < 32768) = true := by simp [h0, h3]
        rw [e]
        clear e h0 h3
        go_enter Tryd.func17, Tryd.ntmps17
        go_wp2_with fail
        refine (HA.out _).mono ?_
        rintro e w' ⟨rfl, rfl⟩
        go_wp2_with fail
        refine (HB.out _).mono ?_
        rintro e w' ⟨rfl, rfl⟩
        go_wp2_with fail
        refine (HD.out _).mono ?_
        rintro e w' ⟨rfl, rfl⟩
        go_wp2_with fail
        go_ret
        exact ⟨by first | (apply ret_bool; simp <;> omega) | rfl, rfl⟩
      · have h3' : (32768 : Int) ≤ d := by omega
        have e : decide (1 ≤ d ∧ d < 32768) = false := by simp; omega
        rw [e]
        clear e h0 h3
        go_enter Tryd.func17, Tryd.ntmps17
        go_wp2_with fail
        refine (HA.out _).mono ?_
        rintro e w' ⟨rfl, rfl⟩
        go_wp2_with fail
        refine (HB.out _).mono ?_
        rintro e w' ⟨rfl, rfl⟩
        go_wp2_with fail
        refine (HD.out _).mono ?_
        rintro e w' ⟨rfl, rfl⟩
        go_wp2_with fail
        go_ret
        exact ⟨by first | (apply ret_bool; simp <;> omega) | rfl, rfl⟩
    · obtain rfl : d = 0 := by omega
      rw [show decide (1 ≤ 0 ∧ 0 < 32768) = false from decide_eq_false (by omega)]
      clear h0
      go_enter Tryd.func17, Tryd.ntmps17
      go_wp2_with fail
      refine (HA.out _).mono ?_
      rintro e w' ⟨rfl, rfl⟩
      go_wp2_with fail
      refine (HB.out _).mono ?_
      rintro e w' ⟨rfl, rfl⟩
      go_wp2_with fail
      refine (HD.out _).mono ?_
      rintro e w' ⟨rfl, rfl⟩
      go_wp2_with fail
      go_ret
      exact ⟨by first | (apply ret_bool; simp <;> omega) | rfl, rfl⟩
  · have h' : nmB a = false ∨ nmB b = false := by
      cases e1 : nmB a
      · exact .inl rfl
      · cases e2 : nmB b
        · exact .inr rfl
        · exact absurd ⟨e1, e2⟩ h
    rw [nm_no a b h']
    clear h
    generalize nmB a = x at *
    generalize nmB b = y at *
    have H' := hide h'
    clear h'
    cases x with
    | false =>
      go_enter Tryd.func17, Tryd.ntmps17
      go_wp2_with fail
      refine (HA.out _).mono ?_
      rintro e w' ⟨rfl, rfl⟩
      go_wp2_with fail
      go_ret
      exact ⟨rfl, rfl⟩
    | true =>
      obtain rfl : y = false := by rcases H'.out with h | h; cases h; exact h
      go_enter Tryd.func17, Tryd.ntmps17
      go_wp2_with fail
      refine (HA.out _).mono ?_
      rintro e w' ⟨rfl, rfl⟩
      go_wp2_with fail
      refine (HB.out _).mono ?_
      rintro e w' ⟨rfl, rfl⟩
      go_wp2_with fail
      go_ret
      exact ⟨rfl, rfl⟩
end Go.Proofs.YtaambclpkghddaaDoor
