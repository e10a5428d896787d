/-
  Contracts of the document's isSeq, distance, IsAhead, StartOf over this dump.
-/
import Derived.Test.YtaambclpkghddaaDoorWindowInv
namespace Go.Proofs.YtaambclpkghddaaDoor
open Go.RowKit
open Go.Window (dist startN)

def seqB (n : Int) : Bool := decide (0 ≤ n ∧ n < 65536)
set_option maxRecDepth 100000 in
theorem isSeq_ok (n : Int) (w : World) : Calls Tryd.prog 36 #[.int .i64 n] w fun r w' => r = .returned (.bool (seqB n)) ∧ w' = w := by
  by_cases h0 : 0 ≤ n
  · by_cases h1 : n < 65536
    · have e : seqB n = true := by simp [seqB, h0, h1]
      rw [e]
      clear e
      go_enter Tryd.func36, Tryd.ntmps36
      go_wp2_with fail
      go_ret
      exact ⟨rfl, rfl⟩
    · have e : seqB n = false := by simp [seqB, h0, h1]
      have h1' : 65536 ≤ n := by omega
      rw [e]
      clear e h1
      go_enter Tryd.func36, Tryd.ntmps36
      go_wp2_with fail
      go_ret
      exact ⟨by first | rfl | (apply ret_bool; simp; omega), rfl⟩
  · have e : seqB n = false := by simp [seqB, h0]
    have h0' : n < 0 := by omega
    rw [e]
    clear e h0
    go_enter Tryd.func36, Tryd.ntmps36
    go_wp2_with fail
    go_ret
    exact ⟨by first | rfl | (apply ret_bool; simp; omega), rfl⟩
set_option maxRecDepth 100000 in
theorem distance_ok (a b : Nat) (w : World) (ha : a < 65536) (hb : b < 65536) : Calls Tryd.prog 37 #[.int .i64 (a : Int), .int .i64 (b : Int)] w fun r w' => r = .returned (.int .i64 (dist a b : Nat)) ∧ w' = w := by
  have H1 : Hid ((b : Int) - a < 0 → (b : Int) - a + 65536 = dist a b) := fun h => by unfold dist; omega
  have H2 : Hid (0 ≤ (b : Int) - a → (b : Int) - a = dist a b) := fun h => by unfold dist; omega
  obtain ⟨x, hx⟩ : ∃ x, (b : Int) - a = x := ⟨_, rfl⟩
  have hx0 : -65536 < x := by omega
  have hx1 : x < 65536 := by omega
  rw [hx] at H1 H2
  clear ha hb
  by_cases h : x < 0
  · have ht : x.tmod 65536 = x := by
      obtain ⟨c, rfl⟩ : ∃ c : Nat, x = -(c : Int) := ⟨(-x).toNat, by omega⟩
      rw [Int.neg_tmod, Int.tmod_eq_emod_of_nonneg (by omega)]
      omega
    rw [← H1.out h]
    clear H1 H2
    go_enter Tryd.func37, Tryd.ntmps37
    go_wp2_with fail
    go_ret
    exact ⟨rfl, rfl⟩
  · have h' : 0 ≤ x := by omega
    have ht : x % 65536 = x := by omega
    rw [← H2.out h']
    clear H1 H2 h
    go_enter Tryd.func37, Tryd.ntmps37
    go_wp2_with fail
    go_ret
    exact ⟨ret_int ht, rfl⟩
theorem start_form (n : Int) (h : 0 ≤ n) : n.tmod 65536 = (startN n : Int) := by
  unfold startN
  rw [Int.tmod_eq_emod_of_nonneg h, if_neg (by omega)]
  omega
set_option maxRecDepth 100000 in
theorem startOf_ok (n : Int) (w : World) : Calls Tryd.prog 18 #[.int .i64 n] w fun r w' => r = .returned (.int .i64 (startN n : Nat)) ∧ w' = w := by
  by_cases h : n < 0
  · have e : startN n = 0 := by simp [startN, h]
    rw [e]
    clear e
    go_enter Tryd.func18, Tryd.ntmps18
    go_wp2_with fail
    go_ret
    exact ⟨rfl, rfl⟩
  · have h' : 0 ≤ n := by omega
    have e := start_form n h'
    have E := hide e
    clear e h
    go_enter Tryd.func18, Tryd.ntmps18
    go_wp2_with fail
    go_ret
    refine ⟨?_, rfl⟩
    first | (rw [E.out]; done) | (have := E.out; rw [← this]; apply ret_int; first | rfl | (rw [Int.tmod_eq_emod_of_nonneg h']))
theorem ahead_no (a b : Int) (h : seqB a = false ∨ seqB b = false) : Go.Window.ahead a b = false := by
  unfold Go.Window.ahead
  unfold seqB at h
  rw [decide_eq_false_iff_not]
  rcases h with h | h <;> rw [decide_eq_false_iff_not] at h <;> omega
theorem ahead_dist (a b : Nat) (ha : a < 65536) (hb : b < 65536) : Go.Window.ahead (a : Int) (b : Int) = decide (0 < dist a b ∧ dist a b ≤ 32767) := by
  unfold Go.Window.ahead dist
  rw [decide_eq_decide]
  omega
set_option maxHeartbeats 1000000 in
set_option maxRecDepth 100000 in
theorem isAhead_ok (a b : Int) (w : World) : Calls Tryd.prog 16 #[.int .i64 a, .int .i64 b] w fun r w' => r = .returned (.bool (Go.Window.ahead a b)) ∧ w' = w := by
  have HA := hide (fun W => isSeq_ok a W)
  have HB := hide (fun W => isSeq_ok b W)
  by_cases h : seqB a = true ∧ seqB b = true
  · obtain ⟨h1, h2⟩ := h
    rw [h1] at HA
    rw [h2] at HB
    simp only [seqB, decide_eq_true_eq] at h1 h2
    obtain ⟨x, rfl⟩ : ∃ x : Nat, a = x := ⟨a.toNat, by omega⟩
    obtain ⟨y, rfl⟩ : ∃ y : Nat, b = y := ⟨b.toNat, by omega⟩
    rw [ahead_dist x y (by omega) (by omega)]
    have HD := hide (fun W => distance_ok x y W (by omega) (by omega))
    generalize dist x y = d at *
    clear h1 h2
    by_cases h0 : 0 < d
    · have h0' : (0 : Int) < d := by omega
      by_cases h3 : d ≤ 32767
      · have h3' : (d : Int) ≤ 32767 := by omega
        have e : decide (0 < d ∧ d ≤ 32767) = true := by simp [h0, h3]
        rw [e]
        clear e h0 h3
        go_enter Tryd.func16, Tryd.ntmps16
        go_wp2_with fail
        refine (HA.out _).mono ?_
        rintro e w' ⟨rfl, rfl⟩
        go_wp2_with fail
        refine (HB.out _).mono ?_
        rintro e w' ⟨rfl, rfl⟩
        go_wp2_with fail
        refine (HD.out _).mono ?_
        rintro e w' ⟨rfl, rfl⟩
        go_wp2_with fail
        go_ret
        exact ⟨by first | rfl | (apply ret_bool; simp; omega), rfl⟩
      · have h3' : (32767 : Int) < d := by omega
        have e : decide (0 < d ∧ d ≤ 32767) = false := by simp; omega
        rw [e]
        clear e h0 h3
        go_enter Tryd.func16, Tryd.ntmps16
        go_wp2_with fail
        refine (HA.out _).mono ?_
        rintro e w' ⟨rfl, rfl⟩
        go_wp2_with fail
        refine (HB.out _).mono ?_
        rintro e w' ⟨rfl, rfl⟩
        go_wp2_with fail
        refine (HD.out _).mono ?_
        rintro e w' ⟨rfl, rfl⟩
        go_wp2_with fail
        go_ret
        exact ⟨by first | rfl | (apply ret_bool; simp; omega), rfl⟩
    · obtain rfl : d = 0 := by omega
      rw [show decide (0 < 0 ∧ 0 ≤ 32767) = false from rfl]
      clear h0
      go_enter Tryd.func16, Tryd.ntmps16
      go_wp2_with fail
      refine (HA.out _).mono ?_
      rintro e w' ⟨rfl, rfl⟩
      go_wp2_with fail
      refine (HB.out _).mono ?_
      rintro e w' ⟨rfl, rfl⟩
      go_wp2_with fail
      refine (HD.out _).mono ?_
      rintro e w' ⟨rfl, rfl⟩
      go_wp2_with fail
      go_ret
      exact ⟨by first | rfl | (apply ret_bool; simp; omega), rfl⟩
  · have h' : seqB a = false ∨ seqB b = false := by
      cases e1 : seqB a
      · exact .inl rfl
      · cases e2 : seqB b
        · exact .inr rfl
        · exact absurd ⟨e1, e2⟩ h
    rw [ahead_no a b h']
    clear h
    generalize seqB a = x at *
    generalize seqB b = y at *
    have H' := hide h'
    clear h'
    cases x with
    | false =>
      go_enter Tryd.func16, Tryd.ntmps16
      go_wp2_with fail
      refine (HA.out _).mono ?_
      rintro e w' ⟨rfl, rfl⟩
      go_wp2_with fail
      refine (HB.out _).mono ?_
      rintro e w' ⟨rfl, rfl⟩
      go_wp2_with fail
      go_ret
      exact ⟨rfl, rfl⟩
    | true =>
      obtain rfl : y = false := by rcases H'.out with h | h; cases h; exact h
      go_enter Tryd.func16, Tryd.ntmps16
      go_wp2_with fail
      refine (HA.out _).mono ?_
      rintro e w' ⟨rfl, rfl⟩
      go_wp2_with fail
      refine (HB.out _).mono ?_
      rintro e w' ⟨rfl, rfl⟩
      go_wp2_with fail
      go_ret
      exact ⟨rfl, rfl⟩
end Go.Proofs.YtaambclpkghddaaDoor
