/-
  Contracts of the document's answer for sums that roll (WeakOf, RollOf, JoinWeak) over this dump.
-/
import Derived.Test.YtbfgjehkjmmceaaWeakLaws
namespace Go.Proofs.Ytbfgjehkjmmceaa
open Go.RowKit

/-- Each of the first i bytes times its place from the end. -/
def wc (l : List UInt8) (i : Nat) : Nat := Go.Weak.wb l - Go.Weak.wb (l.drop i)
theorem wb_drop_le (l : List UInt8) (i : Nat) : Go.Weak.wb (l.drop i) ≤ Go.Weak.wb l := by
  induction l generalizing i with
  | nil => simp
  | cons b r ih =>
    cases i with
    | zero => simp
    | succ i => rw [List.drop_succ_cons, Go.Weak.wb]; exact Nat.le_trans (ih i) (by omega)
theorem wc_succ (l : List UInt8) (i : Nat) (h : i < l.length) : wc l (i + 1) = wc l i + l[i].toNat * (l.length - i) := by
  have h1 := wb_drop_le l i
  have h2 := wb_drop_le l (i + 1)
  have e : Go.Weak.wb (l.drop i) = (l.length - i) * l[i].toNat + Go.Weak.wb (l.drop (i + 1)) := by
    rw [Go.Weak.drop_cons l i h, Go.Weak.wb, List.length_drop, show l.length - (i + 1) + 1 = l.length - i by omega]
  unfold wc
  rw [Nat.mul_comm l[i].toNat]
  omega
theorem wc_zero (l : List UInt8) : wc l 0 = 0 := by simp [wc]
theorem wc_all (l : List UInt8) : wc l l.length = Go.Weak.wb l := by simp [wc, Go.Weak.wb]

set_option maxHeartbeats 1000000 in
set_option maxRecDepth 100000 in
theorem weakOf_ok (s : ByteArray) (w : World) (hs : s.size ≤ 1000000) : Calls Try.prog 7 #[.string s] w fun r w' => r = .returned (.int .i64 (wk s.data.toList)) ∧ w' = w := by
  have hs' : (s.size : Int) ≤ 1000000 := by omega
  go_enter Try.func7, Try.ntmps7
  go_wp2_with fail
  go_loop [3, 4, 5] (fun t3 t4 t5 => ∃ (i a b : Nat), t5 = .int .i64 i ∧ i ≤ s.size ∧ t3 = .int .i64 a ∧ t4 = .int .i64 b ∧ a < 65536 ∧ b < 65536 ∧ Hid (a = Go.Weak.wa (s.data.toList.take i) % 65536) ∧ Hid (b = wc s.data.toList i % 65536)) (fun _ _ t5 => s.size - (intOf t5).toNat)
  case atStart => exact ⟨0, 0, 0, rfl, by omega, rfl, rfl, by omega, by omega, by simp [Hid, Go.Weak.wa], by simp [Hid, wc_zero]⟩
  case round =>
    obtain ⟨i, a, b, rfl, hi, rfl, rfl, ha, hb, Ha, Hb⟩ := hrel
    have ha' : (a : Int) < 65536 := by omega
    have hb' : (b : Int) < 65536 := by omega
    by_cases hlt : i < s.size
    · have hlt' : (i : Int) < s.size := by omega
      have hx := byte_lt s[i]
      have e1 : (a + s[i].toNat) % 65536 = Go.Weak.wa (s.data.toList.take (i + 1)) % 65536 := by
        rw [takeL s i hlt, Go.Weak.wa_snoc, Ha.out]; omega
      have e2 : (b + s[i].toNat * (s.size - i)) % 65536 = wc s.data.toList (i + 1) % 65536 := by
        have h := wc_succ s.data.toList i (by rw [lenL]; exact hlt)
        rw [atL s i hlt, lenL] at h
        rw [h, Hb.out]; omega
      have e3 : ((s[i].toNat * (s.size - i) : Nat) : Int) = (s[i].toNat : Int) * ((s.size : Int) - i) := by
        rw [Int.natCast_mul, Int.natCast_sub hi]
      have hm : s[i].toNat * (s.size - i) ≤ 256 * 1000000 := Nat.mul_le_mul (by omega) (by omega)
      have hm0 : 0 ≤ (s[i].toNat : Int) * ((s.size : Int) - i) := by rw [← e3]; omega
      have hm1 : (s[i].toNat : Int) * ((s.size : Int) - i) ≤ 256000000 := by rw [← e3]; omega
      have E := hide (And.intro e1 (And.intro e2 e3))
      have hxi : (s[i].toNat : Int) < 256 := by omega
      clear e1 e2 e3 hx hm
      go_wp2_with fail
      go_round
      case rel =>
        obtain ⟨e1, e2, e3⟩ := E.out
        refine ⟨i + 1, (a + s[i].toNat) % 65536, (b + s[i].toNat * (s.size - i)) % 65536, by go_num, by omega, ?_, ?_, by omega, by omega, e1, e2⟩
        · show Value.int .i64 _ = Value.int .i64 _
          congr 1
        · show Value.int .i64 _ = Value.int .i64 _
          congr 1
          rw [← e3]
          omega
      case measure => simp [intOf]; omega
    · have hle : (s.size : Int) ≤ i := by omega
      have hie : i = s.size := by omega
      have hend : (a : Int) + 65536 * b = wk s.data.toList := by
        have h1 := Ha.out
        have h2 := Hb.out
        rw [hie, ← lenL s, List.take_length] at h1
        rw [hie, ← lenL s, wc_all] at h2
        unfold wk hA hB
        omega
      have Hend := hide hend
      clear hend hie
      go_wp2_with fail
      go_ret
      exact ⟨ret_int Hend.out, rfl⟩

theorem isWeak_ok (n : Int) (w : World) : Calls Try.prog 19 #[.int .i64 n] w fun r w' => r = .returned (.bool (decide (0 ≤ n ∧ n < 4294967296))) ∧ w' = w := by
  by_cases h0 : 0 ≤ n
  · go_enter Try.func19, Try.ntmps19
    go_wp2
    go_ret
    exact ⟨ret_bool (by simp [h0]), rfl⟩
  · have h0' : decide (0 ≤ n) = false := by simp; omega
    go_enter Try.func19, Try.ntmps19
    go_wp2
    go_ret
    exact ⟨ret_bool (by simp), rfl⟩

theorem positive_ok (n : Int) (w : World) : Calls Try.prog 20 #[.int .i64 n] w fun r w' => r = .returned (.int .i64 (n % 65536)) ∧ w' = w := by
  have e := Int.tmod_eq_emod (a := n) (b := 65536)
  have h1 : -65536 < n.tmod 65536 := by split at e <;> omega
  have h2 : n.tmod 65536 < 65536 := by split at e <;> omega
  by_cases hneg : n.tmod 65536 < 0
  · have e' : n.tmod 65536 + 65536 = n % 65536 := by split at e <;> omega
    have E := hide e'
    clear e e'
    generalize hm : n.tmod 65536 = m at *
    go_enter Try.func20, Try.ntmps20
    go_wp2
    go_ret
    exact ⟨ret_int E.out, rfl⟩
  · have e' : n.tmod 65536 = n % 65536 := by split at e <;> omega
    have E := hide e'
    have hnn : 0 ≤ n.tmod 65536 := by omega
    clear e e' hneg
    generalize hm : n.tmod 65536 = m at *
    go_enter Try.func20, Try.ntmps20
    go_wp2
    go_ret
    exact ⟨ret_int E.out, rfl⟩

set_option maxHeartbeats 1000000 in
set_option maxRecDepth 100000 in
theorem rollOf_ok (sum n x y : Int) (w : World) (x0 : 0 ≤ x) (x1 : x < 256) (y0 : 0 ≤ y) (y1 : y < 256) : Calls Try.prog 9 #[.int .i64 sum, .int .i64 n, .int .u8 x, .int .u8 y] w fun r w' => r = .returned (.int .i64 (rollOut sum n x y)) ∧ w' = w := by
  have I := hide (fun W => isWeak_ok sum W)
  by_cases hS : 0 ≤ sum ∧ sum < 4294967296
  · rw [show decide (0 ≤ sum ∧ sum < 4294967296) = true from decide_eq_true hS] at I
    by_cases hN : 1 ≤ n ∧ n ≤ 4000
    · obtain ⟨S0, S1⟩ := hS
      obtain ⟨N0, N1⟩ := hN
      have hm0 : 0 ≤ n * x := Int.mul_nonneg (by omega) x0
      have hm1 : n * x ≤ 4000 * 256 := Int.mul_le_mul N1 (by omega) x0 (by omega)
      have e1 : (sum % 65536 - x + y) % 65536 = rollA (sum % 65536) x y := by unfold rollA; omega
      have e2 : (sum / 65536 - n * x + rollA (sum % 65536) x y) % 65536 = rollB (sum % 65536) (sum / 65536) n x y := by
        unfold rollB
        rw [show ((sum % 65536 - x) % 65536 + y) % 65536 = rollA (sum % 65536) x y from rfl]
        omega
      have e3 : rollA (sum % 65536) x y + 65536 * rollB (sum % 65536) (sum / 65536) n x y = rollOut sum n x y := by rw [rollOut, if_pos ⟨⟨S0, S1⟩, N0, N1⟩]
      have q0 : 0 ≤ rollA (sum % 65536) x y := ge_mod _
      have q1 : rollA (sum % 65536) x y < 65536 := lt_mod _
      have q2 : 0 ≤ rollB (sum % 65536) (sum / 65536) n x y := ge_mod _
      have q3 : rollB (sum % 65536) (sum / 65536) n x y < 65536 := lt_mod _
      have HP := hide (fun (m : Int) W => positive_ok m W)
      have E := hide (And.intro e1 (And.intro e2 e3))
      clear e1 e2 e3
      go_enter Try.func9, Try.ntmps9
      go_wp2_with fail
      refine (I.out _).mono ?_
      rintro e w1 ⟨rfl, rfl⟩
      go_wp2_with fail
      refine (HP.out _ _).mono ?_
      rintro e w1 ⟨rfl, rfl⟩
      rw [E.out.1]
      have E2 := hide E.out.2
      clear E
      generalize rollA (sum % 65536) x y = A at *
      generalize rollB (sum % 65536) (sum / 65536) n x y = B at *
      go_wp2_with fail
      refine (HP.out _ _).mono ?_
      rintro e w1 ⟨rfl, rfl⟩
      rw [E2.out.1]
      go_wp2_with fail
      go_ret
      exact ⟨ret_int E2.out.2, rfl⟩
    · have ho : rollOut sum n x y = -1 := by rw [rollOut, if_neg (fun h => hN h.2)]
      rw [ho]
      clear ho
      rcases (show n < 1 ∨ 4000 < n by omega) with hz | hz
      · clear hS hN
        go_enter Try.func9, Try.ntmps9
        go_wp2_with fail
        refine (I.out _).mono ?_
        rintro e w1 ⟨rfl, rfl⟩
        go_wp2_with fail
        go_ret
        exact ⟨rfl, rfl⟩
      · have hz1 : decide (n < 1) = false := by simp; omega
        clear hS hN
        go_enter Try.func9, Try.ntmps9
        go_wp2_with fail
        refine (I.out _).mono ?_
        rintro e w1 ⟨rfl, rfl⟩
        go_wp2_with fail
        go_ret
        exact ⟨rfl, rfl⟩
  · rw [show decide (0 ≤ sum ∧ sum < 4294967296) = false from decide_eq_false hS] at I
    have ho : rollOut sum n x y = -1 := by rw [rollOut, if_neg (fun h => hS h.1)]
    rw [ho]
    clear ho hS
    go_enter Try.func9, Try.ntmps9
    go_wp2_with fail
    refine (I.out _).mono ?_
    rintro e w1 ⟨rfl, rfl⟩
    go_wp2_with fail
    go_ret
    exact ⟨rfl, rfl⟩

set_option maxHeartbeats 1000000 in
set_option maxRecDepth 100000 in
theorem joinWeak_ok (a b n : Int) (w : World) : Calls Try.prog 11 #[.int .i64 a, .int .i64 b, .int .i64 n] w fun r w' => r = .returned (.int .i64 (joinOut a b n)) ∧ w' = w := by
  have I1 := hide (fun W => isWeak_ok a W)
  have I2 := hide (fun W => isWeak_ok b W)
  by_cases hA' : 0 ≤ a ∧ a < 4294967296
  · rw [show decide (0 ≤ a ∧ a < 4294967296) = true from decide_eq_true hA'] at I1
    by_cases hB' : 0 ≤ b ∧ b < 4294967296
    · rw [show decide (0 ≤ b ∧ b < 4294967296) = true from decide_eq_true hB'] at I2
      by_cases hN : 0 ≤ n ∧ n ≤ 4000
      · obtain ⟨A0, A1⟩ := hA'
        obtain ⟨B0, B1⟩ := hB'
        obtain ⟨N0, N1⟩ := hN
        have hm0 : 0 ≤ n * (a % 65536) := Int.mul_nonneg (by omega) (ge_mod _)
        have hm1 : n * (a % 65536) ≤ 4000 * 65536 := Int.mul_le_mul N1 (by have := lt_mod a; omega) (ge_mod _) (by omega)
        have ho : (a % 65536 + b % 65536) % 65536 + 65536 * ((a / 65536 + b / 65536 + n * (a % 65536)) % 65536) = joinOut a b n := by
          rw [joinOut, if_pos ⟨⟨A0, A1⟩, ⟨B0, B1⟩, N0, N1⟩]
          omega
        have Ho := hide ho
        clear ho
        go_enter Try.func11, Try.ntmps11
        go_wp2_with fail
        refine (I1.out _).mono ?_
        rintro e w1 ⟨rfl, rfl⟩
        go_wp2_with fail
        refine (I2.out _).mono ?_
        rintro e w1 ⟨rfl, rfl⟩
        go_wp2_with fail
        go_ret
        refine ⟨ret_int (Eq.trans ?_ Ho.out), rfl⟩
        omega
      · have ho : joinOut a b n = -1 := by rw [joinOut, if_neg (fun h => hN h.2.2)]
        rw [ho]
        clear ho
        rcases (show n < 0 ∨ 4000 < n by omega) with hz | hz
        · clear hA' hB' hN
          go_enter Try.func11, Try.ntmps11
          go_wp2_with fail
          refine (I1.out _).mono ?_
          rintro e w1 ⟨rfl, rfl⟩
          go_wp2_with fail
          refine (I2.out _).mono ?_
          rintro e w1 ⟨rfl, rfl⟩
          go_wp2_with fail
          go_ret
          exact ⟨rfl, rfl⟩
        · have hz1 : decide (n < 0) = false := by simp; omega
          clear hA' hB' hN
          go_enter Try.func11, Try.ntmps11
          go_wp2_with fail
          refine (I1.out _).mono ?_
          rintro e w1 ⟨rfl, rfl⟩
          go_wp2_with fail
          refine (I2.out _).mono ?_
          rintro e w1 ⟨rfl, rfl⟩
          go_wp2_with fail
          go_ret
          exact ⟨rfl, rfl⟩
    · rw [show decide (0 ≤ b ∧ b < 4294967296) = false from decide_eq_false hB'] at I2
      have ho : joinOut a b n = -1 := by rw [joinOut, if_neg (fun h => hB' h.2.1)]
      rw [ho]
      clear ho hA' hB'
      go_enter Try.func11, Try.ntmps11
      go_wp2_with fail
      refine (I1.out _).mono ?_
      rintro e w1 ⟨rfl, rfl⟩
      go_wp2_with fail
      refine (I2.out _).mono ?_
      rintro e w1 ⟨rfl, rfl⟩
      go_wp2_with fail
      go_ret
      exact ⟨rfl, rfl⟩
  · rw [show decide (0 ≤ a ∧ a < 4294967296) = false from decide_eq_false hA'] at I1
    have ho : joinOut a b n = -1 := by rw [joinOut, if_neg (fun h => hA' h.1)]
    rw [ho]
    clear ho hA'
    go_enter Try.func11, Try.ntmps11
    go_wp2_with fail
    refine (I1.out _).mono ?_
    rintro e w1 ⟨rfl, rfl⟩
    go_wp2_with fail
    refine (I2.out _).mono ?_
    rintro e w1 ⟨rfl, rfl⟩
    go_wp2_with fail
    go_ret
    exact ⟨rfl, rfl⟩
end Go.Proofs.Ytbfgjehkjmmceaa
