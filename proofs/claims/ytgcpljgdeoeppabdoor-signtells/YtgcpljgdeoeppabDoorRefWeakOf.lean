/-
  Contracts of the document's answer for sums that roll (WeakOf, RollOf, JoinWeak) over this dump.
-/
import Derived.Test.YtgcpljgdeoeppabDoorWeakSumOf
namespace Go.Proofs.YtgcpljgdeoeppabDoor
open Go.RowKit

/-- Each of the first i bytes times its place from the end. -/
def wc (l : List UInt8) (i : Nat) : Nat := Go.Weak.wb l - Go.Weak.wb (l.drop i)

theorem wb_drop_le (l : List UInt8) (i : Nat) : Go.Weak.wb (l.drop i) ≤ Go.Weak.wb l := by
  induction l generalizing i with
  | nil => simp
  | cons b r ih =>
    cases i with
    | zero => simp
    | succ i => rw [List.drop_succ_cons, Go.Weak.wb]; exact Nat.le_trans (ih i) (by omega)

theorem wc_succ (l : List UInt8) (i : Nat) (h : i < l.length) : wc l (i + 1) = wc l i + l[i].toNat * (l.length - i) := by
  have h1 := wb_drop_le l i
  have h2 := wb_drop_le l (i + 1)
  have e : Go.Weak.wb (l.drop i) = (l.length - i) * l[i].toNat + Go.Weak.wb (l.drop (i + 1)) := by
    rw [Go.Weak.drop_cons l i h, Go.Weak.wb, List.length_drop, show l.length - (i + 1) + 1 = l.length - i by omega]
  unfold wc
  rw [Nat.mul_comm l[i].toNat]
  omega

theorem wc_zero (l : List UInt8) : wc l 0 = 0 := by simp [wc]

theorem wc_all (l : List UInt8) : wc l l.length = Go.Weak.wb l := by simp [wc, Go.Weak.wb]

set_option maxHeartbeats 1000000 in
set_option maxRecDepth 100000 in
theorem weakOf_ok (s : ByteArray) (w : World) (hs : s.size ≤ 1000000) : Calls Tryd.prog 38 #[.string s] w fun r w' => r = .returned (.int .i64 (wk s.data.toList)) ∧ w' = w := by
  have hs' : (s.size : Int) ≤ 1000000 := by omega
  go_enter Tryd.func38, Tryd.ntmps38
  go_wp2_with fail
  go_loop [3, 4, 5] (fun t3 t4 t5 => ∃ (i a b : Nat), t5 = .int .i64 i ∧ i ≤ s.size ∧ t3 = .int .i64 a ∧ t4 = .int .i64 b ∧ a < 65536 ∧ b < 65536 ∧ Hid (a = Go.Weak.wa (s.data.toList.take i) % 65536) ∧ Hid (b = wc s.data.toList i % 65536)) (fun _ _ t5 => s.size - (intOf t5).toNat)
  case atStart => exact ⟨0, 0, 0, rfl, by omega, rfl, rfl, by omega, by omega, by simp [Hid, Go.Weak.wa], by simp [Hid, wc_zero]⟩
  case round =>
    obtain ⟨i, a, b, rfl, hi, rfl, rfl, ha, hb, Ha, Hb⟩ := hrel
    have ha' : (a : Int) < 65536 := by omega
    have hb' : (b : Int) < 65536 := by omega
    by_cases hlt : i < s.size
    · have hlt' : (i : Int) < s.size := by omega
      have hx := byte_lt s[i]
      have e1 : (a + s[i].toNat) % 65536 = Go.Weak.wa (s.data.toList.take (i + 1)) % 65536 := by
        rw [takeL s i hlt, Go.Weak.wa_snoc, Ha.out]; omega
      have e2 : (b + s[i].toNat * (s.size - i)) % 65536 = wc s.data.toList (i + 1) % 65536 := by
        have h := wc_succ s.data.toList i (by rw [lenL]; exact hlt)
        rw [atL s i hlt, lenL] at h
        rw [h, Hb.out]; omega
      have e3 : ((s[i].toNat * (s.size - i) : Nat) : Int) = (s[i].toNat : Int) * ((s.size : Int) - i) := by
        rw [Int.natCast_mul, Int.natCast_sub hi]
      have hm : s[i].toNat * (s.size - i) ≤ 256 * 1000000 := Nat.mul_le_mul (by omega) (by omega)
      have hm0 : 0 ≤ (s[i].toNat : Int) * ((s.size : Int) - i) := by rw [← e3]; omega
      have hm1 : (s[i].toNat : Int) * ((s.size : Int) - i) ≤ 256000000 := by rw [← e3]; omega
      have E := hide (And.intro e1 (And.intro e2 e3))
      have hxi : (s[i].toNat : Int) < 256 := by omega
      clear e1 e2 e3 hx hm
      go_wp2_with fail
      go_round
      case rel =>
        obtain ⟨e1, e2, e3⟩ := E.out
        refine ⟨i + 1, (a + s[i].toNat) % 65536, (b + s[i].toNat * (s.size - i)) % 65536, by go_num, by omega, ?_, ?_, by omega, by omega, e1, e2⟩
        · show Value.int .i64 _ = Value.int .i64 _
          congr 1
        · show Value.int .i64 _ = Value.int .i64 _
          congr 1
          rw [← e3]
          omega
      case measure => simp [intOf]; omega
    · have hle : (s.size : Int) ≤ i := by omega
      have hie : i = s.size := by omega
      have hend : (a : Int) + 65536 * b = wk s.data.toList := by
        have h1 := Ha.out
        have h2 := Hb.out
        rw [hie, ← lenL s, List.take_length] at h1
        rw [hie, ← lenL s, wc_all] at h2
        unfold wk hA hB
        omega
      have Hend := hide hend
      clear hend hie
      go_wp2_with fail
      go_ret
      exact ⟨ret_int Hend.out, rfl⟩

theorem isWeak_ok (n : Int) (w : World) : Calls Tryd.prog 40 #[.int .i64 n] w fun r w' => r = .returned (.bool (decide (0 ≤ n ∧ n < 4294967296))) ∧ w' = w := by
  by_cases h0 : 0 ≤ n
  · go_enter Tryd.func40, Tryd.ntmps40
    go_wp2
    go_ret
    exact ⟨ret_bool (by simp [h0]), rfl⟩
  · have h0' : decide (0 ≤ n) = false := by simp; omega
    go_enter Tryd.func40, Tryd.ntmps40
    go_wp2
    go_ret
    exact ⟨ret_bool (by simp), rfl⟩
end Go.Proofs.YtgcpljgdeoeppabDoor
