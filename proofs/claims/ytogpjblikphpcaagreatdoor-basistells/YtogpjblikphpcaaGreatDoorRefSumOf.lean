/-
  Contracts of the document's answer for sums of all (shift, MoreOf, SumOf, JoinSums) over this dump.
-/
import Derived.Test.YtogpjblikphpcaaGreatDoorMore
namespace Go.Proofs.YtogpjblikphpcaaGreatDoor
open Go.RowKit



set_option maxHeartbeats 1000000 in
theorem shift_ok (c : Nat) (w : World) (hc : c < 4294967296) : Calls Tryz.prog 74 #[.int .i64 c] w fun r w' => r = .returned (.int .i64 (Go.Crc.sh c : Nat)) ∧ w' = w := by
  rcases Nat.mod_two_eq_zero_or_one c with h | h
  · have h1 : ((c : Int) % 2 == 1) = false := by simp; omega
    have e : (c : Int) / 2 = (Go.Crc.sh c : Nat) := by unfold Go.Crc.sh; rw [h, Nat.mul_zero, Nat.xor_zero]; omega
    have E := hide e
    clear h e
    go_enter Tryz.func74, Tryz.ntmps74
    go_wp2_with fail
    go_ret
    exact ⟨ret_int E.out, rfl⟩
  · have h1 : ((c : Int) % 2 == 1) = true := by simp; omega
    have e : bits .xor .i64 ((c : Int) / 2) 3988292384 = (Go.Crc.sh c : Nat) := by
      rw [show (c : Int) / 2 = ((c / 2 : Nat) : Int) by omega, show (3988292384 : Int) = ((3988292384 : Nat) : Int) from rfl, i64_xor_nat _ _ (by omega) (by omega)]
      unfold Go.Crc.sh
      rw [h]
    have E := hide e
    clear h e
    go_enter Tryz.func74, Tryz.ntmps74
    go_wp2_with fail
    go_ret
    exact ⟨ret_int E.out, rfl⟩

theorem i64_not (c : Nat) (hc : c < 4294967296) : bits .xor .i64 (c : Int) 4294967295 = ((c ^^^ Go.Crc.ones : Nat) : Int) :=
  i64_xor_nat c Go.Crc.ones (by omega) (by decide)

set_option maxHeartbeats 1000000 in
set_option maxRecDepth 100000 in
theorem moreOf_ok (c : Nat) (s : ByteArray) (w : World) (hc : c < 4294967296) (hs : s.size ≤ 1000000) : Calls Tryz.prog 55 #[.int .i64 c, .string s] w fun r w' => r = .returned (.int .i64 (Go.Crc.crc c s.data.toList : Nat)) ∧ w' = w := by
  have hs' : (s.size : Int) ≤ 1000000 := by omega
  have hnot := i64_not c hc
  have hc1 : c ^^^ Go.Crc.ones < 2 ^ 32 := Nat.xor_lt_two_pow hc Go.Crc.ones_lt
  have Hc : Hid (Go.Crc.crc c s.data.toList = Go.Crc.run (c ^^^ Go.Crc.ones) s.data.toList ^^^ Go.Crc.ones) := rfl
  generalize c ^^^ Go.Crc.ones = d at *
  go_enter Tryz.func55, Tryz.ntmps55
  go_wp2_with fail
  go_loop [0, 5] (fun t0 t5 => ∃ i : Nat, t5 = .int .i64 i ∧ i ≤ s.size ∧ t0 = .int .i64 (Go.Crc.run d (s.data.toList.take i) : Nat)) (fun _ t5 => s.size - (intOf t5).toNat)
  case atStart => exact ⟨0, rfl, by omega, rfl⟩
  case round =>
    obtain ⟨i, rfl, hi, rfl⟩ := hrel
    have hx : Go.Crc.run d (s.data.toList.take i) < 2 ^ 32 := Go.Crc.run_lt _ _ hc1
    by_cases hlt : i < s.size
    · have hlt' : (i : Int) < s.size := by omega
      have hb := byte_lt s[i]
      have hn := Go.Crc.run_snoc d (s.data.toList.take i) s[i]
      rw [← takeL s i hlt] at hn
      have He := hide hn
      clear hn
      generalize Go.Crc.run d (s.data.toList.take i) = x at *
      have hxb : x ^^^ s[i].toNat < 2 ^ 32 := Nat.xor_lt_two_pow hx (by omega)
      have hxe : bits .xor .i64 (x : Int) (s[i].toNat : Int) = ((x ^^^ s[i].toNat : Nat) : Int) := i64_xor_nat _ _ (by omega) (by omega)
      generalize x ^^^ s[i].toNat = y at *
      go_wp2_with fail
      go_loop [0, 6] (fun t0 t6 => ∃ j : Nat, t6 = .int .i64 j ∧ j ≤ 8 ∧ t0 = .int .i64 (Go.Crc.shs j y : Nat)) (fun _ t6 => 8 - (intOf t6).toNat)
      case atStart => exact ⟨0, rfl, by omega, rfl⟩
      case round =>
        obtain ⟨j, rfl, hj, rfl⟩ := hrel
        have hz := Go.Crc.shs_lt j y hxb
        by_cases hlj : j < 8
        · have hlj' : (j : Int) < 8 := by omega
          have HS := hide (fun W => shift_ok (Go.Crc.shs j y) W hz)
          have Hn : Hid (Go.Crc.sh (Go.Crc.shs j y) = Go.Crc.shs (j + 1) y) := rfl
          generalize Go.Crc.shs j y = z at *
          go_wp2_with fail
          refine (HS.out _).mono ?_
          rintro e w1 ⟨rfl, rfl⟩
          go_wp2_with fail
          go_round
          case rel => exact ⟨j + 1, by go_num, by omega, by rw [Hn.out]⟩
          case measure => simp [intOf]; omega
        · have hlj' : (8 : Int) ≤ j := by omega
          obtain rfl : j = 8 := by omega
          go_wp2_with fail
          go_round
          case rel => exact ⟨i + 1, by go_num, by omega, by rw [He.out]⟩
          case measure => simp [intOf]; omega
    · have hle : (s.size : Int) ≤ i := by omega
      obtain rfl : i = s.size := by omega
      have ht : s.data.toList.take s.size = s.data.toList := by rw [← lenL s, List.take_length]
      rw [ht] at hx ⊢
      have hn2 := i64_not _ hx
      rw [← Hc.out] at hn2
      clear ht Hc
      generalize Go.Crc.run d s.data.toList = x at *
      go_wp2_with fail
      go_ret
      exact ⟨rfl, rfl⟩

set_option maxHeartbeats 1000000 in
theorem sumOf_ok (s : ByteArray) (w : World) (hs : s.size ≤ 1000000) : Calls Tryz.prog 30 #[.string s] w fun r w' => r = .returned (.int .i64 (Go.Crc.crc 0 s.data.toList : Nat)) ∧ w' = w := by
  have H := hide (fun W => moreOf_ok 0 s W (by omega) hs)
  generalize Go.Crc.crc 0 s.data.toList = x at *
  go_enter Tryz.func30, Tryz.ntmps30
  go_wp2_with fail
  refine (H.out _).mono ?_
  rintro e w1 ⟨rfl, rfl⟩
  go_wp2_with fail
  go_ret
  exact ⟨rfl, rfl⟩
end Go.Proofs.YtogpjblikphpcaaGreatDoor
