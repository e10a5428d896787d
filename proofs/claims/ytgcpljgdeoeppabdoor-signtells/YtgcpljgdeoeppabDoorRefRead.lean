/-
  Contracts of the document's answer for reading numbers and texts (NumOf, TextOf) over this dump: every text, every place in it.
-/
import Derived.Test.YtgcpljgdeoeppabDoorRefNum
namespace Go.Proofs.YtgcpljgdeoeppabDoor
open Go.RowKit

/-- What NumOf answers: the number, the place behind it, an error's number. -/
def numOfOut (s : ByteArray) (at_ : Nat) : Nat × Nat × Nat :=
  match Go.Num.dec (s.data.toList.drop at_) with
  | .ok (n, k) => (n, at_ + k, 0)
  | .error c => (0, at_, c)

theorem step_by (acc P : Nat) (b : UInt8) (ha : acc < P) (hP : P ≤ 34359738368) : wrap64 ((acc : Int) + wrap64 ((b.toNat : Int) % 128 * (P : Int))) = ((acc + b.toNat % 128 * P : Nat) : Int) := by
  have hm : b.toNat % 128 ≤ 127 := by omega
  have h1 : b.toNat % 128 * P ≤ 127 * P := Nat.mul_le_mul_right _ hm
  have e : (b.toNat : Int) % 128 * (P : Int) = ((b.toNat % 128 * P : Nat) : Int) := by rw [Int.natCast_mul]; simp
  rw [e]
  generalize b.toNat % 128 * P = q at *
  unfold wrap64
  omega

theorem pow_bd (j : Nat) (h : j < 6) : 128 ^ j ≤ 34359738368 := by
  match j, h with
  | 0, _ => decide
  | 1, _ => decide
  | 2, _ => decide
  | 3, _ => decide
  | 4, _ => decide
  | 5, _ => decide

theorem numOf_lt (s : ByteArray) (at_ n i : Nat) (h : Go.Num.scan 6 (s.data.toList.drop at_) 0 0 = some (n, i)) : numOfOut s at_ = if 0 < i ∧ (s.data.toList.drop at_)[i]? = some 0 then (0, at_, 1) else if 1099511627776 < n then (0, at_, 2) else (n, at_ + (i + 1), 0) := by
  unfold numOfOut
  rw [dec_of_scan _ _ _ h]
  split
  · rename_i n' k heq
    split at heq
    · cases heq
    · split at heq
      · cases heq
      · rename_i h1 h2
        cases heq
        rw [if_neg h1, if_neg h2]
  · rename_i c heq
    split at heq
    · rename_i h1
      cases heq
      rw [if_pos h1]
    · rename_i h1
      rw [if_neg h1]
      split at heq
      · rename_i h2
        cases heq
        rw [if_pos h2]
      · cases heq

set_option maxHeartbeats 1000000 in
set_option maxRecDepth 100000 in
theorem numOf_ok (s : ByteArray) (at_ : Nat) (w : World) (hs : s.size ≤ 1000000) (hat : at_ ≤ s.size) :
    Calls Tryd.prog 46 #[.string s, .int .i64 at_] w fun r w' => r = .returned (.tuple #[.int .i64 (numOfOut s at_).1, .int .i64 (numOfOut s at_).2.1, .int .i64 (numOfOut s at_).2.2]) ∧ w' = w := by
  have hs' : (s.size : Int) ≤ 1000000 := by omega
  have hat' : (at_ : Int) ≤ s.size := by omega
  go_enter Tryd.func46, Tryd.ntmps46
  go_wp2_with fail
  go_loop [7, 8, 9] (fun a y b => ∃ j acc P : Nat, a = .int .i64 acc ∧ y = .int .i64 P ∧ b = .int .i64 j ∧ j ≤ 6 ∧ at_ + j ≤ s.size ∧ acc < P ∧ P = 128 ^ j ∧ Hid (Go.Num.scan 6 (s.data.toList.drop at_) 0 0 = Go.Num.scan (6 - j) (s.data.toList.drop (at_ + j)) acc j)) (fun _ _ b => 6 - (intOf b).toNat)
  case atStart => exact ⟨0, 0, 1, rfl, rfl, rfl, by omega, by omega, by omega, by simp, rfl⟩
  case round =>
    obtain ⟨j, acc, P, rfl, rfl, rfl, hj6, hjs, hacc, hP, He⟩ := hrel
    have HP := hide hP
    by_cases h6 : j < 6
    · have hPb : P ≤ 34359738368 := by rw [hP]; exact pow_bd j h6
      have hPb' : (P : Int) ≤ 34359738368 := by omega
      have h6' : (j : Int) < 6 := by omega
      clear hP
      by_cases hlt : at_ + j < s.size
      · have hlt' : (at_ : Int) + j < s.size := by omega
        have he := He.out
        rw [dropL s (at_ + j) hlt, show 6 - j = (5 - j) + 1 by omega] at he
        have hw := byte_wrap s[at_ + j]
        have hsv := hide (step_by acc P s[at_ + j] hacc hPb)
        by_cases hb : (s[at_ + j]).toNat < 128
        · have hb' : ((s[at_ + j]).toNat : Int) < 128 := by omega
          rw [scan_end _ _ _ _ _ hb] at he
          have hno := numOf_lt s at_ _ _ he
          have hix : (s.data.toList.drop at_)[j]? = some s[at_ + j] := by rw [List.getElem?_drop]; exact getL s (at_ + j) hlt
          rw [hix] at hno
          by_cases hb0 : (s[at_ + j]).toNat = 0
          · by_cases hj0 : 0 < j
            · have hj0' : (0 : Int) < j := by omega
              rw [if_pos ⟨hj0, congrArg some (UInt8.toNat_inj.1 (by simpa using hb0))⟩] at hno
              have Hno := hide hno
              have hc0 : (((s[at_ + j]).toNat : Int) == 0) = true := by simp [hb0]
              clear hno he hix hb hsv He HP
              go_wp2_with fail
              go_ret3
              rw [Hno.out]
              exact ⟨rfl, rfl⟩
            · have hd0 : (j : Int) ≤ 0 := by omega
              have hj : j = 0 := by omega
              have hP1 : P = 1 := by have := HP.out; rw [hj] at this; simpa using this
              have ha0 : acc = 0 := by omega
              have hv0 : wrap64 ((acc : Int) + wrap64 0) = 0 := by rw [ha0]; unfold wrap64; omega
              rw [if_neg (by omega), hb0, if_neg (by simp [ha0])] at hno
              have hno2 : numOfOut s at_ = (0, at_ + (j + 1), 0) := by rw [hno, ha0]; simp
              have Hno := hide hno2
              have hc0 : (((s[at_ + j]).toNat : Int) == 0) = true := by simp [hb0]
              have HA0 := hide ha0
              clear hno hno2 he hix hb hsv He HP hj hP1 ha0 hj0
              go_wp2_with fail
              go_ret3
              rw [Hno.out]
              have := HA0.out
              exact ⟨by simp; omega, rfl⟩
          · rw [if_neg (fun hh => hb0 (by rw [Option.some.inj hh.2]; rfl))] at hno
            have hc0 : (((s[at_ + j]).toNat : Int) == 0) = false := by simp; omega
            have hs2 := hsv.out
            generalize hN : acc + (s[at_ + j]).toNat % 128 * P = N at *
            have hN2 : acc + (s[at_ + j]).toNat % 128 * 128 ^ j = N := by rw [← HP.out]; exact hN
            rw [hN2] at hno
            clear hN hN2
            by_cases h9 : 1099511627776 < N
            · have h9' : (1099511627776 : Int) < N := by omega
              rw [if_pos h9] at hno
              have Hno := hide hno
              clear hno he hix hb hsv He HP hb0
              go_wp2_with fail
              go_ret3
              rw [Hno.out]
              exact ⟨rfl, rfl⟩
            · have h9' : (N : Int) ≤ 1099511627776 := by omega
              rw [if_neg h9] at hno
              have Hno := hide hno
              clear hno he hix hb hsv He HP hb0
              go_wp2_with fail
              go_ret3
              rw [Hno.out]
              exact ⟨by simp; omega, rfl⟩
        · have hb' : (128 : Int) ≤ ((s[at_ + j]).toNat : Int) := by omega
          rw [scan_next _ _ _ _ _ hb] at he
          have Hn := hide he
          have hl := step_lt acc j ((s[at_ + j]).toNat % 128) (by rw [← HP.out]; exact hacc) (by omega)
          have Hl := hide hl
          clear he hl He
          have hs2 := hsv.out
          go_wp2_with fail
          go_round
          case rel =>
            refine ⟨j + 1, acc + (s[at_ + j]).toNat % 128 * P, P * 128, by rw [hsv.out], by go_num, by go_num, by omega, by omega, ?_, ?_, ?_⟩
            · rw [HP.out, ← Nat.pow_succ]; exact Hl.out
            · rw [HP.out, Nat.pow_succ]
            · rw [show 6 - (j + 1) = 5 - j by omega]
              rw [HP.out]
              exact Hn.out
          case measure => simp [intOf]; omega
      · have hlt' : (s.size : Int) ≤ (at_ : Int) + j := by omega
        have he := He.out
        have hj : s.data.toList.drop (at_ + j) = [] := by rw [List.drop_eq_nil_iff, lenL]; omega
        have hk : Go.Num.scan (6 - j) [] acc j = none := by cases 6 - j <;> rfl
        rw [hj, hk] at he
        have hfin : numOfOut s at_ = (0, at_, 1) := by unfold numOfOut; rw [dec_of_none _ he]
        have Hfin := hide hfin
        clear he He hj hk hfin
        go_wp2_with fail
        go_ret3
        rw [Hfin.out]
        exact ⟨rfl, rfl⟩
    · have h6' : (6 : Int) ≤ j := by omega
      have he := He.out
      rw [show 6 - j = 0 by omega, Go.Num.scan] at he
      have hfin : numOfOut s at_ = (0, at_, 1) := by unfold numOfOut; rw [dec_of_none _ he]
      have Hfin := hide hfin
      clear he He hfin hP
      go_wp2_with fail
      go_ret3
      rw [Hfin.out]
      exact ⟨rfl, rfl⟩
end Go.Proofs.YtgcpljgdeoeppabDoor
