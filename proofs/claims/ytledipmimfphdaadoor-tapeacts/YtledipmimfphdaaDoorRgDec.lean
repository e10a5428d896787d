/-
  Contract of the document's Decimal over this dump.
-/
import Derived.Test.YtledipmimfphdaaDoorByteS
import Derived.Test.YtledipmimfphdaaDoorDigits
import Derived.Deep.QuietTactic
import Derived.BigQuiet
import Derived.WalkSmall
namespace Go.Proofs.YtledipmimfphdaaDoor
open Go.RowKit
open Go.Digits (digits digits_small digits_big)

set_option maxHeartbeats 1000000 in
set_option maxRecDepth 100000 in
theorem below_ok (m : Nat) (hm : m ≤ 99999999999) : ∀ W, Calls Tryd.prog 46 #[.int .i64 (-(m : Int))] W fun r w' => r = .returned (.string (str (digits m))) ∧ Below W.heap.size W w' := by
  induction m using Nat.strongRecOn with
  | _ m ih =>
    intro W
    by_cases h : m < 10
    · have hB := hide (byte_ok (48 + m) W (by omega) (by omega))
      have e : (48 + (m : Int)).toNat = 48 + m := by omega
      rw [e, ← digits_small h] at hB
      have h1 : (-10 : Int) < -m := by omega
      have h2 : IntKind.i64.wrap (48 - -(m : Int)) = 48 + m := by rw [show (48 - -(m : Int)) = 48 + m by omega]; exact iwrap_id _ (by omega) (by omega)
      generalize str (digits m) = S at *
      clear ih e
      go_enter Tryd.func46, Tryd.ntmps46
      go_wp2_with fail
      refine hB.out.mono ?_
      rintro r w1 ⟨rfl, hb1⟩
      have Hb1 := hide hb1
      clear hb1 hB
      go_wp2_with fail
      go_ret
      exact ⟨rfl, Hb1.out⟩
    · have hI := hide (ih (m / 10) (by omega) (by omega))
      have hB := hide (fun W => byte_ok (48 + (m % 10 : Nat)) W (by omega) (by omega))
      have e : (48 + ((m % 10 : Nat) : Int)).toNat = 48 + m % 10 := by omega
      rw [e] at hB
      have h1 : (-(m : Int)) ≤ -10 := by omega
      have h2 : (-(m : Int)).tdiv 10 = -((m / 10 : Nat) : Int) := by rw [Int.neg_tdiv]; rfl
      have h3 : (-(m : Int)).tmod 10 = -((m % 10 : Nat) : Int) := by rw [Int.neg_tmod]; rfl
      have hR : Hid (str (digits (m / 10)) ++ str [UInt8.ofNat (48 + m % 10)] = str (digits m)) := by rw [digits_big (n := m) (by omega), str_app]; exact rfl
      have hx : (str (digits (m / 10))).size ≤ 11 := by rw [str_len]; exact (Go.Digits.digits_length _ 10 (by omega))
      have hy : (str [UInt8.ofNat (48 + m % 10)]).size ≤ 1 := by rw [str_len]; simp
      generalize str (digits m) = S at *
      generalize str (digits (m / 10)) = X at *
      generalize str [UInt8.ofNat (48 + m % 10)] = Y at *
      clear ih e
      go_enter Tryd.func46, Tryd.ntmps46
      go_wp2_with fail
      rw [show (-((m / 10 : Nat) : Int)) = -((m : Int) / 10) by omega] at hI
      rw [show (48 + ((m % 10 : Nat) : Int)) = 48 + (m : Int) % 10 by omega] at hB
      have h4 : IntKind.i64.wrap (48 + (m : Int) % 10) = 48 + (m : Int) % 10 := iwrap_id _ (by omega) (by omega)
      refine (hI.out _).mono ?_
      rintro r w1 ⟨rfl, hb1⟩
      have Hb1 := hide hb1
      clear hb1 hI
      go_wp2_with fail
      refine (hB.out _).mono ?_
      rintro r w2 ⟨rfl, hb2⟩
      have Hb2 := hide (bthen Hb1.out hb2)
      clear hb2 Hb1 hB
      have hz := hR.out
      go_wp2_with fail
      go_ret
      exact ⟨rfl, Hb2.out⟩

set_option maxHeartbeats 1000000 in
set_option maxRecDepth 100000 in
theorem decimal_ok (n : Int) (W : World) (h0 : 0 ≤ n) (h1 : n ≤ 99999999999) : Calls Tryd.prog 34 #[.int .i64 n] W fun r w' => r = .returned (.string (str (digits n.toNat))) ∧ Below W.heap.size W w' := by
  obtain ⟨m, rfl⟩ := Int.eq_ofNat_of_zero_le h0
  have HB := hide (below_ok m (by omega) W)
  rw [Int.toNat_natCast]
  generalize str (digits m) = S at *
  have hw : IntKind.i64.wrap (-(m : Int)) = -m := iwrap_id _ (by omega) (by omega)
  go_enter Tryd.func34, Tryd.ntmps34
  go_wp2_with fail
  refine HB.out.mono ?_
  rintro r w1 ⟨rfl, hb1⟩
  have Hb1 := hide hb1
  clear hb1 HB
  go_wp2_with fail
  go_ret
  exact ⟨rfl, Hb1.out⟩
end Go.Proofs.YtledipmimfphdaaDoor
