/-
  Contract of the document's answer over this dump: IsName.
  Contract of the document's Byte over this dump.
  Contract of the document's Decimal over this dump.
-/
import Derived.Test.YtogpjblikphpcaaGreatDoorFilesMath
import Derived.Deep.DeepCutAuto
import Derived.Test.YtogpjblikphpcaaGreatDoorBase
import Derived.Laws.BytesArg
import Derived.Test.YtogpjblikphpcaaGreatDoorDigits
import Derived.Deep.QuietTactic
import Derived.BigQuiet
import Derived.WalkSmall
namespace Go.Proofs.YtogpjblikphpcaaGreatDoor
open Go.RowKit
open Go.Files (okc isNm)

theorem all_take (s : ByteArray) (j : Nat) (h : j < s.size) : (s.data.toList.take (j + 1)).all okc = ((s.data.toList.take j).all okc && okc s[j]) := by
  rw [takeL s j h, List.all_append]
  simp
theorem all_false {s : ByteArray} {j : Nat} (h : j < s.size) (hc : okc s[j] = false) : s.data.toList.all okc = false := by
  rw [List.all_eq_false]
  exact ⟨s[j], by rw [← atL s j h]; exact List.getElem_mem _, by simp [hc]⟩
theorem isNm_all {s : ByteArray} (h : s.data.toList.all okc = true) : isNm s = (decide (1 ≤ s.size) && decide (s.size ≤ 12)) := by
  unfold isNm
  rw [h]
  rfl
theorem isNm_false {s : ByteArray} (h : s.data.toList.all okc = false) : isNm s = false := by
  unfold isNm
  rw [h]
  rfl

set_option maxHeartbeats 2000000 in
set_option maxRecDepth 100000 in
theorem isName_ok (s : ByteArray) (w : World) (hs : s.size ≤ 1000000) : Calls Tryz.prog 29 #[.string s] w fun r w' => r = .returned (.bool (isNm s)) ∧ w' = w := by
  have hs' : (s.size : Int) ≤ 1000000 := by omega
  have HF := hide (fun j h hc => all_false (s := s) (j := j) h hc)
  have HA := hide (isNm_all (s := s))
  have HN := hide (isNm_false (s := s))
  have HT := hide (all_take s)
  have H0 : Hid ((s.data.toList.take s.size) = s.data.toList) := by rw [← lenL s, List.take_length]; exact rfl
  go_enter Tryz.func29, Tryz.ntmps29
  go_wp2_with fail
  go_loop [3] (fun t => ∃ j : Nat, t = .int .i64 j ∧ j ≤ s.size ∧ Hid ((s.data.toList.take j).all okc = true)) (fun t => s.size - (intOf t).toNat)
  case atStart => exact ⟨0, rfl, by omega, by simp [Hid]⟩
  case round =>
    obtain ⟨j, rfl, hj, Hj⟩ := hrel
    by_cases hlt : j < s.size
    · have hlt' : (j : Int) < s.size := by omega
      have hb := byte_lt s[j]
      have hF := HF.out j hlt
      have hT := HT.out j hlt
      rw [Hj.out, Bool.true_and] at hT
      have ho : okc s[j] = ((decide (97 ≤ s[j].toNat) && decide (s[j].toNat ≤ 122)) || (decide (48 ≤ s[j].toNat) && decide (s[j].toNat ≤ 57)) || decide (s[j].toNat = 46) || decide (s[j].toNat = 45)) := rfl
      have Ho := hide ho
      have HT' := hide hT
      have HF' := hide hF
      clear hF hT HF HT HA H0 ho
      go_upto_region 4 with fail
      go_cut [4] (fun v4 wc => v4 = .bool (decide (97 ≤ s[j].toNat) && decide (s[j].toNat ≤ 122)) ∧ wc = w)
      case first =>
        by_cases a1 : 97 ≤ s[j].toNat
        · have a1' : (97 : Int) ≤ s[j].toNat := by omega
          go_wp2_with fail
          go_meet
          case rel => exact ⟨by simp [a1]; omega, rfl⟩
        · have a1' : (s[j].toNat : Int) < 97 := by omega
          go_wp2_with fail
          go_meet
          case rel => exact ⟨by simp [a1], rfl⟩
      case rest =>
        obtain ⟨rfl, rfl⟩ := hcut
        go_upto_region 5 with fail
        go_cut [5] (fun v5 wd => v5 = .bool (decide (48 ≤ s[j].toNat) && decide (s[j].toNat ≤ 57)) ∧ wd = wc)
        case first =>
          by_cases a1 : 48 ≤ s[j].toNat
          · have a1' : (48 : Int) ≤ s[j].toNat := by omega
            go_wp2_with fail
            go_meet
            case rel => exact ⟨by simp [a1]; omega, rfl⟩
          · have a1' : (s[j].toNat : Int) < 48 := by omega
            go_wp2_with fail
            go_meet
            case rel => exact ⟨by simp [a1], rfl⟩
        case rest =>
          obtain ⟨rfl, rfl⟩ := hcut
          generalize (decide (97 ≤ s[j].toNat) && decide (s[j].toNat ≤ 122)) = L at *
          generalize (decide (48 ≤ s[j].toNat) && decide (s[j].toNat ≤ 57)) = D at *
          go_upto_region 6 with fail
          go_cut [49] (fun v49 we => v49 = .bool (!(okc s[j])) ∧ we = wc)
          case first =>
            cases L with
            | true =>
              go_wp2_with fail
              go_meet
              case rel => exact ⟨by rw [Ho.out]; rfl, rfl⟩
            | false =>
              cases D with
              | true =>
                go_wp2_with fail
                go_meet
                case rel => exact ⟨by rw [Ho.out]; rfl, rfl⟩
              | false =>
                by_cases e1 : s[j].toNat = 46
                · have e1' : ((s[j].toNat : Int) != 46) = false := by simp; omega
                  go_wp2_with fail
                  go_meet
                  case rel => exact ⟨by rw [Ho.out]; simp [e1], rfl⟩
                · have e1' : ((s[j].toNat : Int) != 46) = true := by simp; omega
                  go_wp2_with fail
                  go_meet
                  case rel => exact ⟨by rw [Ho.out, Value.bool.injEq, Bool.eq_iff_iff]; simp [e1]; omega, rfl⟩
          case rest =>
            obtain ⟨rfl, rfl⟩ := hcut
            cases hok : okc s[j] with
            | true =>
              have HT2 := hide (HT'.out.trans hok)
              clear HT' HF' Ho
              go_wp2_with fail
              go_round
              case rel => exact ⟨j + 1, by go_num, by omega, HT2.out⟩
              case measure => simp [intOf]; omega
            | false =>
              have HF2 := hide (HN.out (HF'.out hok))
              clear HT' HF' Ho
              go_wp2_with fail
              go_ret
              exact ⟨ret_bool HF2.out.symm, rfl⟩
    · have hle : (s.size : Int) ≤ j := by omega
      obtain rfl : j = s.size := by omega
      have hA := Hj.out
      rw [H0.out] at hA
      have HA' := hide (HA.out hA)
      clear hA Hj HA HN HF HT H0
      by_cases h1 : 1 ≤ s.size
      · have h1' : (1 : Int) ≤ s.size := by omega
        go_wp2_with fail
        go_ret
        exact ⟨ret_bool (by rw [HA'.out]; simp [h1]; omega), rfl⟩
      · have h1' : (s.size : Int) < 1 := by omega
        go_wp2_with fail
        go_ret
        exact ⟨ret_bool (by rw [HA'.out]; simp [h1]), rfl⟩
end Go.Proofs.YtogpjblikphpcaaGreatDoor

namespace Go.Proofs.YtogpjblikphpcaaGreatDoor
open Go.RowKit

set_option maxHeartbeats 400000 in
set_option maxRecDepth 100000 in
theorem byte_ok (n : Int) (w : World) (h0 : 0 ≤ n) (h1 : n < 256) : Calls Tryz.prog 94 #[.int .i64 n] w fun r w' => r = .returned (.string (str [UInt8.ofNat n.toNat])) ∧ Below w.heap.size w w' := by
  have hcv := run_convert_bytes_arg (P := Tryz.prog) (w.alloc (.cells #[.int .u8 n] 5)) 90 5 Tryz.underlying90 Tryz.underlying5 w.heap.size 0 1 1 [n] rfl (fun i hi => by
    have : i = 0 := by omega
    subst this; simp) 9 Tryz.underlying9
  have e : strOfNums [n] = str [UInt8.ofNat n.toNat] := rfl
  rw [e] at hcv
  go_enter Tryz.func94, Tryz.ntmps94
  go_wp2
  go_ret
  exact ⟨rfl, (Below.refl _ _).alloc (Nat.le_refl _) _⟩

end Go.Proofs.YtogpjblikphpcaaGreatDoor

namespace Go.Proofs.YtogpjblikphpcaaGreatDoor
open Go.RowKit
open Go.Digits (digits digits_small digits_big)

set_option maxHeartbeats 1000000 in
set_option maxRecDepth 100000 in
theorem below_ok (m : Nat) (hm : m ≤ 99999999999) : ∀ W, Calls Tryz.prog 71 #[.int .i64 (-(m : Int))] W fun r w' => r = .returned (.string (str (digits m))) ∧ Below W.heap.size W w' := by
  induction m using Nat.strongRecOn with
  | _ m ih =>
    intro W
    by_cases h : m < 10
    · have hB := hide (byte_ok (48 + m) W (by omega) (by omega))
      have e : (48 + (m : Int)).toNat = 48 + m := by omega
      rw [e, ← digits_small h] at hB
      have h1 : (-10 : Int) < -m := by omega
      have h2 : IntKind.i64.wrap (48 - -(m : Int)) = 48 + m := by rw [show (48 - -(m : Int)) = 48 + m by omega]; exact iwrap_id _ (by omega) (by omega)
      generalize str (digits m) = S at *
      clear ih e
      go_enter Tryz.func71, Tryz.ntmps71
      go_wp2_with fail
      refine hB.out.mono ?_
      rintro r w1 ⟨rfl, hb1⟩
      have Hb1 := hide hb1
      clear hb1 hB
      go_wp2_with fail
      go_ret
      exact ⟨rfl, Hb1.out⟩
    · have hI := hide (ih (m / 10) (by omega) (by omega))
      have hB := hide (fun W => byte_ok (48 + (m % 10 : Nat)) W (by omega) (by omega))
      have e : (48 + ((m % 10 : Nat) : Int)).toNat = 48 + m % 10 := by omega
      rw [e] at hB
      have h1 : (-(m : Int)) ≤ -10 := by omega
      have h2 : (-(m : Int)).tdiv 10 = -((m / 10 : Nat) : Int) := by rw [Int.neg_tdiv]; rfl
      have h3 : (-(m : Int)).tmod 10 = -((m % 10 : Nat) : Int) := by rw [Int.neg_tmod]; rfl
      have hR : Hid (str (digits (m / 10)) ++ str [UInt8.ofNat (48 + m % 10)] = str (digits m)) := by rw [digits_big (n := m) (by omega), str_app]; exact rfl
      have hx : (str (digits (m / 10))).size ≤ 11 := by rw [str_len]; exact (Go.Digits.digits_length _ 10 (by omega))
      have hy : (str [UInt8.ofNat (48 + m % 10)]).size ≤ 1 := by rw [str_len]; simp
      generalize str (digits m) = S at *
      generalize str (digits (m / 10)) = X at *
      generalize str [UInt8.ofNat (48 + m % 10)] = Y at *
      clear ih e
      go_enter Tryz.func71, Tryz.ntmps71
      go_wp2_with fail
      rw [show (-((m / 10 : Nat) : Int)) = -((m : Int) / 10) by omega] at hI
      rw [show (48 + ((m % 10 : Nat) : Int)) = 48 + (m : Int) % 10 by omega] at hB
      have h4 : IntKind.i64.wrap (48 + (m : Int) % 10) = 48 + (m : Int) % 10 := iwrap_id _ (by omega) (by omega)
      refine (hI.out _).mono ?_
      rintro r w1 ⟨rfl, hb1⟩
      have Hb1 := hide hb1
      clear hb1 hI
      go_wp2_with fail
      refine (hB.out _).mono ?_
      rintro r w2 ⟨rfl, hb2⟩
      have Hb2 := hide (bthen Hb1.out hb2)
      clear hb2 Hb1 hB
      have hz := hR.out
      go_wp2_with fail
      go_ret
      exact ⟨rfl, Hb2.out⟩

set_option maxHeartbeats 1000000 in
set_option maxRecDepth 100000 in
theorem decimal_ok (n : Int) (W : World) (h0 : 0 ≤ n) (h1 : n ≤ 99999999999) : Calls Tryz.prog 46 #[.int .i64 n] W fun r w' => r = .returned (.string (str (digits n.toNat))) ∧ Below W.heap.size W w' := by
  obtain ⟨m, rfl⟩ := Int.eq_ofNat_of_zero_le h0
  have HB := hide (below_ok m (by omega) W)
  rw [Int.toNat_natCast]
  generalize str (digits m) = S at *
  have hw : IntKind.i64.wrap (-(m : Int)) = -m := iwrap_id _ (by omega) (by omega)
  go_enter Tryz.func46, Tryz.ntmps46
  go_wp2_with fail
  refine HB.out.mono ?_
  rintro r w1 ⟨rfl, hb1⟩
  have Hb1 := hide hb1
  clear hb1 HB
  go_wp2_with fail
  go_ret
  exact ⟨rfl, Hb1.out⟩
end Go.Proofs.YtogpjblikphpcaaGreatDoor
