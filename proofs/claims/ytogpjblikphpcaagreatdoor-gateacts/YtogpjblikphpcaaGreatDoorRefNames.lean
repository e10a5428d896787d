/-
  Contract of the document's answer over this dump: IsName.
-/
import Derived.Test.YtogpjblikphpcaaGreatDoorFilesMath
import Derived.Deep.DeepCutAuto
namespace Go.Proofs.YtogpjblikphpcaaGreatDoor
open Go.RowKit
open Go.Files (okc isNm)

theorem all_take (s : ByteArray) (j : Nat) (h : j < s.size) : (s.data.toList.take (j + 1)).all okc = ((s.data.toList.take j).all okc && okc s[j]) := by
  rw [takeL s j h, List.all_append]
  simp
theorem all_false {s : ByteArray} {j : Nat} (h : j < s.size) (hc : okc s[j] = false) : s.data.toList.all okc = false := by
  rw [List.all_eq_false]
  exact ⟨s[j], by rw [← atL s j h]; exact List.getElem_mem _, by simp [hc]⟩
theorem isNm_all {s : ByteArray} (h : s.data.toList.all okc = true) : isNm s = (decide (1 ≤ s.size) && decide (s.size ≤ 12)) := by
  unfold isNm
  rw [h]
  rfl
theorem isNm_false {s : ByteArray} (h : s.data.toList.all okc = false) : isNm s = false := by
  unfold isNm
  rw [h]
  rfl

set_option maxHeartbeats 2000000 in
set_option maxRecDepth 100000 in
theorem isName_ok (s : ByteArray) (w : World) (hs : s.size ≤ 1000000) : Calls Tryz.prog 29 #[.string s] w fun r w' => r = .returned (.bool (isNm s)) ∧ w' = w := by
  have hs' : (s.size : Int) ≤ 1000000 := by omega
  have HF := hide (fun j h hc => all_false (s := s) (j := j) h hc)
  have HA := hide (isNm_all (s := s))
  have HN := hide (isNm_false (s := s))
  have HT := hide (all_take s)
  have H0 : Hid ((s.data.toList.take s.size) = s.data.toList) := by rw [← lenL s, List.take_length]; exact rfl
  go_enter Tryz.func29, Tryz.ntmps29
  go_wp2_with fail
  go_loop [3] (fun t => ∃ j : Nat, t = .int .i64 j ∧ j ≤ s.size ∧ Hid ((s.data.toList.take j).all okc = true)) (fun t => s.size - (intOf t).toNat)
  case atStart => exact ⟨0, rfl, by omega, by simp [Hid]⟩
  case round =>
    obtain ⟨j, rfl, hj, Hj⟩ := hrel
    by_cases hlt : j < s.size
    · have hlt' : (j : Int) < s.size := by omega
      have hb := byte_lt s[j]
      have hF := HF.out j hlt
      have hT := HT.out j hlt
      rw [Hj.out, Bool.true_and] at hT
      have ho : okc s[j] = ((decide (97 ≤ s[j].toNat) && decide (s[j].toNat ≤ 122)) || (decide (48 ≤ s[j].toNat) && decide (s[j].toNat ≤ 57)) || decide (s[j].toNat = 46) || decide (s[j].toNat = 45)) := rfl
      have Ho := hide ho
      have HT' := hide hT
      have HF' := hide hF
      clear hF hT HF HT HA H0 ho
      go_upto_region 4 with fail
      go_cut [4] (fun v4 wc => v4 = .bool (decide (97 ≤ s[j].toNat) && decide (s[j].toNat ≤ 122)) ∧ wc = w)
      case first =>
        by_cases a1 : 97 ≤ s[j].toNat
        · have a1' : (97 : Int) ≤ s[j].toNat := by omega
          go_wp2_with fail
          go_meet
          case rel => exact ⟨by simp [a1]; omega, rfl⟩
        · have a1' : (s[j].toNat : Int) < 97 := by omega
          go_wp2_with fail
          go_meet
          case rel => exact ⟨by simp [a1], rfl⟩
      case rest =>
        obtain ⟨rfl, rfl⟩ := hcut
        go_upto_region 5 with fail
        go_cut [5] (fun v5 wd => v5 = .bool (decide (48 ≤ s[j].toNat) && decide (s[j].toNat ≤ 57)) ∧ wd = wc)
        case first =>
          by_cases a1 : 48 ≤ s[j].toNat
          · have a1' : (48 : Int) ≤ s[j].toNat := by omega
            go_wp2_with fail
            go_meet
            case rel => exact ⟨by simp [a1]; omega, rfl⟩
          · have a1' : (s[j].toNat : Int) < 48 := by omega
            go_wp2_with fail
            go_meet
            case rel => exact ⟨by simp [a1], rfl⟩
        case rest =>
          obtain ⟨rfl, rfl⟩ := hcut
          generalize (decide (97 ≤ s[j].toNat) && decide (s[j].toNat ≤ 122)) = L at *
          generalize (decide (48 ≤ s[j].toNat) && decide (s[j].toNat ≤ 57)) = D at *
          go_upto_region 6 with fail
          go_cut [49] (fun v49 we => v49 = .bool (!(okc s[j])) ∧ we = wc)
          case first =>
            cases L with
            | true =>
              go_wp2_with fail
              go_meet
              case rel => exact ⟨by rw [Ho.out]; rfl, rfl⟩
            | false =>
              cases D with
              | true =>
                go_wp2_with fail
                go_meet
                case rel => exact ⟨by rw [Ho.out]; rfl, rfl⟩
              | false =>
                by_cases e1 : s[j].toNat = 46
                · have e1' : ((s[j].toNat : Int) != 46) = false := by simp; omega
                  go_wp2_with fail
                  go_meet
                  case rel => exact ⟨by rw [Ho.out]; simp [e1], rfl⟩
                · have e1' : ((s[j].toNat : Int) != 46) = true := by simp; omega
                  go_wp2_with fail
                  go_meet
                  case rel => exact ⟨by rw [Ho.out, Value.bool.injEq, Bool.eq_iff_iff]; simp [e1]; omega, rfl⟩
          case rest =>
            obtain ⟨rfl, rfl⟩ := hcut
            cases hok : okc s[j] with
            | true =>
              have HT2 := hide (HT'.out.trans hok)
              clear HT' HF' Ho
              go_wp2_with fail
              go_round
              case rel => exact ⟨j + 1, by go_num, by omega, HT2.out⟩
              case measure => simp [intOf]; omega
            | false =>
              have HF2 := hide (HN.out (HF'.out hok))
              clear HT' HF' Ho
              go_wp2_with fail
              go_ret
              exact ⟨ret_bool HF2.out.symm, rfl⟩
    · have hle : (s.size : Int) ≤ j := by omega
      obtain rfl : j = s.size := by omega
      have hA := Hj.out
      rw [H0.out] at hA
      have HA' := hide (HA.out hA)
      clear hA Hj HA HN HF HT H0
      by_cases h1 : 1 ≤ s.size
      · have h1' : (1 : Int) ≤ s.size := by omega
        go_wp2_with fail
        go_ret
        exact ⟨ret_bool (by rw [HA'.out]; simp [h1]; omega), rfl⟩
      · have h1' : (s.size : Int) < 1 := by omega
        go_wp2_with fail
        go_ret
        exact ⟨ret_bool (by rw [HA'.out]; simp [h1]), rfl⟩
end Go.Proofs.YtogpjblikphpcaaGreatDoor
