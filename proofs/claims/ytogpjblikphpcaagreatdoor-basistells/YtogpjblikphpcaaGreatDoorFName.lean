/-
  Contracts of files.isNameByte, Name over this dump.
-/
import Derived.Test.YtogpjblikphpcaaGreatDoorFilesMath
import Derived.Deep.DeepCutAuto
namespace Go.Proofs.YtogpjblikphpcaaGreatDoor
open Go.RowKit
open Go.Files (okc isNm)

theorem nmb_take (s : ByteArray) (j : Nat) (h : j < s.size) : (s.data.toList.take (j + 1)).all okc = ((s.data.toList.take j).all okc && okc s[j]) := by
  rw [takeL s j h, List.all_append]
  simp
theorem nmb_false {s : ByteArray} {j : Nat} (h : j < s.size) (hc : okc s[j] = false) : isNm s = false := by
  have : s.data.toList.all okc = false := by
    rw [List.all_eq_false]
    exact ⟨s[j], by rw [← atL s j h]; exact List.getElem_mem _, by simp [hc]⟩
  unfold isNm
  rw [this]
  rfl
theorem nmb_true {s : ByteArray} (h : (s.data.toList.take s.size).all okc = true) (h1 : 1 ≤ s.size) (h2 : s.size ≤ 12) : isNm s = true := by
  rw [← lenL s, List.take_length] at h
  unfold isNm
  rw [h, decide_eq_true h1, decide_eq_true h2]
  rfl
theorem nmb_long {s : ByteArray} (h : 12 < s.size) : isNm s = false := by
  unfold isNm
  rw [decide_eq_false (by omega : ¬ s.size ≤ 12), Bool.and_false, Bool.and_false]

set_option maxHeartbeats 1000000 in
set_option maxRecDepth 100000 in
theorem nameByte_ok (n : Nat) (c : Bool) (hn : n < 256) (w : World) (hc : c = ((decide (97 ≤ n) && decide (n ≤ 122)) || (decide (48 ≤ n) && decide (n ≤ 57)) || decide (n = 46) || decide (n = 45))) :
    Calls Tryz.prog 70 #[.int .u8 n] w fun r w' => r = .returned (.bool c) ∧ w' = w := by
  have Hc := hide hc
  clear hc
  by_cases a1 : 97 ≤ n
  · have a1' : (97 : Int) ≤ n := by omega
    by_cases a2 : n ≤ 122
    · have a2' : (n : Int) ≤ 122 := by omega
      go_enter Tryz.func70, Tryz.ntmps70
      go_wp2
      go_ret
      exact ⟨ret_bool (by rw [Hc.out]; simp [a1, a2]), rfl⟩
    · have a2' : (122 : Int) < n := by omega
      have a3' : (48 : Int) ≤ n := by omega
      have a4' : (57 : Int) < n := by omega
      have e1 : ((n : Int) == 46) = false := by simp; omega
      have e2 : ((n : Int) == 45) = false := by simp; omega
      go_enter Tryz.func70, Tryz.ntmps70
      go_wp2
      go_ret
      exact ⟨ret_bool (by rw [Hc.out, Bool.eq_iff_iff]; simp; omega), rfl⟩
  · have a1' : (n : Int) < 97 := by omega
    by_cases a3 : 48 ≤ n
    · have a3' : (48 : Int) ≤ n := by omega
      by_cases a4 : n ≤ 57
      · have a4' : (n : Int) ≤ 57 := by omega
        go_enter Tryz.func70, Tryz.ntmps70
        go_wp2
        go_ret
        exact ⟨ret_bool (by rw [Hc.out, Bool.eq_iff_iff]; simp; omega), rfl⟩
      · have a4' : (57 : Int) < n := by omega
        have e1 : ((n : Int) == 46) = false := by simp; omega
        have e2 : ((n : Int) == 45) = false := by simp; omega
        go_enter Tryz.func70, Tryz.ntmps70
        go_wp2
        go_ret
        exact ⟨ret_bool (by rw [Hc.out, Bool.eq_iff_iff]; simp; omega), rfl⟩
    · have a3' : (n : Int) < 48 := by omega
      by_cases e : n = 46
      · subst e
        go_enter Tryz.func70, Tryz.ntmps70
        go_wp2
        go_ret
        exact ⟨ret_bool (by rw [Hc.out]; rfl), rfl⟩
      · have e1 : ((n : Int) == 46) = false := by simp; omega
        go_enter Tryz.func70, Tryz.ntmps70
        go_wp2
        go_ret
        exact ⟨ret_bool (by rw [Hc.out, Bool.eq_iff_iff]; simp; omega), rfl⟩

set_option maxHeartbeats 2000000 in
set_option maxRecDepth 100000 in
theorem name_ok (s : ByteArray) (w : World) (hs : s.size ≤ 1000000) : Calls Tryz.prog 43 #[.string s] w fun r w' => r = .returned (.bool (isNm s)) ∧ w' = w := by
  by_cases h0 : s.size = 0
  · obtain rfl : s = ⟨#[]⟩ := by
      cases s with
      | mk d => simp only [ByteArray.size] at h0; rw [Array.size_eq_zero_iff.1 h0]
    go_enter Tryz.func43, Tryz.ntmps43
    go_wp2
    go_ret
    exact ⟨rfl, rfl⟩
  · have hne : s.toList.isEmpty = false := by
      rw [ByteArray.toList_eq, List.isEmpty_eq_false_iff]
      intro e
      have := lenL s
      rw [e] at this
      simp at this
      omega
    by_cases h12 : 12 < s.size
    · have h12' : (12 : Int) < s.size := by omega
      have HL := hide (nmb_long h12)
      clear h0 h12
      go_enter Tryz.func43, Tryz.ntmps43
      go_wp2
      go_ret
      exact ⟨ret_bool HL.out.symm, rfl⟩
    · have h12' : (s.size : Int) ≤ 12 := by omega
      have HF := hide (fun j h hc => nmb_false (s := s) (j := j) h hc)
      have HT := hide (nmb_take s)
      have HA : Hid ((s.data.toList.take s.size).all okc = true → isNm s = true) := fun h => nmb_true h (by omega) (by omega)
      clear h12
      go_enter Tryz.func43, Tryz.ntmps43
      go_wp2_with fail
      go_loop [13] (fun t => ∃ j : Nat, t = .int .i64 j ∧ j ≤ s.size ∧ Hid ((s.data.toList.take j).all okc = true)) (fun t => s.size - (intOf t).toNat)
      case atStart => exact ⟨0, rfl, by omega, by simp [Hid]⟩
      case round =>
        obtain ⟨j, rfl, hj, Hj⟩ := hrel
        by_cases hlt : j < s.size
        · have hlt' : (j : Int) < s.size := by omega
          have hF := HF.out j hlt
          have hT := HT.out j hlt
          rw [Hj.out, Bool.true_and] at hT
          have HB := hide (fun W => nameByte_ok s[j].toNat (okc s[j]) (byte_lt s[j]) W rfl)
          have HT' := hide hT
          have HF' := hide hF
          clear hF hT HF HT HA
          cases hok : okc s[j] with
          | true =>
            rw [hok] at HB
            have HT2 := hide (HT'.out.trans hok)
            clear HT' HF' hok
            go_wp2_with fail
            refine (HB.out _).mono ?_
            rintro r w1 ⟨rfl, rfl⟩
            go_wp2_with fail
            go_round
            case rel => exact ⟨j + 1, by go_num, by omega, HT2.out⟩
            case measure => simp [intOf]; omega
          | false =>
            rw [hok] at HB
            have HF2 := hide (HF'.out hok)
            clear HT' HF' hok
            go_wp2_with fail
            refine (HB.out _).mono ?_
            rintro r w1 ⟨rfl, rfl⟩
            go_wp2
            go_ret
            exact ⟨ret_bool HF2.out.symm, rfl⟩
        · have hle : (s.size : Int) ≤ j := by omega
          obtain rfl : j = s.size := by omega
          have HA' := hide (HA.out Hj.out)
          clear Hj HA HF HT
          go_wp2
          go_ret
          exact ⟨ret_bool HA'.out.symm, rfl⟩
end Go.Proofs.YtogpjblikphpcaaGreatDoor
