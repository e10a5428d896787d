/-
  SumJoins, walked: what is joined is what is summed at once; of three, in any way; nothing changes nothing.
-/
import Derived.Test.YtcjpbanbfbgfbabDoorSummed
namespace Go.Proofs.YtcjpbanbfbgfbabDoor
open Go.RowKit

set_option maxHeartbeats 2000000 in
set_option maxRecDepth 100000 in
theorem sjoins_main (s t u : ByteArray) (w : World) (hs : s.size ≤ 300) (ht : t.size ≤ 300) (hu : u.size ≤ 300) (hT : Tab w) : Calls Tryd.prog 4 #[.string s, .string t, .string u] w fun r w' => r = .returned (.bool true) ∧ Below w.heap.size w w' := by
  have H0 := hide (summed_ok w hT)
  have hs' : (s.size : Int) ≤ 300 := by omega
  have ht' : (t.size : Int) ≤ 300 := by omega
  have hu' : (u.size : Int) ≤ 300 := by omega
  have e1 := Go.Crc.crc_join 0 s.data.toList t.data.toList
  have e2 := Go.Crc.crc_join 0 (s.data.toList ++ t.data.toList) u.data.toList
  have e3 := Go.Crc.crc_append 0 s.data.toList t.data.toList
  have e4 := Go.Crc.crc_append 0 (s.data.toList ++ t.data.toList) u.data.toList
  have e5 := Go.Crc.join_join t.data.toList.length u.data.toList.length (Go.Crc.crc 0 s.data.toList) (Go.Crc.crc 0 t.data.toList) (Go.Crc.crc 0 u.data.toList)
  have e6 := Go.Crc.crc_nil (Go.Crc.crc 0 s.data.toList)
  rw [lenL] at e1 e2
  rw [lenL, lenL] at e5
  rw [e1, e2] at e5
  have HA := hide (fun W => sum_ok s W (by omega))
  have HB := hide (fun W => sum_ok t W (by omega))
  have HC := hide (fun W => sum_ok u W (by omega))
  have hS : (s ++ t ++ u).size = s.size + t.size + u.size := by rw [ByteArray.size_append, ByteArray.size_append]
  have HS := hide (fun W => sum_ok (s ++ t ++ u) W (by omega))
  rw [appendL, appendL] at HS
  have hA1 := Go.Crc.crc_lt 0 s.data.toList (by omega)
  have hB1 := Go.Crc.crc_lt 0 t.data.toList (by omega)
  have hC1 := Go.Crc.crc_lt 0 u.data.toList (by omega)
  have hAB1 := Go.Crc.crc_lt 0 (s.data.toList ++ t.data.toList) (by omega)
  have hS1 := Go.Crc.crc_lt 0 (s.data.toList ++ t.data.toList ++ u.data.toList) (by omega)
  have HJ1 := hide (fun W hW => join_ok (Go.Crc.crc 0 s.data.toList) (Go.Crc.crc 0 t.data.toList) (t.size : Int) W hA1 hB1 (by omega) hW)
  have HJ2 := hide (fun W hW => join_ok (Go.Crc.crc 0 (s.data.toList ++ t.data.toList)) (Go.Crc.crc 0 u.data.toList) (u.size : Int) W hAB1 hC1 (by omega) hW)
  have HJ3 := hide (fun W hW => join_ok (Go.Crc.crc 0 t.data.toList) (Go.Crc.crc 0 u.data.toList) (u.size : Int) W hB1 hC1 (by omega) hW)
  have hJ3 : Go.Crc.shs (8 * u.size) (Go.Crc.crc 0 t.data.toList) ^^^ Go.Crc.crc 0 u.data.toList < 2 ^ 32 := Nat.xor_lt_two_pow (Go.Crc.shs_lt _ _ hB1) hC1
  have HJ4 := hide (fun W hW => join_ok (Go.Crc.crc 0 s.data.toList) (Go.Crc.shs (8 * u.size) (Go.Crc.crc 0 t.data.toList) ^^^ Go.Crc.crc 0 u.data.toList) ((t.size : Int) + u.size) W hA1 hJ3 (by omega) hW)
  have HJ5 := hide (fun W hW => join_ok (Go.Crc.crc 0 s.data.toList) 0 0 W hA1 (by omega) (by omega) hW)
  have HJ6 := hide (fun W hW => join_ok (Go.Crc.crc 0 s.data.toList) 0 (-5) W hA1 (by omega) (by omega) hW)
  have HM1 := hide (fun W => more_ok (Go.Crc.crc 0 s.data.toList) t W hA1 (by omega))
  have HM2 := hide (fun W => more_ok (Go.Crc.crc 0 (s.data.toList ++ t.data.toList)) u W hAB1 (by omega))
  have HM3 := hide (fun W => more_ok (Go.Crc.crc 0 s.data.toList) ⟨#[]⟩ W hA1 (by decide))
  rw [Int.toNat_natCast] at HJ1 HJ2 HJ3
  rw [show ((t.size : Int) + u.size).toNat = t.size + u.size by omega, ← e5] at HJ4
  rw [show (0 : Int).toNat = 0 from rfl, Nat.mul_zero, Nat.xor_zero, Go.Crc.shs] at HJ5
  rw [show (-5 : Int).toNat = 0 from rfl, Nat.mul_zero, Nat.xor_zero, Go.Crc.shs] at HJ6
  rw [e1] at HJ1
  rw [e2] at HJ2
  rw [e3] at HM1
  rw [e4] at HM2
  rw [show (ByteArray.mk #[]).data.toList = [] from rfl, e6] at HM3
  clear e1 e2 e3 e4 e5 e6 hS
  generalize Go.Crc.shs (8 * u.size) (Go.Crc.crc 0 t.data.toList) ^^^ Go.Crc.crc 0 u.data.toList = x5 at *
  generalize Go.Crc.crc 0 (s.data.toList ++ t.data.toList ++ u.data.toList) = x4 at *
  generalize Go.Crc.crc 0 (s.data.toList ++ t.data.toList) = x3 at *
  generalize Go.Crc.crc 0 s.data.toList = x0 at *
  generalize Go.Crc.crc 0 t.data.toList = x1 at *
  generalize Go.Crc.crc 0 u.data.toList = x2 at *
  have HT := hide hT
  clear hT
  go_enter Tryd.func4, Tryd.ntmps4
  go_wp2_with fail
  refine H0.out.mono ?_
  rintro e w1 ⟨rfl, hb1⟩
  have Hb1 := hide hb1
  have HT1 := hide (HT.out.below hb1)
  clear hb1 HT
  go_wp2_with fail
  refine (HA.out _).mono ?_
  rintro e wz ⟨rfl, rfl⟩
  go_wp2_with fail
  refine (HB.out _).mono ?_
  rintro e wz ⟨rfl, rfl⟩
  go_wp2_with fail
  refine (HC.out _).mono ?_
  rintro e wz ⟨rfl, rfl⟩
  go_wp2_with fail
  refine (HS.out _).mono ?_
  rintro e wz ⟨rfl, rfl⟩
  go_wp2_with fail
  refine (HJ1.out _ HT1.out).mono ?_
  rintro e w2 ⟨rfl, hb2⟩
  have Hb2 := hide (bthen Hb1.out hb2)
  have HT2 := hide (HT1.out.below hb2)
  clear hb2 Hb1 HT1
  go_wp2_with fail
  refine (HJ2.out _ HT2.out).mono ?_
  rintro e w3 ⟨rfl, hb3⟩
  have Hb3 := hide (bthen Hb2.out hb3)
  have HT3 := hide (HT2.out.below hb3)
  clear hb3 Hb2 HT2
  go_wp2_with fail
  refine (HJ3.out _ HT3.out).mono ?_
  rintro e w4 ⟨rfl, hb4⟩
  have Hb4 := hide (bthen Hb3.out hb4)
  have HT4 := hide (HT3.out.below hb4)
  clear hb4 Hb3 HT3
  go_wp2_with fail
  refine (HJ4.out _ HT4.out).mono ?_
  rintro e w5 ⟨rfl, hb5⟩
  have Hb5 := hide (bthen Hb4.out hb5)
  have HT5 := hide (HT4.out.below hb5)
  clear hb5 Hb4 HT4
  go_wp2_with fail
  refine (HM1.out _).mono ?_
  rintro e wz ⟨rfl, rfl⟩
  go_wp2_with fail
  refine (HM2.out _).mono ?_
  rintro e wz ⟨rfl, rfl⟩
  go_wp2_with fail
  refine (HJ5.out _ HT5.out).mono ?_
  rintro e w6 ⟨rfl, hb6⟩
  have Hb6 := hide (bthen Hb5.out hb6)
  have HT6 := hide (HT5.out.below hb6)
  clear hb6 Hb5 HT5
  go_wp2_with fail
  refine (HJ6.out _ HT6.out).mono ?_
  rintro e w7 ⟨rfl, hb7⟩
  have Hb7 := hide (bthen Hb6.out hb7)
  clear hb7 Hb6 HT6
  go_wp2_with fail
  refine (HM3.out _).mono ?_
  rintro e wz ⟨rfl, rfl⟩
  go_wp2_with fail
  go_ret
  exact ⟨ret_bool (by simp), Hb7.out⟩

set_option maxHeartbeats 1000000 in
set_option maxRecDepth 100000 in
theorem sjoins_any (s t u : ByteArray) (w : World) (hT : Tab w) : Calls Tryd.prog 4 #[.string s, .string t, .string u] w fun r w' => r = .returned (.bool true) ∧ Below w.heap.size w w' := by
  by_cases hs : s.size ≤ 300
  · by_cases ht : t.size ≤ 300
    · by_cases hu : u.size ≤ 300
      · exact sjoins_main s t u w hs ht hu hT
      · have hs' : (s.size : Int) ≤ 300 := by omega
        have ht' : (t.size : Int) ≤ 300 := by omega
        have hu' : (300 : Int) < u.size := by omega
        have H0 := hide (summed_ok w hT)
        clear hT hs ht hu
        go_enter Tryd.func4, Tryd.ntmps4
        go_wp2_with fail
        refine H0.out.mono ?_
        rintro e w1 ⟨rfl, hb1⟩
        have Hb1 := hide hb1
        clear hb1
        go_wp2_with fail
        go_ret
        exact ⟨rfl, Hb1.out⟩
    · have hs' : (s.size : Int) ≤ 300 := by omega
      have ht' : (300 : Int) < t.size := by omega
      have H0 := hide (summed_ok w hT)
      clear hT hs ht
      go_enter Tryd.func4, Tryd.ntmps4
      go_wp2_with fail
      refine H0.out.mono ?_
      rintro e w1 ⟨rfl, hb1⟩
      have Hb1 := hide hb1
      clear hb1
      go_wp2_with fail
      go_ret
      exact ⟨rfl, Hb1.out⟩
  · have hs' : (300 : Int) < s.size := by omega
    have H0 := hide (summed_ok w hT)
    clear hT hs
    go_enter Tryd.func4, Tryd.ntmps4
    go_wp2_with fail
    refine H0.out.mono ?_
    rintro e w1 ⟨rfl, hb1⟩
    have Hb1 := hide hb1
    clear hb1
    go_wp2_with fail
    go_ret
    exact ⟨rfl, Hb1.out⟩
end Go.Proofs.YtcjpbanbfbgfbabDoor
