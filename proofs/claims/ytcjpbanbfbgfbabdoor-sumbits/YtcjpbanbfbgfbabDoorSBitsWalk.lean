/-
  SumBits, walked: one bit that is turned changes the sum, and by as much whatever stands behind it.
-/
import Derived.Test.YtcjpbanbfbgfbabDoorBitsMath
namespace Go.Proofs.YtcjpbanbfbgfbabDoor
open Go.RowKit

set_option maxHeartbeats 2000000 in
set_option maxRecDepth 100000 in
theorem sbits_main (s : ByteArray) (i j : Nat) (q : Int) (w : World) (hs : s.size ≤ 300) (hi : i < s.size) (hj : j < 8) (hq : q = 8 * i + j) (hT : Tab w) : Calls Tryd.prog 5 #[.string s, .int .i64 q] w fun r w' => r = .returned (.bool true) ∧ Below w.heap.size w w' := by
  have H0 := hide (summed_ok w hT)
  have hs' : (s.size : Int) ≤ 300 := by omega
  have hs1 : (1 : Int) ≤ s.size := by omega
  have hi' : (i : Int) < s.size := by omega
  have hdiv : q / 8 = (i : Int) := by omega
  have hmod : q % 8 = (j : Int) := by omega
  have hq0 : 0 ≤ q := by omega
  have hq1 : q < 8 * s.size := by omega
  have hq2 : q < 2400 := by omega
  have hpw : 2 ^ j < 2 ^ 8 := Nat.pow_lt_pow_right (by omega) hj
  have hp0 : 2 ^ j ≠ 0 := Nat.pos_iff_ne_zero.1 (Nat.two_pow_pos j)
  have hp : (2 : Int) ^ j % 256 = ((2 ^ j : Nat) : Int) := by
    rw [show (2 : Int) ^ j = ((2 ^ j : Nat) : Int) by push_cast; rfl]
    generalize 2 ^ j = y at *
    omega
  generalize 2 ^ j = y at *
  have hb := byte_lt s[i]
  have hxy : s[i].toNat ^^^ y < 2 ^ 8 := Nat.xor_lt_two_pow (by omega) (by omega)
  have hxe : bits .xor .u8 (s[i].toNat : Int) (y : Int) = ((s[i].toNat ^^^ y : Nat) : Int) := u8_xor_nat _ _ hb (by omega)
  obtain ⟨d, hd⟩ : ∃ d : UInt8, d.toNat = s[i].toNat ^^^ y := ⟨UInt8.ofNat (s[i].toNat ^^^ y), by rw [UInt8.toNat_ofNat']; exact Nat.mod_eq_of_lt hxy⟩
  rw [← hd] at hxe
  have hdy : s[i].toNat ^^^ d.toNat = y := by rw [hd, ← Nat.xor_assoc, Nat.xor_self, Nat.zero_xor]
  have hll : i < s.data.toList.length := by rw [lenL]; exact hi
  obtain ⟨T1, T2, T3⟩ := turned s.data.toList i y d hll hdy hp0 (by omega)
  have HS := hide (fun W => sum_ok s W (by omega))
  have hts : (str (s.data.toList.set i d)).size = s.size := by rw [str_len, List.length_set, lenL]
  have HR := hide (fun W => sum_ok (str (s.data.toList.set i d)) W (by omega))
  have HA := hide (fun W => sum_ok (s.extract 0 (i + 1)) W (by rw [ByteArray.size_extract]; omega))
  have HC := hide (fun W => sum_ok ((str (s.data.toList.set i d)).extract 0 (i + 1)) W (by rw [ByteArray.size_extract]; omega))
  rw [extractL, List.drop_zero, Nat.sub_zero] at HA HC
  rw [strL] at HR HC
  rw [lenL] at T3
  have hS1 := Go.Crc.crc_lt 0 s.data.toList (by omega)
  have hR1 := Go.Crc.crc_lt 0 (s.data.toList.set i d) (by omega)
  have hA1 := Go.Crc.crc_lt 0 (s.data.toList.take (i + 1)) (by omega)
  have hC1 := Go.Crc.crc_lt 0 ((s.data.toList.set i d).take (i + 1)) (by omega)
  have HJ1 := hide (fun W hW => join_ok (Go.Crc.crc 0 (s.data.toList.take (i + 1))) 0 ((s.size : Int) - (i + 1)) W hA1 (by omega) (by omega) hW)
  have HJ2 := hide (fun W hW => join_ok (Go.Crc.crc 0 ((s.data.toList.set i d).take (i + 1))) 0 ((s.size : Int) - (i + 1)) W hC1 (by omega) (by omega) hW)
  rw [show ((s.size : Int) - (i + 1)).toNat = s.size - (i + 1) by omega, Nat.xor_zero] at HJ1 HJ2
  have hJ1 := Go.Crc.shs_lt (8 * (s.size - (i + 1))) _ hA1
  have hJ2 := Go.Crc.shs_lt (8 * (s.size - (i + 1))) _ hC1
  have hx1 := u32_xor_nat _ _ hJ1 hJ2
  have hx2 := u32_xor_nat _ _ hS1 hR1
  rw [T3] at hx1
  have HBK := hide (fun W1 g cap h => bytes_back W1 g cap i s d hi h)
  clear T3
  generalize Go.Crc.shs (8 * (s.size - (i + 1))) (Go.Crc.crc 0 (s.data.toList.take (i + 1))) = y1 at *
  generalize Go.Crc.shs (8 * (s.size - (i + 1))) (Go.Crc.crc 0 ((s.data.toList.set i d).take (i + 1))) = y2 at *
  generalize Go.Crc.crc 0 s.data.toList = x0 at *
  generalize Go.Crc.crc 0 (s.data.toList.set i d) = x1 at *
  generalize Go.Crc.crc 0 (s.data.toList.take (i + 1)) = x2 at *
  generalize Go.Crc.crc 0 ((s.data.toList.set i d).take (i + 1)) = x3 at *
  generalize x0 ^^^ x1 = x4 at *
  generalize str (s.data.toList.set i d) = t at *
  have n1 : ((x1 : Int) != (x0 : Int)) = true := by simp; omega
  have n2 : ((x2 : Int) != (x3 : Int)) = true := by simp; omega
  have HT := hide hT
  clear hT hd hdy hq T1 T2 hxy hp0
  go_enter Tryd.func5, Tryd.ntmps5
  go_wp2_with fail
  refine H0.out.mono ?_
  rintro e w1 ⟨rfl, hb1⟩
  have Hb1 := hide hb1
  have HT1 := hide (HT.out.below hb1)
  clear hb1 HT
  obtain ⟨cap, W1, hcv, hbW, hcells⟩ := bytes_of w1 s
  have hbS : Below w1.heap.size w1 (W1.setCell ⟨w1.heap.size, i, none⟩ (.int .u8 (d.toNat : Nat))) := hbW.setCell (by simp) _
  have HbS := hide (bthen Hb1.out hbS)
  have HTS := hide (HT1.out.below hbS)
  have hcb := HBK.out W1 w1.heap.size cap (fun j hj => (hcells j hj).1)
  obtain ⟨hcell, hfz⟩ := hcells i hi
  clear hcells hbW hbS HBK
  go_wp2_with fail
  clear hcb hcv hcell hfz
  generalize W1.setCell ⟨w1.heap.size, i, none⟩ (.int .u8 (d.toNat : Nat)) = W2 at *
  refine (HA.out _).mono ?_
  rintro e wz ⟨rfl, rfl⟩
  go_wp2_with fail
  refine (HC.out _).mono ?_
  rintro e wz ⟨rfl, rfl⟩
  go_wp2_with fail
  refine (HR.out _).mono ?_
  rintro e wz ⟨rfl, rfl⟩
  go_wp2_with fail
  refine (HS.out _).mono ?_
  rintro e wz ⟨rfl, rfl⟩
  go_wp2_with fail
  refine (HJ1.out _ HTS.out).mono ?_
  rintro e w3 ⟨rfl, hb3⟩
  have Hb3 := hide (bthen HbS.out hb3)
  have HT3 := hide (HTS.out.below hb3)
  clear hb3 HbS HTS
  go_wp2_with fail
  refine (HJ2.out _ HT3.out).mono ?_
  rintro e w4 ⟨rfl, hb4⟩
  have Hb4 := hide (bthen Hb3.out hb4)
  clear hb4 Hb3 HT3
  go_wp2_with fail
  refine (HS.out _).mono ?_
  rintro e wz ⟨rfl, rfl⟩
  go_wp2_with fail
  refine (HR.out _).mono ?_
  rintro e wz ⟨rfl, rfl⟩
  go_wp2_with fail
  go_ret
  exact ⟨ret_bool (by simp), Hb4.out⟩

set_option maxHeartbeats 1000000 in
set_option maxRecDepth 100000 in
theorem sbits_any (s : ByteArray) (q : Int) (w : World) (hT : Tab w) : Calls Tryd.prog 5 #[.string s, .int .i64 q] w fun r w' => r = .returned (.bool true) ∧ Below w.heap.size w w' := by
  by_cases h1 : 1 ≤ s.size
  · by_cases h3 : s.size ≤ 300
    · by_cases h0 : 0 ≤ q
      · by_cases h8 : q < 8 * s.size
        · exact sbits_main s (q.toNat / 8) (q.toNat % 8) q w h3 (by omega) (by omega) (by omega) hT
        · have h1' : (1 : Int) ≤ s.size := by omega
          have h3' : (s.size : Int) ≤ 300 := by omega
          have h8' : 8 * (s.size : Int) ≤ q := by omega
          have H0 := hide (summed_ok w hT)
          clear hT h1 h3 h8
          go_enter Tryd.func5, Tryd.ntmps5
          go_wp2_with fail
          refine H0.out.mono ?_
          rintro e w1 ⟨rfl, hb1⟩
          have Hb1 := hide hb1
          clear hb1
          go_wp2_with fail
          go_ret
          exact ⟨rfl, Hb1.out⟩
      · have h1' : (1 : Int) ≤ s.size := by omega
        have h3' : (s.size : Int) ≤ 300 := by omega
        have h0' : q < 0 := by omega
        have H0 := hide (summed_ok w hT)
        clear hT h1 h3 h0
        go_enter Tryd.func5, Tryd.ntmps5
        go_wp2_with fail
        refine H0.out.mono ?_
        rintro e w1 ⟨rfl, hb1⟩
        have Hb1 := hide hb1
        clear hb1
        go_wp2_with fail
        go_ret
        exact ⟨rfl, Hb1.out⟩
    · have h1' : (1 : Int) ≤ s.size := by omega
      have h3' : (300 : Int) < s.size := by omega
      have H0 := hide (summed_ok w hT)
      clear hT h1 h3
      go_enter Tryd.func5, Tryd.ntmps5
      go_wp2_with fail
      refine H0.out.mono ?_
      rintro e w1 ⟨rfl, hb1⟩
      have Hb1 := hide hb1
      clear hb1
      go_wp2_with fail
      go_ret
      exact ⟨rfl, Hb1.out⟩
  · have h1' : (s.size : Int) < 1 := by omega
    have H0 := hide (summed_ok w hT)
    clear hT h1
    go_enter Tryd.func5, Tryd.ntmps5
    go_wp2_with fail
    refine H0.out.mono ?_
    rintro e w1 ⟨rfl, hb1⟩
    have Hb1 := hide hb1
    clear hb1
    go_wp2_with fail
    go_ret
    exact ⟨rfl, Hb1.out⟩
end Go.Proofs.YtcjpbanbfbgfbabDoor
