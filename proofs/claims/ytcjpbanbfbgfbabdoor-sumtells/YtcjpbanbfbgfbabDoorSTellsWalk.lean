/-
  SumTells, walked: what package sum answers is the document's answer.
-/
import Derived.Test.YtcjpbanbfbgfbabDoorSummed
import Derived.Test.YtcjpbanbfbgfbabDoorRefSum
namespace Go.Proofs.YtcjpbanbfbgfbabDoor
open Go.RowKit

set_option maxHeartbeats 1000000 in
set_option maxRecDepth 100000 in
theorem stells_any (s : ByteArray) (a b : Nat) (n : Int) (w : World) (ha : a < 4294967296) (hb : b < 4294967296) (hT : Tab w) : Calls Tryd.prog 3 #[.string s, .int .u32 a, .int .u32 b, .int .i64 n] w fun r w' => r = .returned (.bool true) ∧ Below w.heap.size w w' := by
  have H0 := hide (summed_ok w hT)
  by_cases hs : s.size ≤ 300
  · have hs' : (s.size : Int) ≤ 300 := by omega
    by_cases hn : n ≤ 2000
    · have HS := hide (fun W => sum_ok s W (by omega))
      have HSo := hide (fun W => sumOf_ok s W (by omega))
      have HM := hide (fun W => more_ok a s W ha (by omega))
      have HMo := hide (fun W => moreOf_ok a s W ha (by omega))
      have HJ := hide (fun W hW => join_ok a b n W ha hb (by omega) hW)
      have HJo := hide (fun W => joinSums_ok a b n W ha hb (by omega))
      have hx1 : Go.Crc.crc 0 s.data.toList < 2 ^ 32 := Go.Crc.crc_lt _ _ (by omega)
      have hx2 : Go.Crc.crc a s.data.toList < 2 ^ 32 := Go.Crc.crc_lt _ _ ha
      have hx3 : Go.Crc.shs (8 * n.toNat) a ^^^ b < 2 ^ 32 := Nat.xor_lt_two_pow (Go.Crc.shs_lt _ _ ha) hb
      generalize Go.Crc.crc 0 s.data.toList = x1 at *
      generalize Go.Crc.crc a s.data.toList = x2 at *
      generalize Go.Crc.shs (8 * n.toNat) a ^^^ b = x3 at *
      have HT := hide hT
      clear hT
      go_enter Tryd.func3, Tryd.ntmps3
      go_wp2_with fail
      refine H0.out.mono ?_
      rintro e w1 ⟨rfl, hb1⟩
      have Hb1 := hide hb1
      clear hb1
      have HJ1 := hide (HJ.out w1 (HT.out.below Hb1.out))
      go_wp2_with fail
      refine (HS.out _).mono ?_
      rintro e wz ⟨rfl, rfl⟩
      go_wp2_with fail
      refine (HSo.out _).mono ?_
      rintro e wz ⟨rfl, rfl⟩
      go_wp2_with fail
      refine (HM.out _).mono ?_
      rintro e wz ⟨rfl, rfl⟩
      go_wp2_with fail
      refine (HMo.out _).mono ?_
      rintro e wz ⟨rfl, rfl⟩
      go_wp2_with fail
      refine HJ1.out.mono ?_
      rintro e w2 ⟨rfl, hb2⟩
      have Hb2 := hide (bthen Hb1.out hb2)
      clear hb2
      go_wp2_with fail
      refine (HJo.out _).mono ?_
      rintro e wz ⟨rfl, rfl⟩
      go_wp2_with fail
      go_ret
      exact ⟨ret_bool (by simp), Hb2.out⟩
    · have hn' : 2000 < n := by omega
      clear hT
      go_enter Tryd.func3, Tryd.ntmps3
      go_wp2_with fail
      refine H0.out.mono ?_
      rintro e w1 ⟨rfl, hb1⟩
      have Hb1 := hide hb1
      clear hb1
      go_wp2_with fail
      go_ret
      exact ⟨rfl, Hb1.out⟩
  · have hs' : (300 : Int) < s.size := by omega
    clear hT hs
    go_enter Tryd.func3, Tryd.ntmps3
    go_wp2_with fail
    refine H0.out.mono ?_
    rintro e w1 ⟨rfl, hb1⟩
    have Hb1 := hide hb1
    clear hb1
    go_wp2_with fail
    go_ret
    exact ⟨rfl, Hb1.out⟩
end Go.Proofs.YtcjpbanbfbgfbabDoor
