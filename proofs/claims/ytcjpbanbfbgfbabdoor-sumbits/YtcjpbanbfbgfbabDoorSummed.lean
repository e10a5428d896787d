/-
  The closed fact that the statements on sums of all ask first: the sum of "123456789", at once and joined.
-/
import Derived.Test.YtcjpbanbfbgfbabDoorBehind
namespace Go.Proofs.YtcjpbanbfbgfbabDoor
open Go.RowKit

theorem crc9 : Go.Crc.crc 0 (ByteArray.mk #[49, 50, 51, 52, 53, 54, 55, 56, 57]).data.toList = 3421780262 := by decide +kernel
theorem crc4 : Go.Crc.crc 0 (ByteArray.mk #[49, 50, 51, 52]).data.toList = 2615402659 := by decide +kernel
theorem crc5 : Go.Crc.crc 0 (ByteArray.mk #[53, 54, 55, 56, 57]).data.toList = 320708720 := by decide +kernel
theorem join9 : Go.Crc.shs (8 * (5 : Int).toNat) 2615402659 ^^^ 320708720 = 3421780262 := by decide +kernel

set_option maxHeartbeats 1000000 in
set_option maxRecDepth 100000 in
theorem summed_ok (w : World) (hT : Tab w) : Calls Tryd.prog 6 #[] w fun r w' => r = .returned (.bool true) ∧ Below w.heap.size w w' := by
  have H9 := hide (fun W => sum_ok ⟨#[49, 50, 51, 52, 53, 54, 55, 56, 57]⟩ W (by decide))
  have H4 := hide (fun W => sum_ok ⟨#[49, 50, 51, 52]⟩ W (by decide))
  have H5 := hide (fun W => sum_ok ⟨#[53, 54, 55, 56, 57]⟩ W (by decide))
  have HJ := hide (join_ok 2615402659 320708720 5 w (by decide) (by decide) (by decide) hT)
  rw [crc9] at H9
  rw [crc4] at H4
  rw [crc5] at H5
  rw [join9] at HJ
  clear hT
  go_enter Tryd.func6, Tryd.ntmps6
  go_wp2_with fail
  refine (H9.out _).mono ?_
  rintro e w1 ⟨rfl, rfl⟩
  go_wp2_with fail
  refine (H4.out _).mono ?_
  rintro e w1 ⟨rfl, rfl⟩
  go_wp2_with fail
  refine (H5.out _).mono ?_
  rintro e w1 ⟨rfl, rfl⟩
  go_wp2_with fail
  refine HJ.out.mono ?_
  rintro e w1 ⟨rfl, hb1⟩
  have Hb1 := hide hb1
  clear hb1
  go_wp2_with fail
  go_ret
  exact ⟨rfl, Hb1.out⟩
end Go.Proofs.YtcjpbanbfbgfbabDoor
