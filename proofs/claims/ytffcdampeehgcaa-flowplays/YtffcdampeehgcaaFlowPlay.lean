/-
  Contracts of package flow's Play; the closed fact; a slice of bools.
-/
import Derived.Test.YtffcdampeehgcaaFlowGo
import Derived.Deep.RegionHeld3
namespace Go.Proofs.Ytffcdampeehgcaa
open Go.RowKit
open Go.Flow (Fw fwNew Within new_within well_within bad_within)

theorem next_within {f : Fw} (h : Within f) (b : Bool) : Within (f.next b) := by
  cases b
  · exact bad_within h
  · exact well_within h
theorem Try.infoI : (Try.prog.info? 3).map (fun i => (i.zero, i.size, i.bytes)) = some (some (.int .i64 0), 1, 8) := by kernel_rfl

set_option maxHeartbeats 1000000 in
set_option maxRecDepth 100000 in
theorem flowed_ok (W : World) : Calls Try.prog 5 #[] W fun e w' => e = .returned (.bool true) ∧ Below W.heap.size W w' := by
  have HS := hide (Sep.start W)
  have H1 := hide (fun W => newFlow_ok W)
  have HG := hide (fun p f W k => good_ok p f W k)
  have HB := hide (fun p f W k => fbad_ok p f W k)
  have i0 := new_within
  have i1 := well_within i0
  have i2 := well_within i1
  have I0 := hide i0
  have I1 := hide i1
  have I2 := hide i2
  clear i0 i1 i2
  have g2 : fwNew.well.well = ⟨3, 32, 2, 0⟩ := by rfl
  have g3 : fwNew.well.well.bad = ⟨1, 1, 4, 0⟩ := by rfl
  go_enter Try.func5, Try.ntmps5
  go_wp2_with fail
  refine (Sep.call (L0 := []) HS.out (H1.out _)).mono ?_
  rintro e w1 ⟨_, ⟨p, rfl, rfl⟩, hs1⟩
  simp only [List.cons_append, List.nil_append] at hs1
  have HS1 := hide hs1
  clear hs1 HS H1
  go_wp2_with fail
  refine (Sep.call (L0 := [_]) HS1.out (HG.out _ _ _ I0.out)).mono ?_
  rintro e w2 ⟨_, ⟨rfl, rfl⟩, hs2⟩
  simp only [List.cons_append, List.nil_append] at hs2
  have HS2 := hide hs2
  clear hs2 HS1
  go_wp2_with fail
  refine (Sep.call (L0 := [_]) HS2.out (HG.out _ _ _ I1.out)).mono ?_
  rintro e w3 ⟨_, ⟨rfl, rfl⟩, hs3⟩
  simp only [List.cons_append, List.nil_append] at hs3
  have H3 := hide (flWindow_ok hs3)
  have HB3 := hide (Sep.call (L0 := [_]) hs3 (HB.out _ _ _ I2.out))
  rw [g2] at H3
  rw [g3] at HB3
  clear hs3 HS2 HG HB I0 I1 I2 g2 g3
  go_wp2_with fail
  refine H3.out.mono ?_
  rintro e w4 ⟨rfl, rfl⟩
  go_wp2_with fail
  refine HB3.out.mono ?_
  rintro e w5 ⟨_, ⟨rfl, rfl⟩, hs5⟩
  simp only [List.cons_append, List.nil_append] at hs5
  have HW := hide (flWindow_ok hs5)
  have HL := hide (flLimit_ok hs5)
  have HT := hide (flWait_ok hs5)
  have Hb := hide hs5.below
  clear hs5 HB3 H3
  go_wp2_with fail
  refine HW.out.mono ?_
  rintro e w6 ⟨rfl, rfl⟩
  go_wp2_with fail
  refine HL.out.mono ?_
  rintro e w7 ⟨rfl, rfl⟩
  go_wp2_with fail
  refine HT.out.mono ?_
  rintro e w8 ⟨rfl, rfl⟩
  go_wp2_with fail
  go_ret
  exact ⟨rfl, Hb.out⟩
end Go.Proofs.Ytffcdampeehgcaa
