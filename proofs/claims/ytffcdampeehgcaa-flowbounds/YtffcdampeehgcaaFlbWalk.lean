/-
  The walk of the law FlowBounds.
-/
import Derived.Test.YtffcdampeehgcaaFlowPlay
namespace Go.Proofs.Ytffcdampeehgcaa
open Go.RowKit
open Go.Flow (Fw fwNew Within new_within well_within bad_within)

set_option maxHeartbeats 1000000 in
set_option maxRecDepth 100000 in
theorem fbounds_main (la : Option Addr) (lc : Nat) (l : List Bool) (w : World) (hT : Row1 boolV w (.slice la l.length lc) l) (hl : l.length ≤ 400) :
    Calls Try.prog 3 #[.slice la l.length lc] w fun e w' => e = .returned (.bool true) ∧ Below w.heap.size w w' := by
  have HT := hide (fun W (k : Below w.heap.size w W) => hT.below k)
  have HM := hide (flowed_ok w)
  have H1 := hide (fun W => newFlow_ok W)
  have HG := hide (fun p f W k => good_ok p f W k)
  have HB := hide (fun p f W k => fbad_ok p f W k)
  have hl' : (l.length : Int) ≤ 400 := by omega
  clear hT hl
  go_enter Try.func3, Try.ntmps3
  go_wp2_with fail
  refine HM.out.mono ?_
  rintro e w1 ⟨rfl, hb1⟩
  have HS := hide ((Sep.start w).keep hb1)
  clear hb1 HM
  go_wp2_with fail
  refine (Sep.call (L0 := []) HS.out (H1.out _)).mono ?_
  rintro e w2 ⟨_, ⟨p, rfl, rfl⟩, hs2⟩
  simp only [List.cons_append, List.nil_append] at hs2
  have HS2 := hide hs2
  clear hs2 HS H1
  go_wp2_with fail
  go_loopw [5] (fun t5 wr => ∃ (i : Nat) (f : Fw), t5 = .int .i64 i ∧ i ≤ l.length ∧ Hid (Within f) ∧ Hid (Sep Foot.none w [FlF p f] wr)) (fun t5 _ => l.length - (intOf t5).toNat)
  case atStart => exact ⟨0, fwNew, rfl, Nat.zero_le _, new_within, HS2.out⟩
  case round =>
    clear HS2
    obtain ⟨i, f, rfl, hi, Hf, Hs⟩ := hrel
    by_cases hlt : i < l.length
    · have hlt' : (i : Int) < l.length := by omega
      have HTc : Hid (∃ tb o, la = some ⟨tb, o, none⟩ ∧ ∀ W, Below w.heap.size w W → W.cell? ⟨tb, o + i, none⟩ = some (.bool l[i])) := by
        obtain ⟨_, _, e, hrow⟩ := HT.out w (Below.refl _ _)
        cases e
        obtain ⟨tb, o, rfl, hc⟩ := hrow (by omega)
        exact ⟨tb, o, rfl, fun W k => (k.cell (World.block_lt_of_cell? _ _ (hc i hlt))).trans (hc i hlt)⟩
      obtain ⟨tb, o, rfl, htc⟩ := HTc.out
      have c0 := htc _ Hs.out.below
      have HW := hide (flWindow_ok Hs.out)
      have HTt := hide (flWait_ok Hs.out)
      have hww := Hf.out
      clear HTc htc HT
      cases hbb : l[i] with
      | true =>
        rw [hbb] at c0
        have hst := Go.Flow.well_step f
        have HC := hide (Sep.call (L0 := [_]) Hs.out (HG.out _ _ _ Hf.out))
        have Hn := hide (well_within Hf.out)
        obtain ⟨a1, a2, a3, a4, a5, a6, a7⟩ := well_within Hf.out
        clear HG HB hbb Hf
        obtain ⟨b1, b2, b3, b4, b5, b6, b7⟩ := hww
        obtain ⟨s1, s2, s3, s4⟩ := hst
        generalize f.well = g at *
        have x1 : (f.window : Int) ≤ (g.window : Int) := by omega
        have x2 : (g.window : Int) ≤ (f.window : Int) + 1 := by omega
        have x3 : ((g.wait : Int) != 2) = false := by simp; omega
        have x4 : (1 : Int) ≤ (g.window : Int) := by omega
        have x5 : (g.window : Int) ≤ 32 := by omega
        have x6 : (2 : Int) ≤ (g.wait : Int) := by omega
        have x7 : (g.wait : Int) ≤ 64 := by omega
        have x8 : (1 : Int) ≤ (g.limit : Int) := by omega
        have x9 : (g.limit : Int) ≤ 32 := by omega
        have x0 : (f.window : Int) ≤ 32 := by omega
        clear s1 s2 s3 s4 a1 a2 a3 a4 a5 a6 a7 b1 b2 b3 b4 b5 b6 b7
        go_wp2_with fail
        refine HW.out.mono ?_
        rintro e w3 ⟨rfl, rfl⟩
        go_wp2_with fail
        refine HTt.out.mono ?_
        rintro e w4 ⟨rfl, rfl⟩
        clear HW HTt
        go_wp2_with fail
        refine HC.out.mono ?_
        rintro e w5 ⟨_, ⟨rfl, rfl⟩, hs5⟩
        simp only [List.cons_append, List.nil_append] at hs5
        have HW := hide (flWindow_ok hs5)
        have HTt := hide (flWait_ok hs5)
        have HL := hide (flLimit_ok hs5)
        have HS5 := hide hs5
        clear hs5 HC Hs
        go_wp2_with (first | (go_at_call 7; refine HW.out.mono ?_; rintro e w' ⟨rfl, rfl⟩) | (go_at_call 8; refine HTt.out.mono ?_; rintro e w' ⟨rfl, rfl⟩) | (go_at_call 11; refine HL.out.mono ?_; rintro e w' ⟨rfl, rfl⟩))
        go_roundw
        case rel => exact ⟨i + 1, g, by go_num, by omega, Hn.out, HS5.out⟩
        case measure => simp [intOf]; omega
      | false =>
        rw [hbb] at c0
        have hst := Go.Flow.bad_step Hf.out
        have HC := hide (Sep.call (L0 := [_]) Hs.out (HB.out _ _ _ Hf.out))
        have Hn := hide (bad_within Hf.out)
        obtain ⟨a1, a2, a3, a4, a5, a6, a7⟩ := bad_within Hf.out
        clear HG HB hbb Hf
        obtain ⟨b1, b2, b3, b4, b5, b6, b7⟩ := hww
        obtain ⟨s1, s2, s3, s4⟩ := hst
        generalize f.bad = g at *
        have x1 : ((g.window : Int) != 1) = false := by simp; omega
        have x3 : (f.wait : Int) ≤ (g.wait : Int) := by omega
        have x33 : (g.wait : Int) ≤ 2 * (f.wait : Int) := by omega
        have x4 : (1 : Int) ≤ (g.window : Int) := by omega
        have x5 : (g.window : Int) ≤ 32 := by omega
        have x6 : (2 : Int) ≤ (g.wait : Int) := by omega
        have x7 : (g.wait : Int) ≤ 64 := by omega
        have x8 : (1 : Int) ≤ (g.limit : Int) := by omega
        have x9 : (g.limit : Int) ≤ 32 := by omega
        have x0 : (f.wait : Int) ≤ 64 := by omega
        have S2 := hide (show 2 * (g.limit : Int) ≤ (f.window : Int) ∨ (f.window : Int) < 2 * (g.limit : Int) ∧ (g.limit : Int) ≤ 1 by omega)
        clear s1 s2 s3 s4 a1 a2 a3 a4 a5 a6 a7 b1 b2 b3 b4 b5 b6 b7
        go_wp2_with fail
        refine HW.out.mono ?_
        rintro e w3 ⟨rfl, rfl⟩
        go_wp2_with fail
        refine HTt.out.mono ?_
        rintro e w4 ⟨rfl, rfl⟩
        clear HW HTt
        go_wp2_with fail
        refine HC.out.mono ?_
        rintro e w5 ⟨_, ⟨rfl, rfl⟩, hs5⟩
        simp only [List.cons_append, List.nil_append] at hs5
        have HW := hide (flWindow_ok hs5)
        have HTt := hide (flWait_ok hs5)
        have HL := hide (flLimit_ok hs5)
        have HS5 := hide hs5
        clear hs5 HC Hs
        rcases S2.out with hq | ⟨hq, hq2⟩
        all_goals
          clear S2
          go_wp2_with (first | (go_at_call 7; refine HW.out.mono ?_; rintro e w' ⟨rfl, rfl⟩) | (go_at_call 8; refine HTt.out.mono ?_; rintro e w' ⟨rfl, rfl⟩) | (go_at_call 11; refine HL.out.mono ?_; rintro e w' ⟨rfl, rfl⟩))
          go_roundw
          case rel => exact ⟨i + 1, g, by go_num, by omega, Hn.out, HS5.out⟩
          case measure => simp [intOf]; omega
    · have hle : (l.length : Int) ≤ (i : Int) := by omega
      have Hb := hide Hs.out.below
      clear Hs Hf
      go_wp2_with fail
      go_ret
      exact ⟨rfl, Hb.out⟩

set_option maxHeartbeats 1000000 in
set_option maxRecDepth 100000 in
theorem fbounds_early (la : Option Addr) (lc : Nat) (l : List Bool) (w : World) (hl : 400 < l.length) :
    Calls Try.prog 3 #[.slice la l.length lc] w fun e w' => e = .returned (.bool true) ∧ Below w.heap.size w w' := by
  have HM := hide (flowed_ok w)
  have hl' : (400 : Int) < l.length := by omega
  clear hl
  go_enter Try.func3, Try.ntmps3
  go_wp2_with fail
  refine HM.out.mono ?_
  rintro e w1 ⟨rfl, hb1⟩
  have Hb1 := hide hb1
  clear hb1 HM
  go_wp2_with fail
  go_ret
  exact ⟨rfl, Hb1.out⟩
/-- FlowBounds, whole. -/
theorem fbounds_walk (v : Value) (l : List Bool) (w : World) (hT : Row1 boolV w v l) :
    Calls Try.prog 3 #[v] w fun e w' => e = .returned (.bool true) ∧ Below w.heap.size w w' := by
  have hT' := hT
  obtain ⟨ta, tc, rfl, -⟩ := hT'
  by_cases hl : 400 < l.length
  · exact fbounds_early ta tc l w hl
  · exact fbounds_main ta tc l w hT (by omega)
end Go.Proofs.Ytffcdampeehgcaa
