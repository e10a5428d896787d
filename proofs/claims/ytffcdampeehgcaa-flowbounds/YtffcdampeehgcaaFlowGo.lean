/-
  Contracts of package flow: a flow as an object of four cells; New, Good, Bad, what each of its numbers is.
-/
import Derived.Test.YtffcdampeehgcaaFlowMath
import Derived.Test.YtffcdampeehgcaaRowVal
import Derived.Deep.QuietTactic
import Derived.BigQuiet
import Derived.WalkSmall
namespace Go.Proofs.Ytffcdampeehgcaa
open Go.RowKit
open Go.Flow (Fw fwNew Within)

/-- A flow behind a pointer. -/
abbrev flC (f : Fw) : List Value := [.int .i64 (f.window : Int), .int .i64 (f.limit : Int), .int .i64 (f.wait : Int), .int .i64 (f.good : Int)]
abbrev FlF (p : Nat) (f : Fw) : Fam := CellsF p 36 (flC f)

set_option maxHeartbeats 1000000 in
set_option maxRecDepth 100000 in
theorem newFlow_ok (W : World) : Tri Try.prog 6 #[] [] (fun e L => ∃ p, e = .returned (.pointer (some ⟨p, 0, none⟩)) ∧ L = [FlF p fwNew]) W := by
  intro M hM
  have hS := (Sep.of_star hM).fresh 36 (flC fwNew)
  have HS := hide hS
  clear hS hM
  go_enter Try.func6, Try.ntmps6
  go_wp2_with fail
  go_ret
  exact ⟨_, ⟨_, rfl, rfl⟩, HS.out⟩

section reads
variable {M0 : Foot} {w0 W : World} {p : Nat} {f : Fw} {L : List Fam}
set_option maxRecDepth 100000 in
theorem flWindow_ok (h : Sep M0 w0 (FlF p f :: L) W) : Calls Try.prog 7 #[.pointer (some ⟨p, 0, none⟩)] W fun e w' => e = .returned (.int .i64 (f.window : Int)) ∧ w' = W := by
  have c0 := (h.cell 0).1
  simp only [List.getElem?_cons_zero] at c0
  clear h
  go_enter Try.func7, Try.ntmps7
  go_wp2_with fail
  go_ret
  exact ⟨rfl, rfl⟩
set_option maxRecDepth 100000 in
theorem flLimit_ok (h : Sep M0 w0 (FlF p f :: L) W) : Calls Try.prog 11 #[.pointer (some ⟨p, 0, none⟩)] W fun e w' => e = .returned (.int .i64 (f.limit : Int)) ∧ w' = W := by
  have c1 := (h.cell 1).1
  simp only [List.getElem?_cons_zero, List.getElem?_cons_succ] at c1
  clear h
  go_enter Try.func11, Try.ntmps11
  go_wp2_with fail
  go_ret
  exact ⟨rfl, rfl⟩
set_option maxRecDepth 100000 in
theorem flWait_ok (h : Sep M0 w0 (FlF p f :: L) W) : Calls Try.prog 8 #[.pointer (some ⟨p, 0, none⟩)] W fun e w' => e = .returned (.int .i64 (f.wait : Int)) ∧ w' = W := by
  have c2 := (h.cell 2).1
  simp only [List.getElem?_cons_zero, List.getElem?_cons_succ] at c2
  clear h
  go_enter Try.func8, Try.ntmps8
  go_wp2_with fail
  go_ret
  exact ⟨rfl, rfl⟩
end reads

set_option maxHeartbeats 1000000 in
set_option maxRecDepth 100000 in
theorem resize_ok (p : Nat) (f : Fw) (n : Nat) (W : World) : Tri Try.prog 16 #[.pointer (some ⟨p, 0, none⟩), .int .i64 (n : Int)] [FlF p f] (fun e L => e = .returned (.tuple #[]) ∧ L = [FlF p ⟨n, f.limit, f.wait, 0⟩]) W := by
  intro M hM
  have hS := Sep.of_star hM
  have c0 := (hS.cell 0).1
  have c3 := (hS.cell 3).1
  have f0 := (hS.cell 0).2
  have f3 := (hS.cell 3).2
  simp only [List.getElem?_cons_zero, List.getElem?_cons_succ] at c0 c3
  have HS := hide ((hS.set 0 (.int .i64 (n : Int))).set 3 (.int .i64 0))
  simp only [List.set_cons_succ, List.set_cons_zero] at HS
  clear hS hM
  go_enter Try.func16, Try.ntmps16
  go_wp2_with fail
  go_end0
  exact ⟨_, ⟨rfl, rfl⟩, HS.out⟩

set_option maxHeartbeats 1000000 in
set_option maxRecDepth 100000 in
theorem good_ok (p : Nat) (f : Fw) (W : World) (hf : Within f) : Tri Try.prog 9 #[.pointer (some ⟨p, 0, none⟩)] [FlF p f] (fun e L => e = .returned (.tuple #[]) ∧ L = [FlF p f.well]) W := by
  intro M hM
  have hS := Sep.of_star hM
  have c0 := (hS.cell 0).1
  have c1 := (hS.cell 1).1
  have c2 := (hS.cell 2).1
  have c3 := (hS.cell 3).1
  have f2 := (hS.cell 2).2
  have f3 := (hS.cell 3).2
  simp only [List.getElem?_cons_zero, List.getElem?_cons_succ] at c0 c1 c2 c3
  have hs2 := (hS.set 2 (.int .i64 2)).set 3 (.int .i64 ((f.good : Int) + 1))
  simp only [List.set_cons_succ, List.set_cons_zero] at hs2
  have HS2 : Hid (Sep M W [FlF p ⟨f.window, f.limit, 2, f.good + 1⟩] ((W.setCell ⟨p, 2, none⟩ (.int .i64 2)).setCell ⟨p, 3, none⟩ (.int .i64 ((f.good : Int) + 1)))) := hs2
  obtain ⟨h1, h2, h3, h4, h5, h6, h7⟩ := hf
  clear hS hs2 hM
  obtain ⟨win, lim, wt, gd⟩ := f
  simp only at c0 c1 c2 c3 HS2 h1 h2 h3 h4 h5 h6 h7
  have d0 := (HS2.out.cell 0).1
  have d1 := (HS2.out.cell 1).1
  have d3 := (HS2.out.cell 3).1
  simp only [List.getElem?_cons_zero, List.getElem?_cons_succ] at d0 d1 d3
  rw [Int.natCast_add, Int.natCast_one] at d3
  have hg : (gd : Int) ≤ 31 := by omega
  have hw : (win : Int) ≤ 32 := by omega
  by_cases ha : win < lim
  · have he : Fw.well ⟨win, lim, wt, gd⟩ = ⟨win + 1, lim, 2, 0⟩ := by simp only [Fw.well]; rw [if_pos ha]
    rw [he]
    have hd : decide (win < lim) = true := by simp; omega
    have hn : (win : Int) + 1 ≤ 32 := by omega
    have HR := hide (fun W' => resize_ok p ⟨win, lim, 2, gd + 1⟩ (win + 1) W')
    clear he ha h7 h6 h5
    go_enter Try.func9, Try.ntmps9
    go_wp2_with fail
    generalize (W.setCell ⟨p, 2, none⟩ (.int .i64 2)).setCell ⟨p, 3, none⟩ (.int .i64 ((gd : Int) + 1)) = W2 at *
    clear c0 c1 c2 c3 f2 f3
    go_quiet (fail)
    go_wp2_with fail
    refine (Sep.call (L0 := [_]) (HS2.out.keep (below_drewN (Below.refl _ _) nq)) (HR.out _)).mono ?_
    rintro e w1 ⟨_, ⟨rfl, rfl⟩, hs3⟩
    have HS3 := hide hs3
    clear hs3 HR HS2
    go_wp2_with fail
    go_end0
    exact ⟨_, ⟨rfl, rfl⟩, HS3.out⟩
  · have hd : decide (win < lim) = false := by simp; omega
    by_cases hb : win ≤ gd + 1
    · have he : Fw.well ⟨win, lim, wt, gd⟩ = ⟨if win < 32 then win + 1 else win, lim, 2, 0⟩ := by simp only [Fw.well]; rw [if_neg ha, if_pos hb]
      rw [he]
      have hb' : (win : Int) ≤ (gd : Int) + 1 := by omega
      have HR := hide (fun W' => resize_ok p ⟨win, lim, 2, gd + 1⟩ (if win < 32 then win + 1 else win) W')
      by_cases hq : win < 32
      · simp only [if_pos hq] at HR ⊢
        have hn : (win : Int) + 1 ≤ 32 := by omega
        clear he ha hb h7 h6 h5 hq
        go_enter Try.func9, Try.ntmps9
        go_wp2_with fail
        generalize (W.setCell ⟨p, 2, none⟩ (.int .i64 2)).setCell ⟨p, 3, none⟩ (.int .i64 ((gd : Int) + 1)) = W2 at *
        clear c0 c1 c2 c3 f2 f3
        go_quiet (fail)
        go_wp2_with fail
        refine (Sep.call (L0 := [_]) (HS2.out.keep (below_drewN (Below.refl _ _) nq)) (HR.out _)).mono ?_
        rintro e w1 ⟨_, ⟨rfl, rfl⟩, hs3⟩
        have HS3 := hide hs3
        clear hs3 HR HS2
        go_wp2_with fail
        go_end0
        exact ⟨_, ⟨rfl, rfl⟩, HS3.out⟩
      · have hq32 : (if win < 32 then win + 1 else win) = 32 := by rw [if_neg hq]; omega
        rw [hq32] at HR
        rw [hq32]
        have hn : (32 : Int) < (win : Int) + 1 := by omega
        clear hq32
        clear he ha hb h7 h6 h5 hq
        go_enter Try.func9, Try.ntmps9
        go_wp2_with fail
        generalize (W.setCell ⟨p, 2, none⟩ (.int .i64 2)).setCell ⟨p, 3, none⟩ (.int .i64 ((gd : Int) + 1)) = W2 at *
        clear c0 c1 c2 c3 f2 f3
        go_quiet (fail)
        go_wp2_with fail
        refine (Sep.call (L0 := [_]) (HS2.out.keep (below_drewN (Below.refl _ _) nq)) (HR.out _)).mono ?_
        rintro e w1 ⟨_, ⟨rfl, rfl⟩, hs3⟩
        have HS3 := hide hs3
        clear hs3 HR HS2
        go_wp2_with fail
        go_end0
        exact ⟨_, ⟨rfl, rfl⟩, HS3.out⟩
    · have he : Fw.well ⟨win, lim, wt, gd⟩ = ⟨win, lim, 2, gd + 1⟩ := by simp only [Fw.well]; rw [if_neg ha, if_neg hb]
      rw [he]
      have hb' : (gd : Int) + 1 < (win : Int) := by omega
      clear he ha hb h7 h6 h5
      go_enter Try.func9, Try.ntmps9
      go_wp2_with fail
      generalize (W.setCell ⟨p, 2, none⟩ (.int .i64 2)).setCell ⟨p, 3, none⟩ (.int .i64 ((gd : Int) + 1)) = W2 at *
      clear c0 c1 c2 c3 f2 f3
      go_quiet (fail)
      go_wp2_with fail
      go_end0
      exact ⟨_, ⟨rfl, rfl⟩, HS2.out.keep (below_drewN (Below.refl _ _) nq)⟩

set_option maxHeartbeats 1000000 in
set_option maxRecDepth 100000 in
theorem fbad_ok (p : Nat) (f : Fw) (W : World) (hf : Within f) : Tri Try.prog 10 #[.pointer (some ⟨p, 0, none⟩)] [FlF p f] (fun e L => e = .returned (.tuple #[]) ∧ L = [FlF p f.bad]) W := by
  intro M hM
  have hS := Sep.of_star hM
  have c0 := (hS.cell 0).1
  have c1 := (hS.cell 1).1
  have c2 := (hS.cell 2).1
  have f1 := (hS.cell 1).2
  simp only [List.getElem?_cons_zero, List.getElem?_cons_succ] at c0 c1 c2
  obtain ⟨h1, h2, h3, h4, h5, h6, h7⟩ := hf
  obtain ⟨win, lim, wt, gd⟩ := f
  simp only at c0 c1 c2 hS h1 h2 h3 h4 h5 h6 h7
  have hw : (win : Int) ≤ 32 := by omega
  have hw0 : (0 : Int) ≤ win := by omega
  have hq : (win : Int).tdiv 2 = ((win / 2 : Nat) : Int) := by rw [Int.tdiv_eq_ediv_of_nonneg hw0]; omega
  have hd2 : ((win / 2 : Nat) : Int) ≤ 16 := by omega
  have ht : (wt : Int) ≤ 64 := by omega
  have ht0 : (0 : Int) ≤ wt := by omega
  obtain ⟨li, hli⟩ : ∃ li : Nat, li = if win / 2 < 1 then 1 else win / 2 := ⟨_, rfl⟩
  have hmx : (if (1 : Int) > ((win / 2 : Nat) : Int) then (1 : Int) else ((win / 2 : Nat) : Int)) = (li : Int) := by
    rw [hli]; split <;> split <;> omega
  obtain ⟨wi, hwi⟩ : ∃ wi : Nat, wi = if 64 < 2 * wt then 64 else 2 * wt := ⟨_, rfl⟩
  have hmn : (if (64 : Int) < 2 * (wt : Int) then (64 : Int) else 2 * (wt : Int)) = (wi : Int) := by
    rw [hwi]; split <;> split <;> omega
  have he : Fw.bad ⟨win, lim, wt, gd⟩ = ⟨1, li, wi, 0⟩ := by simp only [Fw.bad]; rw [← hli, ← hwi]
  rw [he]
  have HS2 : Hid (Sep M W [FlF p ⟨win, li, wt, gd⟩] (W.setCell ⟨p, 1, none⟩ (.int .i64 (li : Int)))) := hS.set 1 (.int .i64 (li : Int))
  have HR := hide (fun W' => resize_ok p ⟨win, li, wt, gd⟩ 1 W')
  clear hS hM he hli hwi h1 h2 h3 h4 h5 h6 h7
  generalize win / 2 = w2 at *
  go_enter Try.func10, Try.ntmps10
  go_wp2_with fail
  refine (Sep.call (L0 := [_]) HS2.out (HR.out _)).mono ?_
  rintro e w1 ⟨_, ⟨rfl, rfl⟩, hs3⟩
  have c2 := (hs3.cell 2).1
  have f2 := (hs3.cell 2).2
  simp only [List.getElem?_cons_zero, List.getElem?_cons_succ] at c2
  have HS3 : Hid (Sep M W [FlF p ⟨1, li, wi, 0⟩] (w1.setCell ⟨p, 2, none⟩ (.int .i64 (wi : Int)))) := hs3.set 2 (.int .i64 (wi : Int))
  clear hs3 HR HS2
  go_wp2_with fail
  go_end0
  exact ⟨_, ⟨rfl, rfl⟩, HS3.out⟩
end Go.Proofs.Ytffcdampeehgcaa
