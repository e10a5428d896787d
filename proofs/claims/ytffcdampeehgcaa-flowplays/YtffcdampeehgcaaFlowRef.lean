/-
  Contracts of the document's flow: NewFlow, Next: a struct by value.
-/
import Derived.Test.YtffcdampeehgcaaFlowMath
import Derived.WalkSmall
namespace Go.Proofs.Ytffcdampeehgcaa
open Go.RowKit
open Go.Flow (Fw fwNew Within)

/-- The document's flow, by value. -/
abbrev fwV (f : Fw) : Value := .agg #[.int .i64 (f.window : Int), .int .i64 (f.limit : Int), .int .i64 (f.wait : Int), .int .i64 (f.good : Int)]

set_option maxHeartbeats 1000000 in
set_option maxRecDepth 100000 in
theorem rnewFlow_ok (W : World) : Calls Try.prog 12 #[] W fun e w' => e = .returned (fwV fwNew) ∧ Below W.heap.size W w' := by
  go_enter Try.func12, Try.ntmps12
  go_wp2
  (try simp only [Exit.inBlock, Exit.then])
  refine bodyPost_ret (v := fwV fwNew) ?_ rfl ⟨rfl, ?_⟩
  · simp only [results, show Try.f12.results = #[.cell 0 29] from rfl]
    go_simp
    exact ⟨rfl, rfl, rfl, rfl⟩
  · exact (Below.refl _ _).alloc (Nat.le_refl _) _

set_option maxHeartbeats 1000000 in
set_option maxRecDepth 100000 in
theorem rnext_ok (f : Fw) (b : Bool) (W : World) (hf : Within f) : Calls Try.prog 13 #[fwV f, .bool b] W fun e w' => e = .returned (fwV (f.next b)) ∧ Below W.heap.size W w' := by
  obtain ⟨h1, h2, h3, h4, h5, h6, h7⟩ := hf
  obtain ⟨win, lim, wt, gd⟩ := f
  simp only at h1 h2 h3 h4 h5 h6 h7
  have hw : (win : Int) ≤ 32 := by omega
  have hw0 : (0 : Int) ≤ win := by omega
  have ht : (wt : Int) ≤ 64 := by omega
  have hg : (gd : Int) ≤ 31 := by omega
  cases b with
  | false =>
    have hq : (win : Int).tdiv 2 = ((win / 2 : Nat) : Int) := by rw [Int.tdiv_eq_ediv_of_nonneg hw0]; omega
    have he : Fw.next ⟨win, lim, wt, gd⟩ false = ⟨1, if win / 2 < 1 then 1 else win / 2, if 64 < 2 * wt then 64 else 2 * wt, 0⟩ := rfl
    rw [he]
    have hw2 : ((win / 2 : Nat) : Int) ≤ 16 := by omega
    clear he h1 h2 h3 h4 h5 h6 h7
    generalize win / 2 = w2 at *
    obtain ⟨li, hli⟩ : ∃ li : Nat, li = if w2 < 1 then 1 else w2 := ⟨_, rfl⟩
    obtain ⟨wi, hwi⟩ : ∃ wi : Nat, wi = if 64 < 2 * wt then 64 else 2 * wt := ⟨_, rfl⟩
    rw [← hli, ← hwi]
    have Hli := hide hli
    have Hwi := hide hwi
    clear hli hwi
    go_enter Try.func13, Try.ntmps13
    go_wp2
    all_goals
      (try simp only [Exit.inBlock, Exit.then])
      refine bodyPost_ret (v := fwV ⟨1, li, wi, 0⟩) ?_ rfl ⟨rfl, ((Below.refl _ _).alloc (Nat.le_refl _) _).alloc (by simp) _⟩
      simp only [results, show Try.f13.results = #[.cell 4 29] from rfl]
      go_simp
      have e1 := Hli.out
      have e2 := Hwi.out
      split at e1 <;> split at e2 <;> omega
  | true =>
    have he : Fw.next ⟨win, lim, wt, gd⟩ true = Fw.well ⟨win, lim, wt, gd⟩ := rfl
    rw [he]
    have Hw : Hid (Fw.well ⟨win, lim, wt, gd⟩ = if win < lim then ⟨win + 1, lim, 2, 0⟩ else if win ≤ gd + 1 then ⟨if win < 32 then win + 1 else win, lim, 2, 0⟩ else ⟨win, lim, 2, gd + 1⟩) := rfl
    generalize Fw.well ⟨win, lim, wt, gd⟩ = g at *
    clear he h1 h2 h3 h4 h5 h6 h7
    go_enter Try.func13, Try.ntmps13
    go_wp2
    all_goals
      (try simp only [Exit.inBlock, Exit.then])
      refine bodyPost_ret (v := fwV g) ?_ rfl ⟨rfl, ((Below.refl _ _).alloc (Nat.le_refl _) _).alloc (by simp) _⟩
      simp only [results, show Try.f13.results = #[.cell 4 29] from rfl]
      go_simp
      have e1 := Hw.out
      clear Hw
      (repeat' split at e1) <;> subst e1 <;> first | omega | (refine ⟨?_, ?_, ?_, ?_⟩ <;> first | trivial | rfl | (simp; done) | omega)
end Go.Proofs.Ytffcdampeehgcaa
