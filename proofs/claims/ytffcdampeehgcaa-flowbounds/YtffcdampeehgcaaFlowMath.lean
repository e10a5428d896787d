/-
  Plain mathematics of how much and how soon: the window, the limit, the wait, how many good ones. No program, no walk.
-/
import Derived.Test.YtffcdampeehgcaaBase
namespace Go.Flow

structure Fw where
  window : Nat
  limit : Nat
  wait : Nat
  good : Nat
def fwNew : Fw := ⟨1, 32, 2, 0⟩
def Fw.bad (f : Fw) : Fw := ⟨1, if f.window / 2 < 1 then 1 else f.window / 2, if 64 < 2 * f.wait then 64 else 2 * f.wait, 0⟩
def Fw.well (f : Fw) : Fw :=
  if f.window < f.limit then ⟨f.window + 1, f.limit, 2, 0⟩
  else if f.window ≤ f.good + 1 then ⟨if f.window < 32 then f.window + 1 else f.window, f.limit, 2, 0⟩
  else ⟨f.window, f.limit, 2, f.good + 1⟩
def Fw.next (f : Fw) (b : Bool) : Fw := if b then f.well else f.bad
structure Within (f : Fw) : Prop where
  w1 : 1 ≤ f.window
  w2 : f.window ≤ 32
  l1 : 1 ≤ f.limit
  l2 : f.limit ≤ 32
  t1 : 2 ≤ f.wait
  t2 : f.wait ≤ 64
  g : f.good < 32
theorem new_within : Within fwNew := ⟨by decide, by decide, by decide, by decide, by decide, by decide, by decide⟩
theorem bad_within {f : Fw} (h : Within f) : Within f.bad := by
  obtain ⟨h1, h2, h3, h4, h5, h6, h7⟩ := h
  refine ⟨by simp [Fw.bad], by simp [Fw.bad], ?_, ?_, ?_, ?_, by simp [Fw.bad]⟩ <;> simp only [Fw.bad] <;> split <;> omega
theorem well_within {f : Fw} (h : Within f) : Within f.well := by
  obtain ⟨h1, h2, h3, h4, h5, h6, h7⟩ := h
  unfold Fw.well
  split
  · exact ⟨by simp, by simp; omega, h3, h4, by simp, by simp, by simp⟩
  · split
    · refine ⟨?_, ?_, h3, h4, by simp, by simp, by simp⟩ <;> simp only [] <;> split <;> omega
    · exact ⟨h1, h2, h3, h4, by simp, by simp, by simp; omega⟩
theorem well_step (f : Fw) : f.window ≤ f.well.window ∧ f.well.window ≤ f.window + 1 ∧ f.well.wait = 2 ∧ f.well.limit = f.limit := by
  unfold Fw.well
  split
  · exact ⟨by simp, by simp, rfl, rfl⟩
  · split
    · refine ⟨?_, ?_, rfl, rfl⟩ <;> simp only [] <;> split <;> omega
    · exact ⟨by simp, by simp, rfl, rfl⟩
theorem bad_step {f : Fw} (h : Within f) : f.bad.window = 1 ∧ (2 * f.bad.limit ≤ f.window ∨ f.bad.limit ≤ 1) ∧ f.wait ≤ f.bad.wait ∧ f.bad.wait ≤ 2 * f.wait := by
  obtain ⟨h1, h2, h3, h4, h5, h6, h7⟩ := h
  refine ⟨rfl, ?_, ?_, ?_⟩ <;> simp only [Fw.bad] <;> split <;> omega
/-- The windows behind each. -/
def play (f : Fw) : List Bool → List Nat
  | [] => []
  | b :: l => (f.next b).window :: play (f.next b) l
def run (f : Fw) (l : List Bool) : Fw := l.foldl Fw.next f
theorem run_snoc (f : Fw) (l : List Bool) (b : Bool) : run f (l ++ [b]) = (run f l).next b := by simp [run]
theorem run_within {f : Fw} (h : Within f) (l : List Bool) : Within (run f l) := by
  induction l generalizing f with
  | nil => exact h
  | cons b l ih =>
    cases b
    · exact ih (bad_within h)
    · exact ih (well_within h)
theorem play_snoc (f : Fw) (l : List Bool) (b : Bool) : play f (l ++ [b]) = play f l ++ [((run f l).next b).window] := by
  induction l generalizing f with
  | nil => rfl
  | cons c l ih => simp only [List.cons_append, play, ih]; rfl
theorem play_length (f : Fw) (l : List Bool) : (play f l).length = l.length := by
  induction l generalizing f with
  | nil => rfl
  | cons c l ih => simp [play, ih]
theorem play_at (f : Fw) (l : List Bool) (i : Nat) (h : i < (play f l).length) : (play f l)[i] = (run f (l.take (i + 1))).window := by
  induction l generalizing f i with
  | nil => simp [play] at h
  | cons c l ih =>
    cases i with
    | zero => rfl
    | succ i =>
      simp only [play, List.getElem_cons_succ, List.take_succ_cons]
      rw [ih]
      rfl
end Go.Flow
