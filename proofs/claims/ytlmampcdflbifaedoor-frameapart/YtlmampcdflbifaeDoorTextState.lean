/-
  Contract of the reader's Text in whatever state it is, over this dump.
-/
import Derived.Test.YtlmampcdflbifaeDoorRdState
import Derived.Test.YtlmampcdflbifaeDoorJoin01
namespace Go.Proofs.YtlmampcdflbifaeDoor
open Go.RowKit
open Go.Delta (txt)

theorem numS_numD (s : List UInt8) : numS (.ok s) = match Go.Sign.num s with | .ok (n, r) => (n, .ok r) | .error c => (0, .error c) := by
  simp only [numS, Go.Sign.num]
  cases Go.Num.dec s with
  | error c => rfl
  | ok x => rfl
theorem numS_zero {st : St} {c : Nat} (h : (numS st).2 = .error c) : (numS st).1 = 0 := by
  cases st with
  | error c' => rfl
  | ok l =>
    rw [numS_numD] at h ⊢
    split at h
    · cases h
    · rfl

/-- What Text makes of the reader. -/
def textS (st : St) : List UInt8 × St :=
  match (numS st).2 with
  | .error c => ([], .error c)
  | .ok l => if 20000 < (numS st).1 then ([], .error 2) else if l.length < (numS st).1 then ([], .error 1) else (l.take (numS st).1, .ok (l.drop (numS st).1))
theorem textS_len (st : St) : lenS (textS st).2 ≤ lenS st := by
  have := numS_len st
  unfold textS
  split
  · simp [lenS]
  · rename_i l h
    rw [h] at this
    split
    · simp [lenS]
    · split
      · simp [lenS]
      · simp only [lenS, List.length_drop] at this ⊢; omega
theorem textS_txt (s : List UInt8) : textS (.ok s) = match txt s with | .ok (d, r) => (d, .ok r) | .error c => ([], .error c) := by
  unfold textS txt
  rw [numS_numD]
  cases Go.Sign.num s with
  | error c => rfl
  | ok x =>
    obtain ⟨n, r⟩ := x
    simp only
    split
    · rfl
    · split <;> rfl

set_option maxHeartbeats 1000000 in
set_option maxRecDepth 100000 in
theorem textSt (e : EV) (p : Nat) (st : St) (w0 w : World) (h0 : Er1 e w0) (hp : w0.heap.size ≤ p) (h : RdSt e p w st) (hs : lenS st ≤ 1000000) (he : Er1 e w) :
    Calls Tryd.prog 24 #[.pointer (some ⟨p, 0, none⟩)] w fun r w' => r = .returned (.string (str (textS st).1)) ∧ RdSt e p w' (textS st).2 ∧ w.grownBy w' (some p) := by
  have HA := hide (numSt e p st w h hs he)
  have hl := numS_len st
  have hn := numS_le st
  have HZ := hide (fun c => numS_zero (st := st) (c := c))
  have HE0 := hide (fun W (b : w.grownBy W (some p)) => Er1.grown h0 hp he b)
  have hT : textS st = match (numS st).2 with | .error c => ([], .error c) | .ok l => if 20000 < (numS st).1 then ([], .error 2) else if l.length < (numS st).1 then ([], .error 1) else (l.take (numS st).1, .ok (l.drop (numS st).1)) := rfl
  generalize textS st = T at *
  generalize numS st = x at *
  obtain ⟨n, st1⟩ := x
  simp only at HA hl hn HZ hT
  have hn' : (n : Int) ≤ 1099511627776 := by omega
  clear h he h0 hp
  cases st1 with
  | error c =>
    have hz := HZ.out c rfl
    subst hz
    simp only at hT
    subst hT
    clear HZ HE0
    go_enter Tryd.func24, Tryd.ntmps24
    go_wp2_with fail
    refine HA.out.mono ?_
    rintro r w1 ⟨rfl, h1, hg1⟩
    obtain ⟨hc, hr1⟩ := h1
    have Hr1 := hide hr1
    have Hc := hide hc
    have Hg1 := hide hg1
    clear hg1 hc
    obtain ⟨c0, c1, f0, f1, lt⟩ := hr1
    go_wp2
    go_ret
    refine ⟨rfl, ⟨Hc.out, ?_⟩, grow_set Hg1.out _⟩
    refine ⟨World.cell?_setCell_same _ _ _ c0, ?_, by simpa using f0, by simpa using f1, by simpa using lt⟩
    rw [World.cell?_setCell_other _ _ _ _ (by simp)]; exact c1
  | ok l =>
    simp only at hT
    clear HZ
    by_cases h2 : 20000 < n
    · rw [if_pos h2] at hT
      subst hT
      have h2' : (20000 : Int) < n := by omega
      clear h2
      go_enter Tryd.func24, Tryd.ntmps24
      go_wp2_with fail
      refine HA.out.mono ?_
      rintro r w1 ⟨rfl, ⟨s1, hs1, hr1⟩, hg1⟩
      have Hr1 := hide hr1
      have Hg1 := hide hg1
      have hB := (HE0.out _ hg1).bound
      clear hg1 hs1 hr1
      go_wp2_with fail
      refine (failR4 _ _ _ _ _ Hr1.out).mono ?_
      rintro r w2 ⟨rfl, h3, hg3⟩
      have H3 := hide h3
      have Hg3 := hide hg3
      clear h3 hg3
      go_wp2
      go_ret
      exact ⟨rfl, ⟨Or.inr rfl, H3.out⟩, grow_trans Hg1.out Hg3.out⟩
    · rw [if_neg h2] at hT
      have h2' : (n : Int) ≤ 20000 := by omega
      clear h2
      by_cases h3 : l.length < n
      · rw [if_pos h3] at hT
        subst hT
        have HL := hide h3
        clear h3
        go_enter Tryd.func24, Tryd.ntmps24
        go_wp2_with fail
        refine HA.out.mono ?_
        rintro r w1 ⟨rfl, ⟨s1, hs1, hr1⟩, hg1⟩
        have hsz : (s1.size : Int) < n := by have := HL.out; rw [← hs1, lenL] at this; omega
        have Hr1 := hide hr1
        have Hg1 := hide hg1
        have hT := (HE0.out _ hg1).text
        clear hg1 hs1
        obtain ⟨c0, c1, f0, f1, lt⟩ := hr1
        go_wp2_with fail
        refine (failR4 _ _ _ _ _ Hr1.out).mono ?_
        rintro r w2 ⟨rfl, h3, hg3⟩
        have H3 := hide h3
        have Hg3 := hide hg3
        clear h3 hg3
        go_wp2
        go_ret
        exact ⟨rfl, ⟨Or.inl rfl, H3.out⟩, grow_trans Hg1.out Hg3.out⟩
      · rw [if_neg h3] at hT
        subst hT
        have HL := hide h3
        clear h3
        go_enter Tryd.func24, Tryd.ntmps24
        go_wp2_with fail
        refine HA.out.mono ?_
        rintro r w1 ⟨rfl, ⟨s1, hs1, hr1⟩, hg1⟩
        have hsz : (n : Int) ≤ s1.size := by have := HL.out; rw [← hs1, lenL] at this; omega
        have Hg1 := hide hg1
        have Hs1 := hide hs1
        clear hg1 hs1
        obtain ⟨c0, c1, f0, f1, lt⟩ := hr1
        have et : str (l.take n) = s1.extract 0 n := ext_of_list (by rw [strL, extractL, ← Hs1.out]; simp)
        have Het := hide et
        clear et
        go_wp2
        go_ret
        refine ⟨by rw [Het.out]; rfl, ⟨s1.extract n s1.size, ?_, ?_⟩, grow_set Hg1.out _⟩
        · rw [extractL, ← Hs1.out]
          exact List.take_of_length_le (by rw [List.length_drop, lenL]; omega)
        · refine ⟨World.cell?_setCell_same _ _ _ c0, ?_, by simpa using f0, by simpa using f1, by simpa using lt⟩
          rw [World.cell?_setCell_other _ _ _ _ (by simp)]; exact c1
end Go.Proofs.YtlmampcdflbifaeDoor
