/-
  Contract of the document's answer for reading texts (TextOf) over this dump.
-/
import Derived.Test.YtgcpljgdeoeppaaDoorRefRead
namespace Go.Proofs.YtgcpljgdeoeppaaDoor
open Go.RowKit

set_option maxHeartbeats 400000 in
set_option maxRecDepth 100000 in
theorem counted_ok (s : ByteArray) (w : World) (hs : s.size ≤ 20000) : Calls Tryd.prog 15 #[.string s] w fun r w' => r = .returned (.string (str (Go.Num.enc s.size ++ s.data.toList))) ∧ Below w.heap.size w w' := by
  go_enter Tryd.func15, Tryd.ntmps15
  go_wp2_with fail
  refine (numText_ok s.size _ (by omega)).mono ?_
  rintro e w1 ⟨rfl, hb1⟩
  have Hb1 := hide hb1
  clear hb1
  have hz : str (Go.Num.enc s.size) ++ s = str (Go.Num.enc s.size ++ s.data.toList) := by
    rw [← str_app]; rfl
  have hsz : (str (Go.Num.enc s.size)).size ≤ 6 := by rw [str_len]; exact Go.Num.enc_length_le _
  generalize str (Go.Num.enc s.size) = A at *
  have Hz := hide hz
  clear hz
  go_wp2_with fail
  go_ret
  rw [← Hz.out]
  exact ⟨rfl, Hb1.out⟩

theorem scan_some (f : Nat) : ∀ (L : List UInt8) (acc i0 n i : Nat), Go.Num.scan f L acc i0 = some (n, i) → i0 ≤ i ∧ i - i0 < L.length := by
  induction f with
  | zero => intro L acc i0 n i h; simp [Go.Num.scan] at h
  | succ f ih =>
    intro L acc i0 n i h
    cases L with
    | nil => simp [Go.Num.scan] at h
    | cons b r =>
      by_cases hb : b.toNat < 128
      · rw [scan_end _ _ _ _ _ hb] at h
        simp at h
        obtain ⟨_, rfl⟩ := h
        exact ⟨Nat.le_refl _, by simp⟩
      · rw [scan_next _ _ _ _ _ hb] at h
        have := ih _ _ _ _ _ h
        simp only [List.length_cons]
        omega

theorem dec_ok (L : List UInt8) (n k : Nat) (h : Go.Num.dec L = .ok (n, k)) : n ≤ 1099511627776 ∧ k ≤ L.length := by
  cases hs : Go.Num.scan 6 L 0 0 with
  | none => rw [dec_of_none _ hs] at h; cases h
  | some x =>
    obtain ⟨m, i⟩ := x
    rw [dec_of_scan _ _ _ hs] at h
    have := scan_some _ _ _ _ _ _ hs
    split at h
    · cases h
    · split at h
      · cases h
      · cases h
        omega

theorem dec_err (L : List UInt8) (c : Nat) (h : Go.Num.dec L = .error c) : c = 1 ∨ c = 2 := by
  cases hs : Go.Num.scan 6 L 0 0 with
  | none => rw [dec_of_none _ hs] at h; cases h; exact Or.inl rfl
  | some x =>
    obtain ⟨m, i⟩ := x
    rw [dec_of_scan _ _ _ hs] at h
    split at h
    · cases h; exact Or.inl rfl
    · split at h
      · cases h; exact Or.inr rfl
      · cases h

theorem numOfOut_bd (s : ByteArray) (at_ : Nat) (hat : at_ ≤ s.size) : (numOfOut s at_).1 ≤ 1099511627776 ∧ (numOfOut s at_).2.1 ≤ s.size ∧ (numOfOut s at_).2.2 ≤ 2 := by
  unfold numOfOut
  cases h : Go.Num.dec (s.data.toList.drop at_) with
  | ok x =>
    obtain ⟨n, k⟩ := x
    have := dec_ok _ _ _ h
    rw [List.length_drop, lenL] at this
    refine ⟨this.1, ?_, by simp⟩
    show at_ + k ≤ s.size
    omega
  | error c =>
    have := dec_err _ _ h
    exact ⟨by simp, hat, by show c ≤ 2; omega⟩

/-- What TextOf answers. -/
def textOfOut (s : ByteArray) (at_ : Nat) : ByteArray × Nat × Nat :=
  if 0 < (numOfOut s at_).2.2 then (ByteArray.empty, at_, (numOfOut s at_).2.2)
  else if 20000 < (numOfOut s at_).1 then (ByteArray.empty, at_, 2)
  else if s.size - (numOfOut s at_).2.1 < (numOfOut s at_).1 then (ByteArray.empty, at_, 1)
  else (s.extract (numOfOut s at_).2.1 ((numOfOut s at_).2.1 + (numOfOut s at_).1), (numOfOut s at_).2.1 + (numOfOut s at_).1, 0)

set_option maxHeartbeats 1000000 in
set_option maxRecDepth 100000 in
theorem textOf_ok (s : ByteArray) (at_ : Nat) (w : World) (hs : s.size ≤ 1000000) (hat : at_ ≤ s.size) :
    Calls Tryd.prog 19 #[.string s, .int .i64 at_] w fun r w' => r = .returned (.tuple #[.string (textOfOut s at_).1, .int .i64 (textOfOut s at_).2.1, .int .i64 (textOfOut s at_).2.2]) ∧ w' = w := by
  have hs' : (s.size : Int) ≤ 1000000 := by omega
  have hat' : (at_ : Int) ≤ s.size := by omega
  have hbd := numOfOut_bd s at_ hat
  have hto : textOfOut s at_ = if 0 < (numOfOut s at_).2.2 then (ByteArray.empty, at_, (numOfOut s at_).2.2)
      else if 20000 < (numOfOut s at_).1 then (ByteArray.empty, at_, 2)
      else if s.size - (numOfOut s at_).2.1 < (numOfOut s at_).1 then (ByteArray.empty, at_, 1)
      else (s.extract (numOfOut s at_).2.1 ((numOfOut s at_).2.1 + (numOfOut s at_).1), (numOfOut s at_).2.1 + (numOfOut s at_).1, 0) := rfl
  have hc := numOf_ok s at_ w hs hat
  generalize numOfOut s at_ = x at *
  obtain ⟨n, k, e⟩ := x
  simp only at hbd hto hc
  obtain ⟨hn, hk, he⟩ := hbd
  have hn' : (n : Int) ≤ 1099511627776 := by omega
  have hk' : (k : Int) ≤ s.size := by omega
  have he' : (e : Int) ≤ 2 := by omega
  have HC := hide hc
  clear hc
  go_enter Tryd.func19, Tryd.ntmps19
  go_wp2_with fail
  refine HC.out.mono ?_
  rintro ev w1 ⟨rfl, rfl⟩
  by_cases h1 : 0 < e
  · rw [if_pos h1] at hto
    have Hto := hide hto
    have h1' : (0 : Int) < e := by omega
    clear hto h1
    go_wp2_with fail
    go_ret3
    rw [Hto.out]
    exact ⟨rfl, rfl⟩
  rw [if_neg h1] at hto
  have h1' : (e : Int) ≤ 0 := by omega
  clear h1
  by_cases h2 : 20000 < n
  · rw [if_pos h2] at hto
    have Hto := hide hto
    have h2' : (20000 : Int) < n := by omega
    clear hto h2
    go_wp2_with fail
    go_ret3
    rw [Hto.out]
    exact ⟨rfl, rfl⟩
  rw [if_neg h2] at hto
  have h2' : (n : Int) ≤ 20000 := by omega
  clear h2
  by_cases h3 : s.size - k < n
  · rw [if_pos h3] at hto
    have Hto := hide hto
    have h3' : (s.size : Int) - k < n := by omega
    clear hto h3
    go_wp2_with fail
    go_ret3
    rw [Hto.out]
    exact ⟨rfl, rfl⟩
  rw [if_neg h3] at hto
  have Hto := hide hto
  have h3' : (n : Int) ≤ (s.size : Int) - k := by omega
  have h4' : (k : Int) + n ≤ s.size := by omega
  clear hto h3
  go_wp2_with fail
  go_ret3
  rw [Hto.out]
  exact ⟨by simp, rfl⟩
end Go.Proofs.YtgcpljgdeoeppaaDoor
