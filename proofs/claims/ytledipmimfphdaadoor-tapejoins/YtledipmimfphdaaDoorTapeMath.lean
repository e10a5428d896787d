/-
  Plain mathematics of a tape: records, what is read of bytes, what a cut leaves. No program, no walk.
-/
import Derived.Test.YtledipmimfphdaaDoorGateRead
namespace Go.Tape
open Go.Digits (digits numberOf)
open Go.Gate (brk brk_some brk_none brk_of)

/-- A record. -/
def recB (s : List UInt8) : List UInt8 := digits s.length ++ 58 :: (s ++ [10, 46])
def recsB (l : List (List UInt8)) : List UInt8 := l.flatMap recB
/-- The record at the beginning, and what is behind it. -/
def oneR (b : List UInt8) : Option (List UInt8 × List UInt8) :=
  match brk 58 b with
  | none => none
  | some (ds, r) => match numberOf ds 9 with
    | none => none
    | some n => if 20000 < n ∨ r.length < n + 2 ∨ (r.drop n).take 2 ≠ [10, 46] then none else some (r.take n, r.drop (n + 2))
/-- Records from the beginning, so many at most; how many bytes they have. -/
def readF : Nat → List UInt8 → List (List UInt8) × Nat
  | 0, _ => ([], 0)
  | k + 1, b => match oneR b with
    | none => ([], 0)
    | some (s, r) => (s :: (readF k r).1, (b.length - r.length) + (readF k r).2)
def readT (b : List UInt8) : List (List UInt8) × Nat := readF (b.length + 1) b

theorem out_58 (n : Nat) : (58 : UInt8) ∉ digits n := by
  intro h
  have := List.all_eq_true.1 (Go.Digits.digits_all n) _ h
  revert this
  decide
theorem brk_out {c : UInt8} : ∀ {l : List UInt8}, c ∉ l → brk c l = none
  | [], _ => rfl
  | b :: r, h => by
    simp only [List.mem_cons, not_or] at h
    rw [brk, if_neg (fun e => h.1 e.symm), brk_out h.2]
    rfl
theorem number_len {n : Nat} (h : n ≤ 20000) : numberOf (digits n) 9 = some n :=
  Go.Digits.number_digits n 9 (by have := Go.Digits.digits_length n 4 (by omega); omega)
theorem digits5 {n : Nat} (h : n ≤ 20000) : (digits n).length ≤ 5 := Go.Digits.digits_length n 4 (by omega)
theorem recB_length (s : List UInt8) : (recB s).length = (digits s.length).length + s.length + 3 := by simp [recB]; omega
theorem oneR_rec {s : List UInt8} (h : s.length ≤ 20000) (b : List UInt8) : oneR (recB s ++ b) = some (s, b) := by
  have e : recB s ++ b = digits s.length ++ 58 :: (s ++ ([10, 46] ++ b)) := by simp [recB]
  have h1 : (s ++ ([10, 46] ++ b)).drop s.length = [10, 46] ++ b := List.drop_left
  have h2 : (s ++ ([10, 46] ++ b)).take s.length = s := List.take_left
  have h3 : (s ++ ([10, 46] ++ b)).drop (s.length + 2) = b := by
    rw [← List.drop_drop, h1]
    rfl
  rw [e, oneR, brk_of (out_58 _)]
  simp only [number_len h]
  rw [if_neg, h2, h3]
  rw [h1]
  simp only [not_or]
  exact ⟨by omega, by simp, by simp⟩
theorem oneR_some {b s r : List UInt8} (h : oneR b = some (s, r)) : b = recB s ++ r ∧ s.length ≤ 20000 := by
  unfold oneR at h
  cases hb : brk 58 b with
  | none => rw [hb] at h; cases h
  | some p =>
    obtain ⟨ds, q⟩ := p
    rw [hb] at h
    simp only at h
    cases hn : numberOf ds 9 with
    | none => rw [hn] at h; cases h
    | some n =>
      rw [hn] at h
      simp only at h
      split at h
      · cases h
      · rename_i hc
        simp only [not_or, Classical.not_not] at hc
        obtain ⟨h1, h2, h3⟩ := hc
        cases h
        obtain ⟨hd, _⟩ := Go.Digits.number_canon hn
        obtain ⟨hbe, _, _⟩ := brk_some hb
        have hl : (q.take n).length = n := by rw [List.length_take]; omega
        refine ⟨?_, by omega⟩
        have hq : q.take n ++ [10, 46] ++ q.drop (n + 2) = q := by
          rw [← h3, ← List.drop_drop, List.append_assoc, List.take_append_drop, List.take_append_drop]
        rw [recB, hl, hbe, hd]
        conv => lhs; rw [← hq]
        simp
theorem oneR_less {b s r : List UInt8} (h : oneR b = some (s, r)) : r.length < b.length := by
  rw [(oneR_some h).1, List.length_append, recB_length]
  omega
theorem readF_fuel : ∀ (k k' : Nat) (b : List UInt8), b.length < k → b.length < k' → readF k b = readF k' b
  | 0, _, _, h, _ => absurd h (Nat.not_lt_zero _)
  | _ + 1, 0, _, _, h => absurd h (Nat.not_lt_zero _)
  | k + 1, k' + 1, b, h, h' => by
    rw [readF, readF]
    cases ho : oneR b with
    | none => rfl
    | some p =>
      obtain ⟨s, r⟩ := p
      have := oneR_less ho
      simp only
      rw [readF_fuel k k' r (by omega) (by omega)]
theorem readT_none {b : List UInt8} (h : oneR b = none) : readT b = ([], 0) := by rw [readT, readF, h]
theorem readT_some {b s r : List UInt8} (h : oneR b = some (s, r)) : readT b = (s :: (readT r).1, (recB s).length + (readT r).2) := by
  have hl := oneR_less h
  have he := congrArg List.length (oneR_some h).1
  rw [List.length_append] at he
  rw [readT, readF, h]
  simp only
  rw [readF_fuel b.length (r.length + 1) r (by omega) (by omega), show b.length - r.length = (recB s).length by omega]
  rfl
theorem readT_nil : readT [] = ([], 0) := readT_none rfl
theorem readT_rec {s : List UInt8} (h : s.length ≤ 20000) (b : List UInt8) : readT (recB s ++ b) = (s :: (readT b).1, (recB s).length + (readT b).2) := readT_some (oneR_rec h b)
/-- Records and whatever is behind them. -/
theorem readT_recs : ∀ (l : List (List UInt8)), (∀ s ∈ l, s.length ≤ 20000) → ∀ b, readT (recsB l ++ b) = (l ++ (readT b).1, (recsB l).length + (readT b).2)
  | [], _, b => by simp [recsB]
  | s :: l, h, b => by
    have e : recsB (s :: l) ++ b = recB s ++ (recsB l ++ b) := by simp [recsB]
    have e2 : (recsB (s :: l)).length = (recB s).length + (recsB l).length := by simp [recsB]
    rw [e, readT_rec (h s (List.mem_cons_self ..)), readT_recs l (fun x hx => h x (List.mem_cons_of_mem _ hx)), e2, Nat.add_assoc]
    rfl
theorem readT_all {l : List (List UInt8)} (h : ∀ s ∈ l, s.length ≤ 20000) : readT (recsB l) = (l, (recsB l).length) := by
  have := readT_recs l h []
  rw [List.append_nil, readT_nil] at this
  simpa using this
/-- A record that is cut is none. -/
theorem oneR_cut {s : List UInt8} (h : s.length ≤ 20000) {k : Nat} (hk : k < (recB s).length) : oneR ((recB s).take k) = none := by
  by_cases h1 : k ≤ (digits s.length).length
  · have e : (recB s).take k = (digits s.length).take k := by rw [recB, List.take_append_of_le_length h1]
    rw [e, oneR, brk_out (fun hm => out_58 _ (List.mem_of_mem_take hm))]
  · obtain ⟨m, hm⟩ : ∃ m, k = (digits s.length).length + (m + 1) := ⟨k - (digits s.length).length - 1, by omega⟩
    have e : (recB s).take k = digits s.length ++ 58 :: (s ++ [10, 46]).take m := by
      rw [recB, hm, List.take_length_add_append, List.take_succ_cons]
    rw [e, oneR, brk_of (out_58 _)]
    simp only [number_len h]
    rw [if_pos]
    refine .inr (.inl ?_)
    rw [recB_length] at hk
    rw [List.length_take, List.length_append]
    simp only [List.length_cons, List.length_nil]
    omega
theorem readT_cut {l : List (List UInt8)} (hl : ∀ s ∈ l, s.length ≤ 20000) {s : List UInt8} (h : s.length ≤ 20000) {k : Nat} (hk : k < (recB s).length) : readT (recsB l ++ (recB s).take k) = (l, (recsB l).length) := by
  rw [readT_recs l hl, readT_none (oneR_cut h hk)]
  simp
/-- What is read lies there. -/
theorem readT_sound : ∀ (n : Nat) (b : List UInt8), b.length ≤ n → ∃ r, b = recsB (readT b).1 ++ r ∧ (readT b).2 = (recsB (readT b).1).length ∧ ∀ s ∈ (readT b).1, s.length ≤ 20000
  | n, b, h => by
    cases ho : oneR b with
    | none => rw [readT_none ho]; exact ⟨b, by simp [recsB], rfl, by simp⟩
    | some p =>
      obtain ⟨s, r⟩ := p
      have hl := oneR_less ho
      obtain ⟨he, hs⟩ := oneR_some ho
      match n, h with
      | 0, h => omega
      | n + 1, h =>
        obtain ⟨q, h1, h2, h3⟩ := readT_sound n r (by omega)
        rw [readT_some ho]
        refine ⟨q, ?_, ?_, ?_⟩
        · rw [he]
          conv => lhs; rw [h1]
          simp [recsB]
        · simp [recsB, h2]
        · intro x hx
          rcases List.mem_cons.1 hx with rfl | hx
          · exact hs
          · exact h3 x hx
theorem readT_le (b : List UInt8) : (readT b).2 ≤ b.length := by
  obtain ⟨r, h1, h2, _⟩ := readT_sound _ b (Nat.le_refl _)
  rw [h2]
  conv => rhs; rw [h1]
  simp
theorem readT_take (b : List UInt8) : b.take (readT b).2 = recsB (readT b).1 := by
  obtain ⟨r, h1, h2, _⟩ := readT_sound _ b (Nat.le_refl _)
  rw [h2]
  exact (congrArg (List.take _) h1).trans List.take_left

/-! ### A tape -/
open Go.Proofs.YtledipmimfphdaaDoor (str strL str_len lenL)
/-- A tape: its bytes; is power off? how many bytes until it fails (below 0: it does not). -/
structure Tp where
  b : ByteArray
  off : Bool
  cut : Int
def rec1 (s : ByteArray) : ByteArray := str (recB s.data.toList)
def Tp.appE (d : Tp) (s : ByteArray) : Nat :=
  if 20000 < s.size then 2 else if 1048576 < d.b.size + (rec1 s).size then 8 else if d.off = true then 12 else if 0 ≤ d.cut ∧ d.cut < (rec1 s).size then 12 else 0
def Tp.app (d : Tp) (s : ByteArray) : Tp :=
  if 20000 < s.size ∨ 1048576 < d.b.size + (rec1 s).size ∨ d.off = true then d
  else if 0 ≤ d.cut ∧ d.cut < (rec1 s).size then ⟨d.b ++ (rec1 s).extract 0 d.cut.toNat, true, d.cut⟩
  else ⟨d.b ++ rec1 s, false, if 0 ≤ d.cut then d.cut - (rec1 s).size else d.cut⟩
def Tp.cutE (d : Tp) (n : Int) : Nat := if n < 0 then 2 else if d.off = true then 12 else 0
def Tp.set (d : Tp) (n : Int) : Tp := if n < 0 ∨ d.off = true then d else ⟨d.b, d.off, n⟩
def Tp.on (d : Tp) : Tp := ⟨d.b, false, -1⟩
def Tp.texts (d : Tp) : List ByteArray := (readT d.b.data.toList).1.map str
def Tp.back (d : Tp) : Tp := ⟨d.b.extract 0 (readT d.b.data.toList).2, false, -1⟩
/-- What a tape holds, wherever power was cut. -/
def Holds (d : Tp) (l : List (List UInt8)) : Prop :=
  (∀ s ∈ l, s.length ≤ 20000) ∧ ((d.off = false ∧ d.b.data.toList = recsB l) ∨ (d.off = true ∧ ∃ s k, s.length ≤ 20000 ∧ k < (recB s).length ∧ d.b.data.toList = recsB l ++ (recB s).take k))
theorem Holds.read {d : Tp} {l : List (List UInt8)} (h : Holds d l) : readT d.b.data.toList = (l, (recsB l).length) := by
  obtain ⟨hl, ⟨_, hb⟩ | ⟨_, s, k, hs, hk, hb⟩⟩ := h
  · rw [hb, readT_all hl]
  · rw [hb, readT_cut hl hs hk]
theorem rec1_len (s : ByteArray) : (rec1 s).size = (recB s.data.toList).length := str_len _
theorem Holds.start (c : Int) : Holds ⟨⟨#[]⟩, false, c⟩ [] := ⟨by simp, .inl ⟨rfl, rfl⟩⟩
theorem Holds.app {d : Tp} {l : List (List UInt8)} (h : Holds d l) (s : ByteArray) :
    (d.appE s = 0 → Holds (d.app s) (l ++ [s.data.toList])) ∧ (d.appE s ≠ 0 → Holds (d.app s) l) := by
  obtain ⟨hl, hh⟩ := h
  unfold Tp.appE Tp.app
  by_cases h1 : 20000 < s.size
  · rw [if_pos h1, if_pos (.inl h1)]
    exact ⟨fun h => (by cases h), fun _ => ⟨hl, hh⟩⟩
  · rw [if_neg h1]
    by_cases h2 : 1048576 < d.b.size + (rec1 s).size
    · rw [if_pos h2, if_pos (.inr (.inl h2))]
      exact ⟨fun h => (by cases h), fun _ => ⟨hl, hh⟩⟩
    · rw [if_neg h2]
      by_cases h3 : d.off = true
      · rw [if_pos h3, if_pos (.inr (.inr h3))]
        exact ⟨fun h => (by cases h), fun _ => ⟨hl, hh⟩⟩
      · have hb : d.b.data.toList = recsB l := by
          rcases hh with ⟨_, hb⟩ | ⟨ho, _⟩
          · exact hb
          · exact absurd ho h3
        have hs : s.data.toList.length ≤ 20000 := by rw [lenL]; omega
        have hn : ¬ (20000 < s.size ∨ 1048576 < d.b.size + (rec1 s).size ∨ d.off = true) := fun h => h.elim h1 (fun h => h.elim h2 h3)
        rw [if_neg h3, if_neg hn]
        by_cases h4 : 0 ≤ d.cut ∧ d.cut < (rec1 s).size
        · rw [if_pos h4, if_pos h4]
          refine ⟨fun h => (by cases h), fun _ => ⟨hl, .inr ⟨rfl, s.data.toList, d.cut.toNat, hs, by rw [← rec1_len]; omega, ?_⟩⟩⟩
          rw [Go.Proofs.YtledipmimfphdaaDoor.appendL, Go.Proofs.YtledipmimfphdaaDoor.extractL, hb, rec1, strL]
          simp
        · rw [if_neg h4, if_neg h4]
          refine ⟨fun _ => ⟨fun x hx => ?_, .inl ⟨rfl, ?_⟩⟩, fun h => absurd rfl h⟩
          · rcases List.mem_append.1 hx with hx | hx
            · exact hl x hx
            · simp only [List.mem_singleton] at hx
              subst hx
              exact hs
          · rw [Go.Proofs.YtledipmimfphdaaDoor.appendL, hb, rec1, strL]
            simp [recsB]
theorem Holds.back {d : Tp} {l : List (List UInt8)} (h : Holds d l) : Holds d.back l ∧ d.back.b.data.toList = recsB l ∧ d.texts = l.map str := by
  have hr := h.read
  have hb : d.back.b.data.toList = recsB l := by
    show (d.b.extract 0 (readT d.b.data.toList).2).data.toList = _
    have ht := readT_take d.b.data.toList
    rw [hr] at ht
    rw [Go.Proofs.YtledipmimfphdaaDoor.extractL, hr, List.drop_zero, Nat.sub_zero]
    exact ht
  refine ⟨⟨h.1, .inl ⟨rfl, hb⟩⟩, hb, ?_⟩
  unfold Tp.texts
  rw [hr]
end Go.Tape
