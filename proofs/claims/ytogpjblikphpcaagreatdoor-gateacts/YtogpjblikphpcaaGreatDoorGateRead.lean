/-
  Plain mathematics of a gate's text: lines, what is wrong with one, what is read. No program, no walk.
-/
import Derived.Test.YtogpjblikphpcaaGreatDoorGateMath
import Derived.Test.YtogpjblikphpcaaGreatDoorDigits
import Derived.Lib.Bytealg
namespace Go.Gate
open Go.Files
open Go.Digits (numberOf digits)
open Go.Proofs.YtogpjblikphpcaaGreatDoor (str strL str_len lenL)

/-- A text before and behind the first such byte. -/
def brk (c : UInt8) : List UInt8 → Option (List UInt8 × List UInt8)
  | [] => none
  | b :: r => if b = c then some ([], r) else (brk c r).map fun p => (b :: p.1, p.2)
theorem brk_some {c : UInt8} : ∀ {l x y : List UInt8}, brk c l = some (x, y) → l = x ++ c :: y ∧ c ∉ x ∧ Lib.indexByte l c = x.length
  | [], _, _, h => by cases h
  | b :: r, x, y, h => by
    rw [brk] at h
    split at h
    · rename_i e
      cases h
      subst e
      simp [Lib.indexByte]
    · rename_i e
      cases hr : brk c r with
      | none => rw [hr] at h; cases h
      | some p =>
        obtain ⟨x', y'⟩ := p
        rw [hr] at h
        cases h
        obtain ⟨h1, h2, h3⟩ := brk_some hr
        refine ⟨by rw [h1]; rfl, ?_, ?_⟩
        · simp only [List.mem_cons, not_or]
          exact ⟨fun e' => e e'.symm, h2⟩
        · rw [Lib.indexByte, h3]
          simp only [beq_iff_eq, e, if_false, List.length_cons]
          rw [if_neg (by omega)]
          omega
theorem brk_none {c : UInt8} : ∀ {l : List UInt8}, brk c l = none → c ∉ l ∧ Lib.indexByte l c = -1
  | [], _ => by simp [Lib.indexByte]
  | b :: r, h => by
    rw [brk] at h
    split at h
    · cases h
    · rename_i e
      have hr : brk c r = none := by
        cases hr : brk c r with
        | none => rfl
        | some p => rw [hr] at h; cases h
      obtain ⟨h1, h2⟩ := brk_none hr
      refine ⟨by simp only [List.mem_cons, not_or]; exact ⟨fun e' => e e'.symm, h1⟩, ?_⟩
      rw [Lib.indexByte, h2]
      simp [e]
theorem brk_of {c : UInt8} : ∀ {x y : List UInt8}, c ∉ x → brk c (x ++ c :: y) = some (x, y)
  | [], y, _ => by simp [brk]
  | b :: x, y, h => by
    simp only [List.mem_cons, not_or] at h
    rw [List.cons_append, brk, if_neg (fun e => h.1 e.symm), brk_of h.2]
    rfl
/-- A text's parts between line ends. -/
def cutL : List UInt8 → List (List UInt8)
  | [] => [[]]
  | b :: r => if b = 10 then [] :: cutL r else match cutL r with | x :: t => (b :: x) :: t | [] => [[b]]
theorem cutL_ne (s : List UInt8) : cutL s ≠ [] := by
  cases s with
  | nil => simp [cutL]
  | cons b r =>
    rw [cutL]
    split
    · simp
    · split <;> simp
theorem cutL_some : ∀ {s x y : List UInt8}, brk 10 s = some (x, y) → cutL s = x :: cutL y
  | [], _, _, h => by cases h
  | b :: r, x, y, h => by
    rw [brk] at h
    rw [cutL]
    split at h
    · rename_i e
      cases h
      rw [if_pos e]
    · rename_i e
      rw [if_neg e]
      cases hr : brk 10 r with
      | none => rw [hr] at h; cases h
      | some p =>
        obtain ⟨x', y'⟩ := p
        rw [hr] at h
        cases h
        rw [cutL_some hr]
theorem cutL_none : ∀ {s : List UInt8}, brk 10 s = none → cutL s = [s]
  | [], _ => rfl
  | b :: r, h => by
    rw [brk] at h
    split at h
    · cases h
    · rename_i e
      have hr : brk 10 r = none := by
        cases hr : brk 10 r with
        | none => rfl
        | some p => rw [hr] at h; cases h
      rw [cutL, if_neg e, cutL_none hr]
/-- What is wrong with a line behind a token (0: nothing), its token, its epoch. -/
def lineN (above : ByteArray) (x : List UInt8) : Nat × ByteArray × Int :=
  match brk 32 x with
  | none => (1, ⟨#[]⟩, 0)
  | some (nm, ds) => match numberOf ds 10 with
    | none => (1, ⟨#[]⟩, 0)
    | some n => if isNm (str nm) = false then (5, ⟨#[]⟩, 0) else if isEp n = false then (2, ⟨#[]⟩, 0) else if lt above (str nm) then (0, str nm, n) else (9, ⟨#[]⟩, 0)
/-- Lines, from one on: the gate; an error's number (0: none); where. -/
def readD : List (List UInt8) → Toks → ByteArray → Nat → Toks × Nat × Nat
  | [], g, _, i => (g, 0, i)
  | [x], g, _, i => if x = [] then (g, 0, i) else ([], 1, i)
  | x :: y :: r, g, ab, i =>
    if (lineN ab x).1 = 0 then (if g.length < 20 then readD (y :: r) (g ++ [((lineN ab x).2.1, (lineN ab x).2.2)]) (lineN ab x).2.1 (i + 1) else ([], 8, i)) else ([], (lineN ab x).1, i)
def readG (s : List UInt8) : Toks × Nat × Nat := readD (cutL s) [] ⟨#[]⟩ 0
/-- What has been read: tokens that rise, the last one at the end. -/
structure Upto (g : Toks) (ab : ByteArray) : Prop where
  fit : Fit g
  last : (g = [] ∧ ab = ⟨#[]⟩) ∨ ∃ g' n, g = g' ++ [(ab, n)]
theorem Upto.start : Upto [] ⟨#[]⟩ := ⟨Fit.nil, .inl ⟨rfl, rfl⟩⟩
theorem Upto.all {g : Toks} {ab nm : ByteArray} (h : Upto g ab) (hlt : lt ab nm = true) : ∀ p ∈ g, lt p.1 nm = true := by
  intro p hp
  rcases h.last with ⟨rfl, _⟩ | ⟨g', n, rfl⟩
  · simp at hp
  · rcases List.mem_append.1 hp with h1 | h1
    · have := h.fit.rise
      unfold RiseT at this
      rw [List.pairwise_append] at this
      exact lt_trans (this.2.2 p h1 (ab, n) (by simp)) hlt
    · simp only [List.mem_singleton] at h1
      subst h1
      exact hlt
theorem ins_end {t : ByteArray} {n : Int} : ∀ {g : Toks}, (∀ p ∈ g, lt p.1 t = true) → insT t n g = g ++ [(t, n)]
  | [], _ => rfl
  | p :: r, h => by
    rw [insT, if_pos (h p (List.mem_cons_self ..)), ins_end (fun q hq => h q (List.mem_cons_of_mem _ hq))]
    rfl
theorem Upto.more {g : Toks} {ab nm : ByteArray} {n : Int} (h : Upto g ab) (hlt : lt ab nm = true) (hn : isNm nm = true) (he : isEp n = true) (hl : g.length < 20) :
    Upto (g ++ [(nm, n)]) nm ∧ getT g nm = none ∧ insT nm n g = g ++ [(nm, n)] := by
  have ha := h.all hlt
  have hi := ins_end (n := n) ha
  have hg : getT g nm = none := getT_none.2 fun p hp => lt_ne (ha p hp)
  refine ⟨⟨?_, .inr ⟨g, n, rfl⟩⟩, hg, hi⟩
  have hf := h.fit.set nm n
  have hm : mayT g nm = 0 := mayT_zero.2 ⟨hn, fun _ => hl⟩
  have hs : setE g nm n = 0 := setE_zero.2 ⟨hm, he⟩
  have hL : lastT g nm = 0 := by unfold lastT; rw [hg]; rfl
  rw [isEp_iff] at he
  unfold setT at hf
  rw [if_pos hs, hL, Int.max_eq_right (by omega), hi] at hf
  exact hf
theorem lineN_ok {ab : ByteArray} {x : List UInt8} (h : (lineN ab x).1 = 0) : isNm (lineN ab x).2.1 = true ∧ isEp (lineN ab x).2.2 = true ∧ lt ab (lineN ab x).2.1 = true := by
  unfold lineN at *
  cases hb : brk 32 x with
  | none => rw [hb] at h; cases h
  | some p =>
    obtain ⟨nm, ds⟩ := p
    rw [hb] at h
    simp only at h ⊢
    cases hn : numberOf ds 10 with
    | none => rw [hn] at h; cases h
    | some n =>
      rw [hn] at h
      simp only at h ⊢
      split at h
      · cases h
      · rename_i h1
        split at h
        · cases h
        · rename_i h2
          split at h
          · rename_i h3
            rw [if_neg h1, if_neg h2, if_pos h3]
            exact ⟨by simpa using h1, by simpa using h2, h3⟩
          · cases h
theorem lineN_code (ab : ByteArray) (x : List UInt8) : (lineN ab x).1 = 0 ∨ (lineN ab x).1 = 1 ∨ (lineN ab x).1 = 5 ∨ (lineN ab x).1 = 2 ∨ (lineN ab x).1 = 9 := by
  unfold lineN
  cases brk 32 x with
  | none => simp
  | some p =>
    simp only
    cases numberOf p.2 10 with
    | none => simp
    | some n =>
      simp only
      split
      · simp
      · split
        · simp
        · split <;> simp
/-- What a reader answers. -/
theorem readD_code : ∀ (l : List (List UInt8)) (g : Toks) (ab : ByteArray) (i : Nat), Upto g ab → (readD l g ab i).2.1 = 0 ∧ Fit (readD l g ab i).1 ∨ ((readD l g ab i).2.1 = 1 ∨ (readD l g ab i).2.1 = 5 ∨ (readD l g ab i).2.1 = 2 ∨ (readD l g ab i).2.1 = 9 ∨ (readD l g ab i).2.1 = 8) ∧ (readD l g ab i).1 = []
  | [], g, _, i, h => by simp [readD, h.fit]
  | [x], g, _, i, h => by
    rw [readD]
    split
    · simp [h.fit]
    · simp
  | x :: y :: r, g, ab, i, h => by
    rw [readD]
    split
    · rename_i h0
      split
      · rename_i hl
        obtain ⟨h1, h2, h3⟩ := lineN_ok h0
        exact readD_code _ _ _ _ (h.more h3 h1 h2 hl).1
      · simp
    · rename_i h0
      have := lineN_code ab x
      refine .inr ⟨?_, rfl⟩
      show (lineN ab x).1 = 1 ∨ (lineN ab x).1 = 5 ∨ (lineN ab x).1 = 2 ∨ (lineN ab x).1 = 9 ∨ (lineN ab x).1 = 8
      omega
/-- What was written is read. -/
theorem lineN_lineB {ab nm : ByteArray} {n : Int} (hn : isNm nm = true) (he : isEp n = true) (hl : lt ab nm = true) : lineN ab (nm.data.toList ++ 32 :: digits n.toNat) = (0, nm, n) := by
  have h32 : (32 : UInt8) ∉ nm.data.toList := by
    intro hm
    unfold isNm at hn
    simp only [Bool.and_eq_true, List.all_eq_true] at hn
    have := hn.1 _ hm
    exact absurd this (by decide)
  rw [isEp_iff] at he
  have hnum : numberOf (digits n.toNat) 10 = some n.toNat := Go.Digits.number_digits _ _ (Go.Digits.digits_length _ 9 (by omega))
  have hst : str nm.data.toList = nm := rfl
  unfold lineN
  rw [brk_of h32]
  simp only [hnum, hst, hn]
  have hnn : ((n.toNat : Nat) : Int) = n := by omega
  rw [hnn, isEp_iff.2 he, if_pos hl]
  rfl
end Go.Gate
