/-
  Plain mathematics of files: names, their order, what is wrong with a list, what is got, put and dropped. No program, no walk.
-/
import Derived.Test.YtogpjblikphpcaaGreatDoorBase
namespace Go.Files
open Go.Proofs.YtogpjblikphpcaaGreatDoor (lenL bytes_ext)

/-- A file of a tree. -/
structure Fl where
  name : ByteArray
  data : ByteArray
  deriving DecidableEq, Inhabited
/-- A line of a list. -/
structure Ln where
  name : ByteArray
  n : Int
  sum : Int
  deriving DecidableEq, Inhabited

/-! ### Names rise -/
theorem less_irrefl : ∀ x : List UInt8, Op.bytesLess x x = false
  | [] => rfl
  | a :: x => by simp [Op.bytesLess, less_irrefl x]
theorem less_trans : ∀ x y z : List UInt8, Op.bytesLess x y = true → Op.bytesLess y z = true → Op.bytesLess x z = true
  | _, [], _, h, _ => by simp [Op.bytesLess] at h
  | _, _ :: _, [], _, h => by simp [Op.bytesLess] at h
  | [], _ :: _, _ :: _, _, _ => rfl
  | a :: x, b :: y, c :: z, h, k => by
    simp only [Op.bytesLess, Bool.or_eq_true, Bool.and_eq_true, decide_eq_true_eq, beq_iff_eq] at h k ⊢
    rcases h with h | ⟨rfl, h⟩
    · rcases k with k | ⟨rfl, _⟩
      · exact Or.inl (UInt8.lt_trans h k)
      · exact Or.inl h
    · rcases k with k | ⟨rfl, k⟩
      · exact Or.inl k
      · exact Or.inr ⟨rfl, less_trans x y z h k⟩
theorem less_total : ∀ x y : List UInt8, Op.bytesLess x y = false → Op.bytesLess y x = false → x = y
  | [], [], _, _ => rfl
  | [], _ :: _, h, _ => by simp [Op.bytesLess] at h
  | _ :: _, [], _, h => by simp [Op.bytesLess] at h
  | a :: x, b :: y, h, k => by
    simp only [Op.bytesLess, Bool.or_eq_false_iff, Bool.and_eq_false_iff, decide_eq_false_iff_not, beq_eq_false_iff_ne] at h k
    obtain ⟨h1, h2⟩ := h
    obtain ⟨k1, k2⟩ := k
    have hab : a = b := UInt8.le_antisymm (UInt8.not_lt.1 k1) (UInt8.not_lt.1 h1)
    subst hab
    rcases h2 with h2 | h2
    · exact absurd rfl h2
    · rcases k2 with k2 | k2
      · exact absurd rfl k2
      · rw [less_total x y h2 k2]
/-- One name comes ahead of another. -/
def lt (a b : ByteArray) : Bool := Op.bytesLess a.toList b.toList
theorem lt_irrefl (a : ByteArray) : lt a a = false := less_irrefl _
theorem lt_trans {a b c : ByteArray} (h : lt a b = true) (k : lt b c = true) : lt a c = true := less_trans _ _ _ h k
theorem lt_total {a b : ByteArray} (h : lt a b = false) (k : lt b a = false) : a = b := bytes_ext (less_total _ _ h k)
theorem lt_ne {a b : ByteArray} (h : lt a b = true) : a ≠ b := fun e => by rw [e, lt_irrefl] at h; cases h
theorem lt_asymm {a b : ByteArray} (h : lt a b = true) : lt b a = false := by
  cases hb : lt b a with
  | false => rfl
  | true =>
    have := lt_trans h hb
    rw [lt_irrefl] at this
    cases this
theorem lt_of {a b : ByteArray} (h : lt a b = false) (hne : a ≠ b) : lt b a = true := by
  cases hb : lt b a with
  | false => exact absurd (lt_total h hb) hne
  | true => rfl

/-! ### What is wrong -/
/-- A sign that may stand in a name. -/
def okc (c : UInt8) : Bool := (decide (97 ≤ c.toNat) && decide (c.toNat ≤ 122)) || (decide (48 ≤ c.toNat) && decide (c.toNat ≤ 57)) || decide (c.toNat = 46) || decide (c.toNat = 45)
def isNm (s : ByteArray) : Bool := s.data.toList.all okc && (decide (1 ≤ s.size) && decide (s.size ≤ 12))
/-- What is wrong with one, behind another one (5: its name, 2: how many bytes, 9: its order). -/
def bad (prev : Option ByteArray) (name : ByteArray) (n : Int) : Nat :=
  if isNm name = false then 5 else if n < 0 ∨ 4000 < n then 2 else match prev with | some p => (if lt p name then 0 else 9) | none => 0
/-- The first wrong one: its place and an error's number. -/
def scanF : List (ByteArray × Int) → Option ByteArray → Nat → Option (Nat × Nat)
  | [], _, _ => none
  | (a, n) :: r, p, i => if bad p a n = 0 then scanF r (some a) (i + 1) else some (i, bad p a n)
/-- An error's number (0: none) and its place (-1: nowhere). -/
def faultF (l : List (ByteArray × Int)) : Nat × Int :=
  if 20 < l.length then (8, -1) else match scanF l none 0 with | none => (0, -1) | some (i, c) => (c, i)
def keyF (f : Fl) : ByteArray × Int := (f.name, (f.data.size : Int))
def keyL (f : Ln) : ByteArray × Int := (f.name, f.n)
def prevOf (l : List (ByteArray × Int)) (j : Nat) : Option ByteArray := if j = 0 then none else (l[j - 1]?).map (·.1)
theorem scanF_step (l : List (ByteArray × Int)) (j : Nat) (h : j < l.length) :
    scanF (l.drop j) (prevOf l j) j = if bad (prevOf l j) l[j].1 l[j].2 = 0 then scanF (l.drop (j + 1)) (prevOf l (j + 1)) (j + 1) else some (j, bad (prevOf l j) l[j].1 l[j].2) := by
  rw [List.drop_eq_getElem_cons h, scanF]
  have e : prevOf l (j + 1) = some l[j].1 := by simp [prevOf, h]
  rw [e]
theorem bad_code (p : Option ByteArray) (a : ByteArray) (n : Int) : bad p a n = 0 ∨ bad p a n = 5 ∨ bad p a n = 2 ∨ bad p a n = 9 := by
  unfold bad
  split
  · simp
  · split
    · simp
    · split
      · split <;> simp
      · simp
theorem scanF_code : ∀ (l : List (ByteArray × Int)) (p : Option ByteArray) (i k c : Nat), scanF l p i = some (k, c) → (c = 5 ∨ c = 2 ∨ c = 9) ∧ i ≤ k ∧ k < i + l.length
  | [], _, _, _, _, h => by cases h
  | (a, n) :: r, p, i, k, c, h => by
    rw [scanF] at h
    split at h
    · have := scanF_code r _ _ _ _ h
      simp only [List.length_cons]
      omega
    · rename_i hb
      cases h
      have := bad_code p a n
      simp only [List.length_cons]
      omega
theorem faultF_code (l : List (ByteArray × Int)) : (faultF l).1 = 0 ∨ (faultF l).1 = 8 ∨ (faultF l).1 = 5 ∨ (faultF l).1 = 2 ∨ (faultF l).1 = 9 := by
  unfold faultF
  split
  · simp
  · split
    · simp
    · rename_i i c h
      have := (scanF_code _ _ _ _ _ h).1
      simp only
      omega
/-- All is well with one. -/
def okK (x : ByteArray × Int) : Prop := isNm x.1 = true ∧ 0 ≤ x.2 ∧ x.2 ≤ 4000
/-- Names that rise. -/
def Rise (l : List ByteArray) : Prop := l.Pairwise fun a b => lt a b = true
theorem bad_zero {p : Option ByteArray} {a : ByteArray} {n : Int} : bad p a n = 0 ↔ okK (a, n) ∧ ∀ q, p = some q → lt q a = true := by
  unfold bad okK
  simp only
  cases hn : isNm a with
  | false => simp
  | true =>
    simp only [Bool.true_eq_false, if_false, true_and]
    split
    · constructor
      · intro h; cases h
      · intro h; omega
    · cases p with
      | none => simp; omega
      | some q =>
        simp only
        cases hl : lt q a with
        | true => simp [hl]; omega
        | false => simp [hl]
theorem scanF_none : ∀ (l : List (ByteArray × Int)) (p : Option ByteArray) (i : Nat), scanF l p i = none ↔ (∀ x ∈ l, okK x) ∧ Rise (p.toList ++ l.map (·.1)) ∨ False
  | [], p, i => by cases p <;> simp [scanF, Rise]
  | (a, n) :: r, p, i => by
    rw [scanF]
    split
    · rename_i hb
      obtain ⟨h1, h2⟩ := bad_zero.1 hb
      rw [scanF_none r (some a) (i + 1)]
      simp only [or_false]
      cases p with
      | none => simp [Rise, h1]
      | some q =>
        have hq := h2 q rfl
        simp only [Rise, Option.toList_some, List.singleton_append, List.map_cons, List.mem_cons, forall_eq_or_imp, List.pairwise_cons]
        constructor
        · rintro ⟨x1, x2, x3⟩
          exact ⟨⟨h1, x1⟩, ⟨hq, fun b hb => lt_trans hq (x2 b hb)⟩, x2, x3⟩
        · rintro ⟨⟨_, x1⟩, _, x2, x3⟩
          exact ⟨x1, x2, x3⟩
    · rename_i hb
      simp only [reduceCtorEq, or_false, false_iff]
      rintro ⟨h1, h2⟩
      apply hb
      refine bad_zero.2 ⟨h1 _ (List.mem_cons_self ..), fun q hq => ?_⟩
      subst hq
      simp only [Rise, Option.toList_some, List.singleton_append, List.map_cons, List.pairwise_cons] at h2
      exact h2.1 a (List.mem_cons_self ..)
/-- All is well with a list. -/
structure Well (l : List (ByteArray × Int)) : Prop where
  len : l.length ≤ 20
  ok : ∀ x ∈ l, okK x
  rise : Rise (l.map (·.1))
theorem faultF_zero {l : List (ByteArray × Int)} : (faultF l).1 = 0 ↔ Well l := by
  unfold faultF
  split
  · rename_i h
    constructor
    · intro h; cases h
    · intro h2
      have := h2.len
      omega
  · rename_i h
    have hs := scanF_none l none 0
    simp only [Option.toList_none, List.nil_append, or_false] at hs
    split
    · rename_i hn
      have h2 := hs.1 hn
      exact ⟨fun _ => ⟨by omega, h2.1, h2.2⟩, fun _ => rfl⟩
    · rename_i i c hn
      have hc := (scanF_code _ _ _ _ _ hn).1
      constructor
      · intro h; simp only at h; omega
      · intro h2
        rw [hs.2 ⟨h2.ok, h2.rise⟩] at hn
        cases hn
theorem faultF_well {l : List (ByteArray × Int)} (h : Well l) : faultF l = (0, -1) := by
  unfold faultF
  rw [if_neg (by have := h.len; omega), ((scanF_none l none 0).2 (Or.inl ⟨h.ok, by simpa using h.rise⟩))]

/-! ### Got, dropped, put -/
def getF : List Fl → ByteArray → Option ByteArray
  | [], _ => none
  | f :: r, a => if f.name = a then some f.data else getF r a
def dropF (l : List Fl) (a : ByteArray) : List Fl := l.filter fun f => decide (f.name ≠ a)
def insF (a d : ByteArray) : List Fl → List Fl
  | [] => [⟨a, d⟩]
  | f :: r => if lt f.name a then f :: insF a d r else ⟨a, d⟩ :: (if f.name = a then r else f :: r)
def putF (l : List Fl) (a d : ByteArray) : List Fl × Nat × Int :=
  if (faultF (l.map keyF)).1 = 0 then (if (faultF ((insF a d l).map keyF)).1 = 0 then (insF a d l, 0, -1) else ([], faultF ((insF a d l).map keyF))) else ([], faultF (l.map keyF))
/-- Names that rise, of files. -/
def RiseF (l : List Fl) : Prop := Rise (l.map (·.name))
theorem riseF_cons {f : Fl} {r : List Fl} : RiseF (f :: r) ↔ (∀ x ∈ r, lt f.name x.name = true) ∧ RiseF r := by
  simp [RiseF, Rise, List.pairwise_cons]
theorem well_rise {l : List Fl} (h : Well (l.map keyF)) : RiseF l := by
  have := h.rise
  rw [List.map_map] at this
  exact this
theorem getF_mem : ∀ {l : List Fl} {a d : ByteArray}, getF l a = some d → (⟨a, d⟩ : Fl) ∈ l
  | [], _, _, h => by cases h
  | f :: r, a, d, h => by
    rw [getF] at h
    split at h
    · rename_i e
      cases h
      subst e
      exact List.mem_cons_self ..
    · exact List.mem_cons_of_mem _ (getF_mem h)
theorem getF_of_mem : ∀ {l : List Fl}, RiseF l → ∀ {f : Fl}, f ∈ l → getF l f.name = some f.data
  | [], _, _, h => by cases h
  | g :: r, hr, f, h => by
    obtain ⟨h1, h2⟩ := riseF_cons.1 hr
    rw [getF]
    rcases List.mem_cons.1 h with rfl | hm
    · rw [if_pos rfl]
    · rw [if_neg (lt_ne (h1 f hm)), getF_of_mem h2 hm]
theorem getF_none : ∀ {l : List Fl} {a : ByteArray}, getF l a = none ↔ ∀ f ∈ l, f.name ≠ a
  | [], a => by simp [getF]
  | g :: r, a => by
    rw [getF]
    split
    · rename_i e
      simp [e]
    · rename_i e
      rw [getF_none (l := r)]
      simp [e]
/-- What was put is got, and others are as they were. -/
theorem getF_ins (a d : ByteArray) : ∀ (l : List Fl), RiseF l → ∀ x, getF (insF a d l) x = if x = a then some d else getF l x
  | [], _, x => by
    simp only [insF, getF]
    by_cases h : x = a
    · simp [h]
    · rw [if_neg (fun e => h e.symm), if_neg h]
  | f :: r, hr, x => by
    obtain ⟨h1, h2⟩ := riseF_cons.1 hr
    rw [insF]
    split
    · rename_i hl
      rw [getF, getF, getF_ins a d r h2 x]
      by_cases hx : x = a
      · rw [if_pos hx, if_pos hx, if_neg (by rw [hx]; exact lt_ne hl)]
      · rw [if_neg hx, if_neg hx]
    · rename_i hl
      split
      · rename_i he
        rw [getF]
        by_cases hx : x = a
        · rw [if_pos hx, if_pos hx.symm]
        · rw [if_neg hx, if_neg (fun e => hx e.symm), getF, if_neg (by rw [he]; exact fun e => hx e.symm)]
      · rename_i he
        rw [getF]
        by_cases hx : x = a
        · rw [if_pos hx, if_pos hx.symm]
        · rw [if_neg hx, if_neg (fun e => hx e.symm)]
theorem mem_ins {a d : ByteArray} : ∀ {l : List Fl} {x : Fl}, x ∈ insF a d l → x = ⟨a, d⟩ ∨ x ∈ l
  | [], x, h => by simp only [insF, List.mem_singleton] at h; exact Or.inl h
  | f :: r, x, h => by
    rw [insF] at h
    split at h
    · rcases List.mem_cons.1 h with rfl | h
      · exact Or.inr (List.mem_cons_self ..)
      · rcases mem_ins h with h | h
        · exact Or.inl h
        · exact Or.inr (List.mem_cons_of_mem _ h)
    · rcases List.mem_cons.1 h with rfl | h
      · exact Or.inl rfl
      · split at h
        · exact Or.inr (List.mem_cons_of_mem _ h)
        · exact Or.inr h
theorem rise_ins (a d : ByteArray) : ∀ (l : List Fl), RiseF l → RiseF (insF a d l)
  | [], _ => by simp [insF, RiseF, Rise]
  | f :: r, hr => by
    obtain ⟨h1, h2⟩ := riseF_cons.1 hr
    rw [insF]
    split
    · rename_i hl
      refine riseF_cons.2 ⟨fun x hx => ?_, rise_ins a d r h2⟩
      rcases mem_ins hx with rfl | hx
      · exact hl
      · exact h1 x hx
    · rename_i hl
      have hl' : lt f.name a = false := by simpa using hl
      split
      · rename_i he
        refine riseF_cons.2 ⟨fun x hx => ?_, h2⟩
        rw [← he]
        exact h1 x hx
      · rename_i he
        have hal := lt_of hl' he
        refine riseF_cons.2 ⟨fun x hx => ?_, hr⟩
        rcases List.mem_cons.1 hx with rfl | hx
        · exact hal
        · exact lt_trans hal (h1 x hx)
end Go.Files
