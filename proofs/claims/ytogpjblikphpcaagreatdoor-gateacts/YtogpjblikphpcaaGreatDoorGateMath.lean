/-
  Plain mathematics of epochs: tokens that rise, each with its last epoch; what is opened, set, admitted. No program, no walk.
-/
import Derived.Test.YtogpjblikphpcaaGreatDoorFilesMath
namespace Go.Gate
open Go.Files

/-- Tokens with their last epochs. -/
abbrev Toks := List (ByteArray × Int)
def getT : Toks → ByteArray → Option Int
  | [], _ => none
  | p :: r, t => if p.1 = t then some p.2 else getT r t
def lastT (l : Toks) (t : ByteArray) : Int := (getT l t).getD 0
def insT (t : ByteArray) (n : Int) : Toks → Toks
  | [] => [(t, n)]
  | p :: r => if lt p.1 t then p :: insT t n r else (t, n) :: (if p.1 = t then r else p :: r)
def RiseT (l : Toks) : Prop := l.Pairwise fun p q => lt p.1 q.1 = true
def isEp (n : Int) : Bool := decide (1 ≤ n) && decide (n ≤ 2147483648)
structure Fit (l : Toks) : Prop where
  rise : RiseT l
  ok : ∀ p ∈ l, isNm p.1 = true ∧ isEp p.2 = true
  len : l.length ≤ 20
/-- May it be there? (5: its name, 8: too many.) -/
def mayT (l : Toks) (t : ByteArray) : Nat := if isNm t = false then 5 else if (getT l t).isNone ∧ 20 ≤ l.length then 8 else 0
def setE (l : Toks) (t : ByteArray) (n : Int) : Nat := if mayT l t = 0 then (if isEp n then 0 else 2) else mayT l t
def setT (l : Toks) (t : ByteArray) (n : Int) : Toks := if setE l t n = 0 then insT t (max (lastT l t) n) l else l
def openE (l : Toks) (t : ByteArray) : Nat := setE l t (lastT l t + 1)
def openN (l : Toks) (t : ByteArray) : Int := if openE l t = 0 then lastT l t + 1 else 0
def openT (l : Toks) (t : ByteArray) : Toks := setT l t (lastT l t + 1)
def admE (l : Toks) (t : ByteArray) (n : Int) : Nat := match getT l t with | none => 6 | some m => if n = m then 0 else 11

theorem isEp_iff {n : Int} : isEp n = true ↔ 1 ≤ n ∧ n ≤ 2147483648 := by simp [isEp]
theorem riseT_cons {p : ByteArray × Int} {r : Toks} : RiseT (p :: r) ↔ (∀ x ∈ r, lt p.1 x.1 = true) ∧ RiseT r := by simp [RiseT, List.pairwise_cons]
theorem Fit.nil : Fit [] := ⟨List.Pairwise.nil, by simp, by simp⟩
theorem getT_mem : ∀ {l : Toks} {t : ByteArray} {n : Int}, getT l t = some n → (t, n) ∈ l
  | [], _, _, h => by cases h
  | p :: r, t, n, h => by
    rw [getT] at h
    split at h
    · rename_i e
      cases h
      subst e
      exact List.mem_cons_self ..
    · exact List.mem_cons_of_mem _ (getT_mem h)
theorem getT_of_mem : ∀ {l : Toks}, RiseT l → ∀ {p : ByteArray × Int}, p ∈ l → getT l p.1 = some p.2
  | [], _, _, h => by cases h
  | q :: r, hr, p, h => by
    obtain ⟨h1, h2⟩ := riseT_cons.1 hr
    rw [getT]
    rcases List.mem_cons.1 h with rfl | hm
    · rw [if_pos rfl]
    · rw [if_neg (lt_ne (h1 p hm)), getT_of_mem h2 hm]
theorem getT_none : ∀ {l : Toks} {t : ByteArray}, getT l t = none ↔ ∀ p ∈ l, p.1 ≠ t
  | [], t => by simp [getT]
  | p :: r, t => by
    rw [getT]
    split
    · rename_i e
      simp [e]
    · rename_i e
      rw [getT_none (l := r)]
      simp only [List.mem_cons, forall_eq_or_imp, ne_eq, e, not_false_eq_true, true_and]
theorem getT_ins (t : ByteArray) (n : Int) : ∀ (l : Toks), RiseT l → ∀ x, getT (insT t n l) x = if x = t then some n else getT l x
  | [], _, x => by
    simp only [insT, getT]
    by_cases h : x = t
    · simp [h]
    · rw [if_neg (fun e => h e.symm), if_neg h]
  | p :: r, hr, x => by
    obtain ⟨h1, h2⟩ := riseT_cons.1 hr
    rw [insT]
    split
    · rename_i hl
      rw [getT, getT, getT_ins t n r h2 x]
      by_cases hx : x = t
      · rw [if_pos hx, if_pos hx, if_neg (by rw [hx]; exact lt_ne hl)]
      · rw [if_neg hx, if_neg hx]
    · rename_i hl
      split
      · rename_i he
        rw [getT]
        by_cases hx : x = t
        · rw [if_pos hx, if_pos hx.symm]
        · rw [if_neg hx, if_neg (fun e => hx e.symm), getT, if_neg (by rw [he]; exact fun e => hx e.symm)]
      · rename_i he
        rw [getT]
        by_cases hx : x = t
        · rw [if_pos hx, if_pos hx.symm]
        · rw [if_neg hx, if_neg (fun e => hx e.symm)]
theorem mem_ins {t : ByteArray} {n : Int} : ∀ {l : Toks} {x : ByteArray × Int}, x ∈ insT t n l → x = (t, n) ∨ x ∈ l
  | [], x, h => by simp only [insT, List.mem_singleton] at h; exact Or.inl h
  | p :: r, x, h => by
    rw [insT] at h
    split at h
    · rcases List.mem_cons.1 h with rfl | h
      · exact Or.inr (List.mem_cons_self ..)
      · rcases mem_ins h with h | h
        · exact Or.inl h
        · exact Or.inr (List.mem_cons_of_mem _ h)
    · rcases List.mem_cons.1 h with rfl | h
      · exact Or.inl rfl
      · split at h
        · exact Or.inr (List.mem_cons_of_mem _ h)
        · exact Or.inr h
theorem rise_ins (t : ByteArray) (n : Int) : ∀ (l : Toks), RiseT l → RiseT (insT t n l)
  | [], _ => by simp [insT, RiseT]
  | p :: r, hr => by
    obtain ⟨h1, h2⟩ := riseT_cons.1 hr
    rw [insT]
    split
    · rename_i hl
      refine riseT_cons.2 ⟨fun x hx => ?_, rise_ins t n r h2⟩
      rcases mem_ins hx with rfl | hx
      · exact hl
      · exact h1 x hx
    · rename_i hl
      have hl' : lt p.1 t = false := by simpa using hl
      split
      · rename_i he
        refine riseT_cons.2 ⟨fun x hx => ?_, h2⟩
        rw [← he]
        exact h1 x hx
      · rename_i he
        have hal := lt_of hl' he
        refine riseT_cons.2 ⟨fun x hx => ?_, hr⟩
        rcases List.mem_cons.1 hx with rfl | hx
        · exact hal
        · exact lt_trans hal (h1 x hx)
/-- A new one makes one more; one that is there none. -/
theorem ins_perm_new (t : ByteArray) (n : Int) : ∀ {l : Toks}, (∀ p ∈ l, p.1 ≠ t) → (insT t n l).Perm (l ++ [(t, n)])
  | [], _ => List.Perm.refl _
  | p :: r, h => by
    rw [insT]
    have h1 : p.1 ≠ t := h p (List.mem_cons_self ..)
    split
    · exact (ins_perm_new t n (fun q hq => h q (List.mem_cons_of_mem _ hq))).cons p
    · exact (List.perm_append_comm (l₁ := [(t, n)]) (l₂ := p :: r))
theorem ins_map (t : ByteArray) (n : Int) : ∀ {l : Toks}, RiseT l → (getT l t).isSome → insT t n l = l.map fun p => if p.1 = t then (t, n) else p
  | [], _, h => by simp [getT] at h
  | p :: r, hr, h => by
    obtain ⟨h1, h2⟩ := riseT_cons.1 hr
    rw [insT, List.map_cons]
    split
    · rename_i hl
      rw [if_neg (lt_ne hl)]
      rw [getT, if_neg (lt_ne hl)] at h
      rw [ins_map t n h2 h]
    · rename_i hl
      by_cases he : p.1 = t
      · rw [if_pos he, if_pos he]
        congr 1
        rw [List.map_congr_left (g := id), List.map_id]
        intro q hq
        have := h1 q hq
        rw [he] at this
        rw [if_neg (fun e => lt_ne this e.symm)]
        rfl
      · exfalso
        have hal := lt_of (by simpa using hl) he
        rw [getT, if_neg he] at h
        obtain ⟨m, hm⟩ := Option.isSome_iff_exists.1 h
        have := h1 _ (getT_mem hm)
        simp only at this
        rw [lt_asymm hal] at this
        cases this
theorem ins_length (t : ByteArray) (n : Int) {l : Toks} (hr : RiseT l) : (insT t n l).length = if (getT l t).isNone then l.length + 1 else l.length := by
  cases h : getT l t with
  | none =>
    rw [(ins_perm_new t n (getT_none.1 h)).length_eq]
    simp
  | some m =>
    rw [ins_map t n hr (by rw [h]; rfl)]
    simp
theorem setE_zero {l : Toks} {t : ByteArray} {n : Int} : setE l t n = 0 ↔ mayT l t = 0 ∧ isEp n = true := by
  unfold setE
  split
  · rename_i h
    split
    · rename_i h2; simp [h, h2]
    · rename_i h2; simp [h2]
  · rename_i h; simp [h]
theorem mayT_zero {l : Toks} {t : ByteArray} : mayT l t = 0 ↔ isNm t = true ∧ ((getT l t).isNone → l.length < 20) := by
  unfold mayT
  cases hn : isNm t with
  | false => simp
  | true =>
    simp only [Bool.true_eq_false, if_false, true_and]
    split
    · rename_i h
      constructor
      · intro h; cases h
      · intro k
        have := k h.1
        omega
    · rename_i h
      simp only [true_iff]
      intro k
      have : ¬ 20 ≤ l.length := fun e => h ⟨k, e⟩
      omega
theorem last_bound {l : Toks} (h : Fit l) (t : ByteArray) : 0 ≤ lastT l t ∧ lastT l t ≤ 2147483648 := by
  unfold lastT
  cases e : getT l t with
  | none => simp
  | some n =>
    have := (h.ok _ (getT_mem e)).2
    rw [isEp_iff] at this
    simp only [Option.getD_some]
    omega
theorem Fit.set {l : Toks} (h : Fit l) (t : ByteArray) (n : Int) : Fit (setT l t n) := by
  unfold setT
  split
  · rename_i he
    obtain ⟨h1, h2⟩ := setE_zero.1 he
    obtain ⟨h3, h4⟩ := mayT_zero.1 h1
    have hb := last_bound h t
    rw [isEp_iff] at h2
    refine ⟨rise_ins _ _ _ h.rise, fun p hp => ?_, ?_⟩
    · rcases mem_ins hp with rfl | hp
      · exact ⟨h3, isEp_iff.2 (by simp only; omega)⟩
      · exact h.ok p hp
    · rw [ins_length t _ h.rise]
      split
      · rename_i e
        have := h4 e
        omega
      · exact h.len
  · exact h
theorem Fit.open {l : Toks} (h : Fit l) (t : ByteArray) : Fit (openT l t) := h.set t _
theorem last_ins {l : Toks} (hr : RiseT l) (t : ByteArray) (n : Int) (x : ByteArray) : lastT (insT t n l) x = if x = t then n else lastT l x := by
  unfold lastT
  rw [getT_ins t n l hr x]
  split <;> rfl
/-- There is an epoch just where there is a token. -/
theorem last_zero {l : Toks} (h : Fit l) (t : ByteArray) : lastT l t = 0 ↔ getT l t = none := by
  unfold lastT
  cases e : getT l t with
  | none => simp
  | some n =>
    have := (h.ok _ (getT_mem e)).2
    rw [isEp_iff] at this
    simp only [Option.getD_some, reduceCtorEq, iff_false]
    omega
theorem adm_last {l : Toks} (h : Fit l) (t : ByteArray) (n : Int) : admE l t n = if lastT l t = 0 then 6 else if lastT l t ≠ n then 11 else 0 := by
  unfold admE
  cases e : getT l t with
  | none => rw [if_pos ((last_zero h t).2 e)]
  | some m =>
    have h0 : lastT l t ≠ 0 := fun k => by rw [(last_zero h t).1 k] at e; cases e
    have h1 : lastT l t = m := by unfold lastT; rw [e]; rfl
    rw [if_neg h0, h1]
    by_cases hm : n = m
    · subst hm; simp
    · rw [if_pos (fun e => hm e.symm)]
      simp [hm]
theorem code_cases (l : Toks) (t : ByteArray) (n : Int) : setE l t n = 0 ∨ setE l t n = 5 ∨ setE l t n = 8 ∨ setE l t n = 2 := by
  unfold setE mayT
  repeat' split
  all_goals simp_all
end Go.Gate
