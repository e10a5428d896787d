/-
  Plain mathematics of plans that are done: what was put is got, and at the end there is just what there was to be. No program, no walk.
  Small facts that the walks of FilesKeep and FilesBack share.
-/
import Derived.Test.YtbflmkjlpopeaadDoorJoin04
namespace Go.Files
open Go.Proofs.YtbflmkjlpopeaadDoor (lenL)

theorem nodup_len {α : Type} [DecidableEq α] : ∀ {l m : List α}, l.Nodup → (∀ x ∈ l, x ∈ m) → l.length ≤ m.length
  | [], m, _, _ => by simp
  | a :: l, m, h, hs => by
    have ha : a ∈ m := hs a (List.mem_cons_self ..)
    have h' := List.nodup_cons.1 h
    have := nodup_len (l := l) (m := m.erase a) h'.2 (fun x hx => (List.mem_erase_of_ne (fun e => h'.1 (by rw [← e]; exact hx))).2 (hs x (List.mem_cons_of_mem _ hx)))
    have hl := List.length_erase_of_mem ha
    have hp := List.length_pos_of_mem ha
    simp only [List.length_cons]
    omega
theorem rise_nodup {l : List ByteArray} (h : Rise l) : l.Nodup := List.Pairwise.imp (fun h => lt_ne h) h

/-- What holds of the files between two steps of a plan from T to F, of which k steps are done. -/
structure Mid (F T : List Fl) (P : List St) (k : Nat) (now : List Fl) : Prop where
  rise : RiseF now
  ok : ∀ f ∈ now, okK (keyF f)
  sub : ∀ f ∈ now, getF F f.name ≠ none
  sent : ∀ f ∈ F, (⟨kSend, f.name⟩ : St) ∈ P.take k → getF now f.name = some f.data
  kept : ∀ f ∈ F, (⟨kKeep, f.name⟩ : St) ∈ P → getF now f.name = getF T f.name
theorem sub_len {F now : List Fl} (hF : Well (F.map keyF)) (hr : RiseF now) (hs : ∀ f ∈ now, getF F f.name ≠ none) : now.length ≤ 20 := by
  have h := nodup_len (l := now.map fun f => f.name) (m := F.map fun f => f.name) (rise_nodup (show Rise (now.map fun f => f.name) from hr)) (by
    intro x hx
    obtain ⟨f, hf, rfl⟩ := List.mem_map.1 hx
    have := hs f hf
    cases hg : getF F f.name with
    | none => exact absurd hg this
    | some d => exact List.mem_map.2 ⟨_, getF_mem hg, rfl⟩)
  have := hF.len
  simp only [List.length_map] at h this
  omega
theorem well_of {F now : List Fl} (hF : Well (F.map keyF)) (hr : RiseF now) (ho : ∀ f ∈ now, okK (keyF f)) (hs : ∀ f ∈ now, getF F f.name ≠ none) : Well (now.map keyF) where
  len := by rw [List.length_map]; exact sub_len hF hr hs
  ok := by intro x hx; obtain ⟨f, hf, rfl⟩ := List.mem_map.1 hx; exact ho f hf
  rise := by rw [List.map_map]; exact hr
theorem Mid.well {F T : List Fl} {P : List St} {k : Nat} {now : List Fl} (h : Mid F T P k now) (hF : Well (F.map keyF)) : Well (now.map keyF) := well_of hF h.rise h.ok h.sub

/-- The files while the first k steps' drops are done. -/
def dropped (T : List Fl) (P : List St) (k : Nat) : List Fl := T.filter fun f => decide ((⟨kDrop, f.name⟩ : St) ∉ P.take k)
theorem dropped_zero (T : List Fl) (P : List St) : dropped T P 0 = T := by
  unfold dropped
  rw [List.filter_eq_self]
  simp
theorem mem_next {P : List St} {k : Nat} (hk : k < P.length) (s : St) : s ∈ P.take (k + 1) ↔ s ∈ P.take k ∨ s = P[k] := by
  rw [List.take_succ_eq_append_getElem hk, List.mem_append, List.mem_singleton]
theorem dropped_step (T : List Fl) (P : List St) (k : Nat) (hk : k < P.length) : dropped T P (k + 1) = if P[k].kind = kDrop then dropF (dropped T P k) P[k].name else dropped T P k := by
  unfold dropped dropF
  split
  · rename_i h
    rw [List.filter_filter]
    congr 1
    funext f
    rw [← Bool.decide_and, decide_eq_decide, mem_next hk, not_or, and_comm]
    refine and_congr_left' ?_
    constructor
    · intro h1 e; exact h1 (by rw [e, ← h])
    · intro h1 e; exact h1 (by rw [← e])
  · rename_i h
    congr 1
    funext f
    rw [decide_eq_decide, mem_next hk, not_or]
    exact ⟨fun h => h.1, fun h1 => ⟨h1, fun e => h (by rw [← e])⟩⟩
theorem getF_filter {p : Fl → Bool} : ∀ {l : List Fl} {a : ByteArray}, (∀ f ∈ l, f.name = a → p f = true) → getF (l.filter p) a = getF l a
  | [], _, _ => rfl
  | f :: r, a, h => by
    have ih := getF_filter (p := p) (l := r) (a := a) (fun g hg => h g (List.mem_cons_of_mem _ hg))
    by_cases hp : p f = true
    · rw [List.filter_cons_of_pos hp, getF, getF, ih]
    · rw [List.filter_cons_of_neg hp, ih, getF, if_neg (fun e => hp (h f (List.mem_cons_self ..) e))]
theorem name_once {P : List St} (h : Rise (P.map (·.name))) {s t : St} (hs : s ∈ P) (ht : t ∈ P) (e : s.name = t.name) : s = t := by
  induction P with
  | nil => cases hs
  | cons x r ih =>
    simp only [List.map_cons, Rise, List.pairwise_cons] at h
    rcases List.mem_cons.1 hs with e1 | hs1 <;> rcases List.mem_cons.1 ht with e2 | ht1
    · rw [e1, e2]
    · rw [e1] at e
      exact absurd e (lt_ne (h.1 _ (List.mem_map_of_mem (f := fun s : St => s.name) ht1)))
    · rw [e2] at e
      exact absurd e.symm (lt_ne (h.1 _ (List.mem_map_of_mem (f := fun s : St => s.name) hs1)))
    · exact ih h.2 hs1 ht1
/-- Where all drops are done. -/
theorem mid_start {F T : List Fl} (hF : Well (F.map keyF)) (hT : Well (T.map keyF)) : Mid F T (planM (F.map lineOf) (T.map lineOf)) 0 (dropped T (planM (F.map lineOf) (T.map lineOf)) (planM (F.map lineOf) (T.map lineOf)).length) := by
  have hr := plan_rise _ _ (rise_lines hF) (rise_lines hT)
  have hd := fun a => plan_drops a _ _ (rise_lines hF) (rise_lines hT)
  have ht := well_rise hT
  generalize planM (F.map lineOf) (T.map lineOf) = P at *
  unfold dropped
  rw [List.take_length]
  refine ⟨?_, ?_, ?_, ?_, ?_⟩
  · exact List.Pairwise.sublist ((List.filter_sublist).map _) ht
  · intro f hf
    exact hT.ok _ (List.mem_map_of_mem (List.mem_filter.1 hf).1)
  · intro f hf hn
    obtain ⟨h1, h2⟩ := List.mem_filter.1 hf
    have h2 := of_decide_eq_true h2
    refine h2 ((hd f.name).2 ?_)
    rw [findL_lines, findL_lines, hn, getF_of_mem ht h1]
    simp
  · intro f _ h
    simp at h
  · intro f hf hk
    refine getF_filter (fun g _ e => decide_eq_true (fun hm => ?_))
    rw [e] at hm
    have := name_once hr hk hm rfl
    exact keep_ne_drop (congrArg St.kind this)
/-- A step that sends nothing. -/
theorem Mid.skip {F T : List Fl} {P : List St} {k : Nat} {now : List Fl} (h : Mid F T P k now) (hk : k < P.length) (hs : P[k].kind ≠ kSend) : Mid F T P (k + 1) now where
  rise := h.rise
  ok := h.ok
  sub := h.sub
  kept := h.kept
  sent := by
    intro f hf hm
    rw [List.take_succ_eq_append_getElem hk, List.mem_append, List.mem_singleton] at hm
    rcases hm with hm | hm
    · exact h.sent f hf hm
    · exact absurd (by rw [← hm]) hs
/-- A step that sends. -/
theorem Mid.send {F T : List Fl} {P : List St} {k : Nat} {now : List Fl} (h : Mid F T P k now) (hF : Well (F.map keyF)) (hr : Rise (P.map (·.name))) (hk : k < P.length) (hs : P[k].kind = kSend) {d : ByteArray} (hd : getF F P[k].name = some d) : Mid F T P (k + 1) (insF P[k].name d now) where
  rise := rise_ins _ _ _ h.rise
  ok := by
    intro f hf
    rcases mem_ins hf with rfl | hf
    · exact hF.ok _ (List.mem_map_of_mem (f := keyF) (getF_mem hd))
    · exact h.ok f hf
  sub := by
    intro f hf
    rcases mem_ins hf with rfl | hf
    · simp only; rw [hd]; simp
    · exact h.sub f hf
  kept := by
    intro f hf hm
    rw [getF_ins _ _ _ h.rise, if_neg, h.kept f hf hm]
    intro e
    have := name_once hr hm (List.getElem_mem hk) e
    rw [← this] at hs
    exact send_ne_keep hs.symm
  sent := by
    intro f hf hm
    rw [getF_ins _ _ _ h.rise]
    by_cases e : f.name = P[k].name
    · rw [if_pos e, ← hd, ← e, getF_of_mem (well_rise hF) hf]
    · rw [if_neg e]
      rw [List.take_succ_eq_append_getElem hk, List.mem_append, List.mem_singleton] at hm
      rcases hm with hm | hm
      · exact h.sent f hf hm
      · exact absurd (by rw [← hm]) e
theorem put_well {l : List Fl} {a d : ByteArray} (h : Well (l.map keyF)) (h' : Well ((insF a d l).map keyF)) : putF l a d = (insF a d l, 0, -1) := by
  unfold putF
  rw [if_pos (faultF_zero.2 h), if_pos (faultF_zero.2 h')]
/-- Files that are got, each, with a like line: the lines are the same. -/
theorem same_lines : ∀ {l m : List Fl}, RiseF l → RiseF m → (∀ f ∈ m, ∃ d, getF l f.name = some d ∧ lineOf ⟨f.name, d⟩ = lineOf f) → (∀ f ∈ l, getF m f.name ≠ none) → l.map lineOf = m.map lineOf
  | [], [], _, _, _, _ => rfl
  | [], y :: m, _, _, h, _ => by obtain ⟨d, h, _⟩ := h y (List.mem_cons_self ..); cases h
  | x :: l, [], _, _, _, h => by exact absurd rfl (h x (List.mem_cons_self ..))
  | x :: l, y :: m, hl, hm, h, k => by
    obtain ⟨l1, l2⟩ := riseF_cons.1 hl
    obtain ⟨m1, m2⟩ := riseF_cons.1 hm
    have hxy : x.name = y.name := by
      obtain ⟨d, h1, _⟩ := h y (List.mem_cons_self ..)
      have h2 := getF_mem h1
      rcases List.mem_cons.1 h2 with e | h2
      · rw [← e]
      · have h3 := k x (List.mem_cons_self ..)
        cases hg : getF (y :: m) x.name with
        | none => exact absurd hg h3
        | some v =>
          have h4 := getF_mem hg
          rcases List.mem_cons.1 h4 with e | h4
          · rw [← e]
          · have a1 := l1 _ h2
            have a2 := m1 _ h4
            simp only at a1 a2
            rw [lt_asymm a1] at a2
            cases a2
    rw [List.map_cons, List.map_cons]
    congr 1
    · obtain ⟨d, h1, h2⟩ := h y (List.mem_cons_self ..)
      rw [getF, if_pos hxy] at h1
      cases h1
      rw [← h2, ← hxy]
    · refine same_lines l2 m2 (fun f hf => ?_) (fun f hf => ?_)
      · obtain ⟨d, h1, h2⟩ := h f (List.mem_cons_of_mem _ hf)
        rw [getF, if_neg (by rw [hxy]; exact lt_ne (m1 f hf))] at h1
        exact ⟨d, h1, h2⟩
      · have h1 := k f (List.mem_cons_of_mem _ hf)
        rw [getF, if_neg (by rw [← hxy]; exact lt_ne (l1 f hf))] at h1
        exact h1
/-- Done by the plan, there is just what there was to be. -/
theorem mid_end {F T : List Fl} (hF : Well (F.map keyF)) (hT : Well (T.map keyF)) {now : List Fl} (h : Mid F T (planM (F.map lineOf) (T.map lineOf)) (planM (F.map lineOf) (T.map lineOf)).length now) : now.map lineOf = F.map lineOf := by
  refine same_lines h.rise (well_rise hF) (fun f hf => ?_) h.sub
  have hst := plan_stays _ _ (rise_lines hF) (rise_lines hT)
  have hm : (⟨kindOf (T.map lineOf) (lineOf f), f.name⟩ : St) ∈ (planM (F.map lineOf) (T.map lineOf)).filter stays := by
    rw [hst, List.map_map]
    exact List.mem_map.2 ⟨f, hf, rfl⟩
  have hm := (List.mem_filter.1 hm).1
  unfold kindOf at hm
  rw [show (lineOf f).name = f.name from rfl, findL_lines] at hm
  cases hg : getF T f.name with
  | none =>
    rw [hg] at hm
    exact ⟨f.data, h.sent f hf (by rw [List.take_length]; exact hm), rfl⟩
  | some v =>
    rw [hg] at hm
    simp only [Option.map_some] at hm
    by_cases hs : (lineOf ⟨f.name, v⟩).n = (lineOf f).n ∧ (lineOf ⟨f.name, v⟩).sum = (lineOf f).sum
    · rw [if_pos hs] at hm
      refine ⟨v, by rw [h.kept f hf hm, hg], ?_⟩
      obtain ⟨h1, h2⟩ := hs
      simp only [lineOf] at h1 h2 ⊢
      rw [h1, h2]
    · rw [if_neg hs] at hm
      exact ⟨f.data, h.sent f hf (by rw [List.take_length]; exact hm), rfl⟩
end Go.Files

namespace Go.Proofs.YtbflmkjlpopeaadDoor
open Go.RowKit
open Go.Files (Fl Ln St lt getF faultF keyL keyF encL planM lineOf Well StepOk kSend kKeep kDrop FineL)

theorem plan_len0 : ∀ F T : List Ln, (planM F T).length ≤ F.length + T.length
  | [], t => by rw [planM]; simp
  | f :: r, [] => by rw [planM]; have := plan_len0 r []; simp at this ⊢; omega
  | f :: r, x :: q => by
    rw [planM]
    split
    · have := plan_len0 (f :: r) q; simp at this ⊢; omega
    · split
      · have := plan_len0 r q; simp at this ⊢; omega
      · have := plan_len0 r (x :: q); simp at this ⊢; omega
termination_by a b => a.length + b.length
theorem leq_false {a p : ByteArray} (h : lt p a = true) : (Op.bytesLess a.toList p.toList || a.toList == p.toList) = false := by rw [leq_lt, h]; rfl

theorem rise_at {P : List St} (h : Go.Files.Rise (P.map (·.name))) {i j : Nat} (hij : i < j) (hj : j < P.length) : lt (P[i]'(by omega)).name P[j].name = true := by
  have := List.pairwise_iff_getElem.1 h i j (by simp; omega) (by simpa using hj) hij
  simpa using this
theorem bytes_inj {u v : ByteArray} (h : u.toList = v.toList) : u = v := by
  rw [ByteArray.toList_eq, ByteArray.toList_eq] at h
  cases u; cases v
  simp only at h
  congr
  exact Array.toList_inj.1 h

end Go.Proofs.YtbflmkjlpopeaadDoor
