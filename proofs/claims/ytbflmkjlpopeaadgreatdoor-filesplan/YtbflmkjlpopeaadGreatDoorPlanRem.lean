/-
  Plain mathematics of plans: what is left of one, as the document tells it. No program, no walk.
-/
import Derived.Test.YtbflmkjlpopeaadGreatDoorJoin02
namespace Go.Files

theorem findL_append {l m : List Ln} {a : ByteArray} (h : ∀ x ∈ l, x.name ≠ a) : findL (l ++ m) a = findL m a := by
  induction l with
  | nil => rfl
  | cons g r ih =>
    rw [List.cons_append, findL_skip (h g (List.mem_cons_self ..)), ih fun x hx => h x (List.mem_cons_of_mem _ hx)]
theorem findL_append_none {l m : List Ln} {a : ByteArray} : findL (l ++ m) a = none ↔ findL l a = none ∧ findL m a = none := by
  rw [findL_none, findL_none, findL_none]
  simp only [List.mem_append]
  exact ⟨fun h => ⟨fun x hx => h x (Or.inl hx), fun x hx => h x (Or.inr hx)⟩, fun h x hx => hx.elim (h.1 x) (h.2 x)⟩
theorem findL_filter {p : Ln → Bool} {a : ByteArray} : ∀ {l : List Ln}, (∀ x ∈ l, x.name = a → p x = true) → findL (l.filter p) a = findL l a
  | [], _ => rfl
  | x :: r, h => by
    have ih := findL_filter (l := r) (fun y hy => h y (List.mem_cons_of_mem _ hy))
    by_cases hp : p x = true
    · rw [List.filter_cons_of_pos hp, findL, findL, ih]
    · rw [List.filter_cons_of_neg hp, ih, findL_skip]
      exact fun e => hp (h x (List.mem_cons_self ..) e)
theorem riseL_sub {l m : List Ln} (h : l.Sublist m) (hm : RiseL m) : RiseL l := List.Pairwise.sublist (h.map _) hm
/-- Not among these. -/
def notIn (l : List Ln) (x : Ln) : Bool := (findL l x.name).isNone
theorem notIn_true {l : List Ln} {x : Ln} : notIn l x = true ↔ findL l x.name = none := by unfold notIn; rw [Option.isNone_iff_eq_none]
theorem notIn_false {l : List Ln} {x : Ln} : notIn l x = false ↔ findL l x.name ≠ none := by
  unfold notIn
  cases findL l x.name <;> simp
/-- What is left, from there on. -/
def rem (F T : List Ln) (i k : Nat) : List St := planM (F.drop i) ((T.drop k).filter (notIn (F.take i)))
theorem rem_start (F T : List Ln) : rem F T 0 0 = planM F T := by
  unfold rem
  rw [List.drop_zero, List.drop_zero, List.filter_eq_self.2]
  intro x _
  rw [notIn_true]
  rfl
theorem rem_end (F T : List Ln) : rem F T F.length T.length = [] := by
  unfold rem
  rw [List.drop_length, List.drop_length, List.filter_nil, planM]
  rfl
/-- All that comes from place i on comes behind. -/
theorem rise_drop {F : List Ln} (h : RiseL F) {i : Nat} (hi : i < F.length) {a : ByteArray} (ha : lt a F[i].name = true) : ∀ f ∈ F.drop i, f.name ≠ a := by
  intro f hf
  rw [List.drop_eq_getElem_cons hi] at hf
  have hr := riseL_sub (List.drop_sublist i F) h
  rw [List.drop_eq_getElem_cons hi] at hr
  rcases List.mem_cons.1 hf with rfl | hf
  · exact (lt_ne ha).symm
  · exact (lt_ne (lt_trans ha ((riseL_cons.1 hr).1 f hf))).symm
theorem none_drop {F : List Ln} (h : RiseL F) {i : Nat} {a : ByteArray} (ha : ∀ hi : i < F.length, lt a F[i].name = true) : findL (F.drop i) a = none := by
  rw [findL_none]
  by_cases hi : i < F.length
  · exact rise_drop h hi (ha hi)
  · rw [List.drop_eq_nil_of_le (by omega)]
    intro x hx
    cases hx
/-- One that is to be there is passed by. -/
theorem rem_skip {F T : List Ln} (hF : RiseL F) {i k : Nat} (hk : k < T.length) (hl : ∀ hi : i < F.length, lt T[k].name F[i].name = true) (hf : findL F T[k].name ≠ none) : rem F T i k = rem F T i (k + 1) := by
  unfold rem
  rw [List.drop_eq_getElem_cons hk, List.filter_cons_of_neg]
  rw [Bool.not_eq_true, notIn_false]
  intro hn
  apply hf
  rw [← List.take_append_drop i F, findL_append_none]
  exact ⟨hn, none_drop hF hl⟩
/-- One that is not is dropped. -/
theorem rem_drop {F T : List Ln} {i k : Nat} (hk : k < T.length) (hl : ∀ hi : i < F.length, lt T[k].name F[i].name = true) (hf : findL F T[k].name = none) : rem F T i k = ⟨kDrop, T[k].name⟩ :: rem F T i (k + 1) := by
  unfold rem
  have hn : notIn (F.take i) T[k] = true := by
    rw [notIn_true]
    rw [← List.take_append_drop i F, findL_append_none] at hf
    exact hf.1
  rw [List.drop_eq_getElem_cons hk, List.filter_cons_of_pos hn]
  by_cases hi : i < F.length
  · rw [List.drop_eq_getElem_cons hi, planM, if_pos (hl hi)]
  · rw [List.drop_eq_nil_of_le (by omega), planM, planM]
    rfl
theorem plan_next {f : Ln} {r : List Ln} : ∀ {U : List Ln}, RiseL U → (∀ x ∈ U, lt x.name f.name = false) → planM (f :: r) U = ⟨kindOf U f, f.name⟩ :: planM r (U.filter fun x => decide (x.name ≠ f.name))
  | [], _, _ => by rw [planM]; rfl
  | x :: q, hU, hx => by
    obtain ⟨h1, h2⟩ := riseL_cons.1 hU
    have hl := hx x (List.mem_cons_self ..)
    rw [planM, if_neg (by rw [hl]; simp)]
    by_cases he : x.name = f.name
    · have hq : q.filter (fun y => decide (y.name ≠ f.name)) = q := List.filter_eq_self.2 fun y hy => by
        have := lt_ne (h1 y hy)
        rw [he] at this
        simpa using fun e => this e.symm
      rw [if_pos he, List.filter_cons_of_neg (by simp [he]), hq]
      congr 2
      unfold kindOf
      rw [findL, if_pos he]
    · have hfx := lt_of hl he
      have hall : ∀ y ∈ x :: q, y.name ≠ f.name := fun y hy => by
        rcases List.mem_cons.1 hy with rfl | hy
        · exact he
        · exact (lt_ne (lt_trans hfx (h1 y hy))).symm
      rw [if_neg he, List.filter_eq_self.2 (fun y hy => by simpa using hall y hy)]
      congr 2
      unfold kindOf
      rw [findL_none.2 hall]
/-- One that is to be there is sent or kept. -/
theorem rem_next {F T : List Ln} (hF : RiseL F) (hT : RiseL T) {i k : Nat} (hi : i < F.length) (hb : ∀ x ∈ T.take k, lt x.name F[i].name = true) (ha : ∀ hk : k < T.length, lt T[k].name F[i].name = false) : rem F T i k = ⟨kindOf T F[i], F[i].name⟩ :: rem F T (i + 1) k := by
  have hTk := riseL_sub (List.drop_sublist k T) hT
  have hge : ∀ x ∈ T.drop k, lt x.name F[i].name = false := by
    intro x hx
    by_cases hk : k < T.length
    · rw [List.drop_eq_getElem_cons hk] at hx hTk
      rcases List.mem_cons.1 hx with rfl | hx
      · exact ha hk
      · cases hc : lt x.name F[i].name with
        | false => rfl
        | true =>
          have := lt_trans ((riseL_cons.1 hTk).1 x hx) hc
          rw [ha hk] at this
          cases this
    · rw [List.drop_eq_nil_of_le (by omega)] at hx
      cases hx
  have hpre : ∀ f ∈ F.take i, lt f.name F[i].name = true := by
    intro f hf
    have h := hF
    unfold RiseL Rise at h
    rw [List.pairwise_map] at h
    obtain ⟨j, hj, rfl⟩ := List.mem_iff_getElem.1 hf
    rw [List.length_take] at hj
    rw [List.getElem_take]
    exact List.pairwise_iff_getElem.1 h j i (by omega) hi (by omega)
  have hU := riseL_sub (List.filter_sublist (p := notIn (F.take i)) (l := T.drop k)) hTk
  have hgeU : ∀ x ∈ (T.drop k).filter (notIn (F.take i)), lt x.name F[i].name = false := fun x hx => hge x (List.mem_filter.1 hx).1
  unfold rem
  rw [List.drop_eq_getElem_cons hi, plan_next hU hgeU, List.filter_filter]
  have hk1 : kindOf ((T.drop k).filter (notIn (F.take i))) F[i] = kindOf T F[i] := by
    unfold kindOf
    rw [findL_filter, ← findL_append (l := T.take k) (m := T.drop k), List.take_append_drop]
    · intro x hx; exact lt_ne (hb x hx)
    · intro x _ hn
      rw [notIn_true, findL_none]
      intro f hf
      rw [hn]
      exact lt_ne (hpre f hf)
  rw [hk1]
  congr 2
  apply List.filter_congr
  intro x _
  rw [List.take_succ_eq_append_getElem hi]
  cases h1 : notIn (F.take i) x with
  | true =>
    rw [Bool.and_true]
    rw [notIn_true] at h1
    by_cases he : F[i].name = x.name
    · rw [decide_eq_false (by simp [he])]
      symm
      rw [notIn_false]
      intro h
      exact (findL_none.1 (findL_append_none.1 h).2) F[i] (by simp) he
    · rw [decide_eq_true (show x.name ≠ F[i].name from fun e => he e.symm)]
      symm
      rw [notIn_true, findL_append_none]
      exact ⟨h1, by rw [findL_none]; simpa using he⟩
  | false =>
    rw [Bool.and_false]
    symm
    rw [notIn_false] at h1 ⊢
    exact fun h => h1 (findL_append_none.1 h).1
end Go.Files
