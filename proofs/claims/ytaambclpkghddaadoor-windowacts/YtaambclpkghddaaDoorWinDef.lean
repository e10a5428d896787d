/-
  A sender and a receiver of package window as objects: three cells, two cells, and the map that each holds. What the map reads as, behind each step. No walk.
-/
import Derived.Test.YtaambclpkghddaaDoorMapL
import Derived.Test.YtaambclpkghddaaDoorWindowInv
namespace Go.Proofs.YtaambclpkghddaaDoor
open Go.RowKit Go.Maps
open Go.Window (Sn Rc dist told snNew rcNew far oldest)

/-- A frame that waits. -/
def wfV (d : ByteArray) : Value := .agg #[.string d]
def keptA (l : List (Nat × ByteArray)) : Assoc := l.map fun p => ((p.1 : Int), wfV p.2)
theorem keptA_length (l : List (Nat × ByteArray)) : (keptA l).length = l.length := List.length_map ..
theorem keptA_del (l : List (Nat × ByteArray)) (n : Int) : (keptA l).del n = keptA (l.filter fun p => decide ((p.1 : Int) ≠ n)) := by
  unfold keptA Assoc.del
  rw [List.filter_map]
  rfl
theorem keptA_at (s : Sn) (n : Int) : (keptA s.kept).at_ n = (s.data n).map wfV := by
  unfold keptA Assoc.at_ Sn.data
  rw [List.find?_map, Option.map_map, Option.map_map]
  rfl
theorem keptA_ne {s : Sn} (h : s.Ok) : ∀ p ∈ keptA s.kept, p.1 ≠ (s.next : Int) := by
  intro p hp e
  obtain ⟨q, hq, rfl⟩ := List.mem_map.1 hp
  have := (h.lt q hq).2.1
  simp only at e
  have e' : q.1 = s.next := by omega
  rw [e'] at this
  have hn := h.next
  unfold dist at this
  omega
/-- The oldest kept one, or the next number. -/
def old (s : Sn) : Nat := match s.kept with
  | [] => s.next
  | p :: _ => p.1
theorem old_lt {s : Sn} (h : s.Ok) : old s < 65536 := by
  unfold old
  split
  · exact h.next
  · rename_i p l e
    exact (h.lt p (by rw [e]; exact List.mem_cons_self ..)).1
theorem dist_self (a : Nat) : dist a a = 0 := by unfold dist; omega
theorem wdist_lt (a b : Nat) : dist a b < 65536 := Nat.mod_lt _ (by decide)
theorem full_old {s : Sn} : s.full = decide (32 ≤ dist (old s) s.next) := by
  unfold Sn.full old
  cases hk : s.kept with
  | nil => simp only; rw [dist_self _]; rfl
  | cons p l => rfl
theorem old_push {s : Sn} (d : ByteArray) : old ⟨(s.next + 1) % 65536, s.kept ++ [(s.next, d)]⟩ = old s := by
  unfold old
  cases hk : s.kept <;> simp
theorem old_far {s : Sn} (n : Int) : far s n = if (0 ≤ n ∧ n < 65536) ∧ dist (old s) n.toNat ≤ dist (old s) s.next then dist (old s) n.toNat else 0 := by
  unfold far old
  cases hk : s.kept with
  | nil =>
    simp only
    rw [dist_self _]
    split
    · rename_i e; omega
    · rfl
  | cons p l => rfl
/-- Without the numbers of count from o on. -/
def cutN (o : Nat) : Nat → List (Nat × ByteArray) → List (Nat × ByteArray)
  | 0, l => l
  | c + 1, l => (cutN o c l).filter fun p => decide ((p.1 : Int) ≠ (((o + c) % 65536 : Nat) : Int))
def cutM : List Int → List (Nat × ByteArray) → List (Nat × ByteArray)
  | [], l => l
  | n :: r, l => cutM r (l.filter fun p => decide ((p.1 : Int) ≠ n))
theorem cutM_snoc : ∀ (r : List Int) (n : Int) (l : List (Nat × ByteArray)), cutM (r ++ [n]) l = (cutM r l).filter fun p => decide ((p.1 : Int) ≠ n)
  | [], _, _ => rfl
  | m :: r, n, l => by rw [List.cons_append, cutM, cutM_snoc r n]; rfl
theorem cutN_eq (o : Nat) (l : List (Nat × ByteArray)) (hl : ∀ p ∈ l, p.1 < 65536) (ho : o < 65536) : ∀ c, c ≤ 65536 → cutN o c l = l.filter fun p => !decide (dist o p.1 < c)
  | 0, _ => by rw [cutN, List.filter_eq_self.2 (by simp)]
  | c + 1, h => by
    rw [cutN, cutN_eq o l hl ho c (by omega), List.filter_filter]
    apply List.filter_congr
    intro p hp
    have := hl p hp
    rw [Bool.eq_iff_iff]
    simp only [Bool.and_eq_true, decide_eq_true_eq, Bool.not_eq_true', decide_eq_false_iff_not]
    unfold dist
    omega
theorem cutM_eq : ∀ (r : List Int) (l : List (Nat × ByteArray)), cutM r l = l.filter fun p => !r.contains (p.1 : Int)
  | [], l => by rw [cutM, List.filter_eq_self.2 (by simp)]
  | n :: r, l => by
    rw [cutM, cutM_eq r, List.filter_filter]
    apply List.filter_congr
    intro p _
    rw [Bool.eq_iff_iff]
    simp only [Bool.and_eq_true, decide_eq_true_eq, Bool.not_eq_true', List.contains_cons, Bool.or_eq_false_iff, beq_eq_false_iff_ne, ne_eq]
    exact ⟨fun h => ⟨h.2, h.1⟩, fun h => ⟨h.2, h.1⟩⟩
theorem far_le {s : Sn} (n : Int) : far s n ≤ 65536 := by
  unfold far
  split
  · omega
  · split
    · have := wdist_lt (by assumption : Nat × ByteArray).1 n.toNat; omega
    · omega
/-- An answer takes off just these. -/
theorem ack_cut {s : Sn} (h : s.Ok) (n : Int) (more : List Int) : (s.ack n more).kept = cutM more (cutN (old s) (far s n) s.kept) := by
  rw [cutN_eq _ _ (fun p hp => (h.lt p hp).1) (old_lt h) _ (far_le n), cutM_eq, List.filter_filter]
  unfold Sn.ack
  simp only
  apply List.filter_congr
  intro p hp
  have ho : oldest s = old s := by
    unfold oldest old
    cases hk : s.kept with
    | nil => rw [hk] at hp; cases hp
    | cons q l => rfl
  rw [ho, Bool.not_or, Bool.and_comm]

/-- What waits, from a number on. -/
def wA : Nat → List (Option ByteArray) → Assoc
  | _, [] => []
  | n, none :: l => wA (n + 1) l
  | n, some d :: l => (((n % 65536 : Nat) : Int), wfV d) :: wA (n + 1) l
theorem wA_mod : ∀ (l : List (Option ByteArray)) (a b : Nat), a % 65536 = b % 65536 → wA a l = wA b l
  | [], _, _, _ => rfl
  | none :: l, a, b, h => by rw [wA, wA, wA_mod l (a + 1) (b + 1) (by omega)]
  | some d :: l, a, b, h => by rw [wA, wA, wA_mod l (a + 1) (b + 1) (by omega), h]
theorem wA_none : ∀ (l : List (Option ByteArray)) (n : Nat), wA n (l ++ [none]) = wA n l
  | [], n => rfl
  | none :: l, n => by rw [List.cons_append, wA, wA, wA_none l]
  | some d :: l, n => by rw [List.cons_append, wA, wA, wA_none l]
theorem mem_wA : ∀ (l : List (Option ByteArray)) (n : Nat) (p : Int × Value), p ∈ wA n l ↔ ∃ k d, l[k]? = some (some d) ∧ p = ((((n + k) % 65536 : Nat) : Int), wfV d)
  | [], n, p => by simp [wA]
  | none :: l, n, p => by
    rw [wA, mem_wA l (n + 1) p]
    constructor
    · rintro ⟨k, d, h, e⟩
      exact ⟨k + 1, d, by simpa using h, by rw [e, show n + 1 + k = n + (k + 1) by omega]⟩
    · rintro ⟨k, d, h, e⟩
      cases k with
      | zero => simp at h
      | succ k => exact ⟨k, d, by simpa using h, by rw [e, show n + 1 + k = n + (k + 1) by omega]⟩
  | some x :: l, n, p => by
    rw [wA, List.mem_cons, mem_wA l (n + 1) p]
    constructor
    · rintro (e | ⟨k, d, h, e⟩)
      · exact ⟨0, x, by simp, e⟩
      · exact ⟨k + 1, d, by simpa using h, by rw [e, show n + 1 + k = n + (k + 1) by omega]⟩
    · rintro ⟨k, d, h, e⟩
      cases k with
      | zero =>
        simp only [List.getElem?_cons_zero, Option.some.injEq] at h
        subst h
        exact .inl e
      | succ k => exact .inr ⟨k, d, by simpa using h, by rw [e, show n + 1 + k = n + (k + 1) by omega]⟩
theorem wA_length : ∀ (l : List (Option ByteArray)) (n : Nat), (wA n l).length ≤ l.length
  | [], _ => by simp [wA]
  | none :: l, n => by rw [wA, List.length_cons]; have := wA_length l (n + 1); omega
  | some d :: l, n => by rw [wA, List.length_cons, List.length_cons]; have := wA_length l (n + 1); omega
theorem wA_ne {l : List (Option ByteArray)} {n k : Nat} (hk : k < l.length) (hl : l.length ≤ 32) (h : l[k]? = some none) : ∀ p ∈ wA n l, p.1 ≠ (((n + k) % 65536 : Nat) : Int) := by
  intro p hp e
  obtain ⟨j, d, hj, rfl⟩ := (mem_wA l n p).1 hp
  have hj' := (List.getElem?_eq_some_iff.1 hj).1
  simp only at e
  have : j = k := by omega
  subst this
  rw [h] at hj
  cases hj
theorem wA_set : ∀ (l : List (Option ByteArray)) (n k : Nat) (d : ByteArray), l[k]? = some none → (wA n l ++ [((((n + k) % 65536 : Nat) : Int), wfV d)]).Perm (wA n (l.set k (some d)))
  | [], _, _, _, h => by simp at h
  | x :: l, n, 0, d, h => by
    simp only [List.getElem?_cons_zero, Option.some.injEq] at h
    subst h
    rw [List.set_cons_zero, wA, wA, Nat.add_zero]
    exact List.perm_append_singleton _ _
  | none :: l, n, k + 1, d, h => by
    rw [List.set_cons_succ, wA, wA, show n + (k + 1) = n + 1 + k by omega]
    exact wA_set l (n + 1) k d (by simpa using h)
  | some x :: l, n, k + 1, d, h => by
    rw [List.set_cons_succ, wA, wA, show n + (k + 1) = n + 1 + k by omega, List.cons_append]
    exact (wA_set l (n + 1) k d (by simpa using h)).cons _
theorem wA_del {l : List (Option ByteArray)} {n : Nat} (hl : l.length ≤ 31) (d : ByteArray) : (wA n (some d :: l)).del ((n % 65536 : Nat) : Int) = wA (n + 1) l := by
  rw [wA]
  unfold Assoc.del
  rw [List.filter_cons_of_neg (by simp)]
  rw [List.filter_eq_self]
  intro p hp
  obtain ⟨j, e, hj, rfl⟩ := (mem_wA l (n + 1) p).1 hp
  have hj' := (List.getElem?_eq_some_iff.1 hj).1
  simp only [ne_eq, decide_eq_true_eq]
  omega
/-- What waits at a number. -/
theorem wA_at {l : List (Option ByteArray)} {n k : Nat} (hn : ((wA n l).map Prod.fst).Nodup) (hk : k < l.length) (hl : l.length ≤ 32) : (wA n l).at_ (((n + k) % 65536 : Nat) : Int) = (l[k]?.join).map wfV := by
  cases e : l[k]? with
  | none => rw [List.getElem?_eq_none_iff] at e; omega
  | some x =>
    cases x with
    | none => rw [Assoc.at_none (wA_ne hk hl e)]; rfl
    | some d =>
      rw [Assoc.at_some hn (v := wfV d) ((mem_wA l n _).2 ⟨k, d, e, rfl⟩)]
      rfl
/-- One that is due is told. -/
def Rc.step (r : Rc) : Rc := ⟨(r.due + 1) % 65536, r.slots.tail ++ [none]⟩
theorem replicate_snoc (n : Nat) : List.replicate n (none : Option ByteArray) ++ [none] = List.replicate (n + 1) none := by
  rw [List.replicate_succ']
theorem step_go {r : Rc} {d : ByteArray} {l : List (Option ByteArray)} (h : r.slots = some d :: l) : (Rc.step r).go = r.go := by
  have ht : told (l ++ [none]) = told l := by
    clear h
    induction l with
    | nil => rfl
    | cons x l ih => cases x with
      | none => rfl
      | some y => rw [List.cons_append, told, told, ih]
  have hl := Go.Window.told_length l
  simp only [Rc.go, Rc.step, h, List.tail_cons, told, ht, List.length_cons]
  congr 1
  · omega
  · rw [List.drop_append_of_le_length hl, List.append_assoc]
    rfl
theorem step_told {r : Rc} {d : ByteArray} {l : List (Option ByteArray)} (h : r.slots = some d :: l) : told r.slots = d :: told (Rc.step r).slots := by
  have ht : told (l ++ [none]) = told l := by
    clear h
    induction l with
    | nil => rfl
    | cons x l ih => cases x with
      | none => rfl
      | some y => rw [List.cons_append, told, told, ih]
  simp only [Rc.step, h, List.tail_cons, told, ht]
theorem go_self {r : Rc} {l : List (Option ByteArray)} (h : r.slots = none :: l) (hd : r.due < 65536) : r.go = r := by
  obtain ⟨due, slots⟩ := r
  simp only at h hd
  subst h
  simp only [Rc.go, told, List.length_nil, Nat.add_zero, List.drop_zero, List.replicate_zero, List.append_nil]
  rw [Nat.mod_eq_of_lt hd]

/-- Two lists in one order with the same members are one. -/
theorem eq_of_mem_order {α : Type} {r : α → α → Prop} (ha : ∀ a b, r a b → ¬ r b a) : ∀ {l1 l2 : List α}, l1.Pairwise r → l2.Pairwise r → (∀ x, x ∈ l1 ↔ x ∈ l2) → l1 = l2
  | [], [], _, _, _ => rfl
  | [], b :: s, _, _, h => by have := (h b).2 (by simp); simp at this
  | a :: l, [], _, _, h => by have := (h a).1 (by simp); simp at this
  | a :: l, b :: s, h1, h2, h => by
    obtain ⟨a1, a2⟩ := List.pairwise_cons.1 h1
    obtain ⟨b1, b2⟩ := List.pairwise_cons.1 h2
    have hab : a = b := by
      rcases List.mem_cons.1 ((h a).1 (by simp)) with e | e
      · exact e
      · rcases List.mem_cons.1 ((h b).2 (by simp)) with e2 | e2
        · exact e2.symm
        · exact absurd (a1 b e2) (ha _ _ (b1 a e))
    subst hab
    rw [eq_of_mem_order ha a2 b2 (fun x => ⟨fun hx => by
      rcases List.mem_cons.1 ((h x).1 (by simp [hx])) with e | e
      · subst e; exact absurd (a1 _ hx) (fun k => ha _ _ k k)
      · exact e, fun hx => by
      rcases List.mem_cons.1 ((h x).2 (by simp [hx])) with e | e
      · subst e; exact absurd (b1 _ hx) (fun k => ha _ _ k k)
      · exact e⟩)]
/-- Those of count numbers from first on that are there. -/
def ordered (l : Assoc) (first count : Nat) : List Int := (List.range count).filterMap fun k => if (l.at_ (((first + k) % 65536 : Nat) : Int)).isSome then some (((first + k) % 65536 : Nat) : Int) else none
theorem ordered_succ (l : Assoc) (first c : Nat) : ordered l first (c + 1) = ordered l first c ++ (if (l.at_ (((first + c) % 65536 : Nat) : Int)).isSome then [(((first + c) % 65536 : Nat) : Int)] else []) := by
  unfold ordered
  rw [List.range_succ, List.filterMap_append]
  congr 1
  by_cases h : (l.at_ (((first + c) % 65536 : Nat) : Int)).isSome = true
  · rw [if_pos h, List.filterMap_cons, if_pos h]; rfl
  · rw [if_neg h, List.filterMap_cons, if_neg h]; rfl
theorem ordered_length (l : Assoc) (first c : Nat) : (ordered l first c).length ≤ c := by
  have := List.length_filterMap_le (fun k => if (l.at_ (((first + k) % 65536 : Nat) : Int)).isSome then some (((first + k) % 65536 : Nat) : Int) else none) (List.range c)
  rw [List.length_range] at this
  exact this
theorem ordered_kept {s : Sn} (h : s.Ok) : ordered (keptA s.kept) (old s) (dist (old s) s.next) = s.kept.map fun p => (p.1 : Int) := by
  have hold := old_lt h
  have hnext := h.next
  -- in the order of how far they are ahead of the next one
  refine eq_of_mem_order (r := fun a b : Int => dist b.toNat s.next < dist a.toNat s.next) (fun a b h1 h2 => by omega) ?_ ?_ ?_
  · unfold ordered
    rw [List.pairwise_filterMap]
    refine List.Pairwise.imp_of_mem ?_ (List.pairwise_lt_range)
    intro i j hi hj hij a ha b hb
    rw [List.mem_range] at hi hj
    split at ha <;> simp at ha
    split at hb <;> simp at hb
    subst ha
    subst hb
    unfold dist at *
    omega
  · rw [List.pairwise_map]
    exact h.rise
  · intro x
    unfold ordered
    rw [List.mem_filterMap, List.mem_map]
    constructor
    · rintro ⟨k, hk, hx⟩
      split at hx
      · rename_i hs
        simp only [Option.some.injEq] at hx
        rw [keptA_at, Option.isSome_map] at hs
        subst hx
        unfold Sn.data at hs
        rw [Option.isSome_map] at hs
        obtain ⟨p, hp⟩ := Option.isSome_iff_exists.1 hs
        have h1 := List.mem_of_find?_eq_some hp
        have h2 := List.find?_some hp
        simp only [beq_iff_eq] at h2
        exact ⟨p, h1, h2⟩
      · cases hx
    · rintro ⟨p, hp, rfl⟩
      have hpl := h.lt p hp
      have hle : dist p.1 s.next ≤ dist (old s) s.next := by
        unfold old
        have hr := h.rise
        cases hk : s.kept with
        | nil => rw [hk] at hp; cases hp
        | cons q l =>
          rw [hk] at hp hr
          rcases List.mem_cons.1 hp with e | e
          · subst e; exact Nat.le_refl _
          · exact Nat.le_of_lt (List.rel_of_pairwise_cons hr e)
      refine ⟨dist (old s) s.next - dist p.1 s.next, ?_, ?_⟩
      · rw [List.mem_range]; omega
      · have e : (old s + (dist (old s) s.next - dist p.1 s.next)) % 65536 = p.1 := by
          unfold dist at *
          omega
        rw [e, keptA_at, h.data hp]
        rfl
theorem filterMap_same {α β : Type} {f g : α → Option β} : ∀ {l : List α}, (∀ x ∈ l, f x = g x) → l.filterMap f = l.filterMap g
  | [], _ => rfl
  | x :: l, h => by rw [List.filterMap_cons, List.filterMap_cons, h x (by simp), filterMap_same (fun y hy => h y (List.mem_cons_of_mem _ hy))]
theorem ordered_more {r : Rc} (h : r.Ok) (hn : ((wA r.due r.slots).map Prod.fst).Nodup) : ordered (wA r.due r.slots) r.due 32 = r.more.map Int.ofNat := by
  unfold ordered Rc.more
  rw [List.map_filterMap]
  refine filterMap_same fun k hk => ?_
  rw [List.mem_range] at hk
  rw [wA_at hn (by have := h.len; omega) (by have := h.len; omega)]
  have hl : k < r.slots.length := by have := h.len; omega
  rw [List.getElem?_eq_getElem hl]
  cases r.slots[k] <;> rfl
/-- What is left of a sender once the oldest one is found. -/
theorem old_of {s : Sn} (h : s.Ok) {o : Nat} (ho : o < 65536) (hle : ∀ p ∈ s.kept, dist p.1 s.next ≤ dist o s.next) (hz : o = s.next ∨ ((keptA s.kept).at_ (o : Int)).isSome = true) : o = old s := by
  have hnext := h.next
  rcases hz with e | e
  · subst e
    unfold old
    cases hk : s.kept with
    | nil => rfl
    | cons p l =>
      have h1 := hle p (by rw [hk]; exact List.mem_cons_self ..)
      have h2 := (h.lt p (by rw [hk]; exact List.mem_cons_self ..)).2.1
      rw [dist_self _] at h1
      omega
  · rw [keptA_at, Option.isSome_map] at e
    unfold Sn.data at e
    rw [Option.isSome_map] at e
    obtain ⟨p, hp⟩ := Option.isSome_iff_exists.1 e
    have h1 := List.mem_of_find?_eq_some hp
    have h2 := List.find?_some hp
    simp only [beq_iff_eq] at h2
    have h2' : p.1 = o := by omega
    unfold old
    have hr := h.rise
    cases hk : s.kept with
    | nil => rw [hk] at h1; cases h1
    | cons q l =>
      rw [hk] at h1 hr
      rcases List.mem_cons.1 h1 with e | e
      · subst e; exact h2'.symm
      · have a := List.rel_of_pairwise_cons hr e
        have b := hle q (by rw [hk]; exact List.mem_cons_self ..)
        rw [h2'] at a
        omega
theorem old_next {s : Sn} (h : s.Ok) {o : Nat} (ho : o < 65536) (hle : ∀ p ∈ s.kept, dist p.1 s.next ≤ dist o s.next) (hne : o ≠ s.next) (hz : ((keptA s.kept).at_ (o : Int)).isSome = false) :
    dist ((o + 1) % 65536) s.next + 1 = dist o s.next ∧ ∀ p ∈ s.kept, dist p.1 s.next ≤ dist ((o + 1) % 65536) s.next := by
  have hnext := h.next
  have e1 : dist ((o + 1) % 65536) s.next + 1 = dist o s.next := by unfold dist; omega
  refine ⟨e1, fun p hp => ?_⟩
  have h1 := hle p hp
  have h2 := h.lt p hp
  have h3 : p.1 ≠ o := by
    intro e
    rw [keptA_at, ← e, h.data hp] at hz
    cases hz
  have : dist p.1 s.next ≠ dist o s.next := by unfold dist; omega
  omega
theorem kept_le {s : Sn} (h : s.Ok) {l : List (Nat × ByteArray)} (hl : ∀ p ∈ l, p ∈ s.kept) : ∀ p ∈ l, dist p.1 s.next ≤ dist (old s) s.next := by
  intro p hp
  have hp := hl p hp
  unfold old
  have hr := h.rise
  cases hk : s.kept with
  | nil => rw [hk] at hp; cases hp
  | cons q l =>
    rw [hk] at hp hr
    rcases List.mem_cons.1 hp with e | e
    · subst e; exact Nat.le_refl _
    · exact Nat.le_of_lt (List.rel_of_pairwise_cons hr e)

/-- A sender's objects. -/
abbrev ssL (s : Sn) (i : Nat × Nat) : List Fam := [CellsF i.1 67 [.int .i64 (old s : Int), .int .i64 (s.next : Int), .map (some i.2)], MapL Tryd.prog 3 i.2 (keptA s.kept)]
def WSn (v : Value) (s : Sn) : Fam := Pack (ι := {i : Nat × Nat // v = .pointer (some ⟨i.1, 0, none⟩)}) fun i => ssL s i.1
/-- A receiver's objects. -/
abbrev rrL (r : Rc) (i : Nat × Nat) : List Fam := [CellsF i.1 69 [.int .i64 (r.due : Int), .map (some i.2)], MapL Tryd.prog 3 i.2 (wA r.due r.slots)]
def WRc (v : Value) (r : Rc) : Fam := Pack (ι := {i : Nat × Nat // v = .pointer (some ⟨i.1, 0, none⟩)}) fun i => rrL r i.1
end Go.Proofs.YtaambclpkghddaaDoor
