/-
  Plain mathematics of a window, on: which number comes ahead; texts one by one; what waits as a list in the order of its coming. No program, no walk.
-/
import Derived.Test.YtaambclpkghddaaDoorWindowMath
namespace Go.Window

/-- Does a number come ahead of another one? -/
def ahead (a b : Int) : Bool := decide (((0 ≤ a ∧ a < 65536) ∧ (0 ≤ b ∧ b < 65536)) ∧ (1 ≤ (b - a) % 65536 ∧ (b - a) % 65536 ≤ 32767))
theorem ahead_once (a b : Int) (h : ahead a b = true) : ahead b a = false := by
  unfold ahead at *
  rw [decide_eq_true_eq] at h
  rw [decide_eq_false_iff_not]
  omega
theorem ahead_self (a : Int) : ahead a a = false := by
  unfold ahead
  rw [decide_eq_false_iff_not]
  omega
theorem ahead_next (n : Nat) (h : n < 65536) : ahead (n : Int) (((n + 1) % 65536 : Nat) : Int) = true := by
  unfold ahead
  rw [decide_eq_true_eq]
  omega

/- Texts one by one. -/
def snNew (n : Nat) : Sn := ⟨n % 65536, []⟩
theorem one_push (n : Nat) (d : ByteArray) (h : d.size ≤ 20000) (hn : n < 65536) : (snNew n).push d = (⟨(n + 1) % 65536, [(n, d)]⟩, n, 0) := by
  have e : n % 65536 = n := by omega
  simp only [snNew, Sn.push, Sn.full, e]
  rw [if_neg (by omega)]
  rfl
theorem one_take (n : Nat) (d : ByteArray) (hn : n < 65536) : (rcNew n).take n d = (rcNew (n + 1), [d]) := by
  have e : n % 65536 = n := by omega
  have e0 : dist n n = 0 := by unfold dist; omega
  unfold Rc.take
  simp only [rcNew, e, e0]
  rw [if_pos ⟨by decide, by decide⟩]
  rfl
theorem one_again (n : Nat) (d : ByteArray) (hn : n < 65536) : (rcNew (n + 1)).take n d = (rcNew (n + 1), []) := by
  have e0 : dist ((n + 1) % 65536) n = 65535 := by unfold dist; omega
  unfold Rc.take
  simp only [rcNew, e0]
  rw [if_neg (fun h => absurd h.1 (by decide))]
theorem new_more (n : Nat) : (rcNew n).more = [] := by
  unfold Rc.more
  rw [List.filterMap_eq_nil_iff]
  intro k hk
  rw [List.mem_range] at hk
  simp only [rcNew, List.getElem?_replicate]
  rw [if_pos hk]
theorem one_ack (n : Nat) (d : ByteArray) (hn : n < 65536) : (Sn.mk ((n + 1) % 65536) [(n, d)]).ack (((n + 1) % 65536 : Nat) : Int) [] = snNew (n + 1) := by
  have e1 : dist n ((n + 1) % 65536) = 1 := by unfold dist; omega
  have e0 : dist n n = 0 := by unfold dist; omega
  have hf : far (Sn.mk ((n + 1) % 65536) [(n, d)]) (((n + 1) % 65536 : Nat) : Int) = 1 := by
    unfold far
    simp only [Int.toNat_natCast, e1]
    rw [if_pos ⟨by omega, by omega⟩]
  unfold Sn.ack
  rw [hf]
  simp [oldest, e0, snNew]

/- One after another is told. -/
def Rc.pop (r : Rc) : Rc := ⟨(r.due + 1) % 65536, r.slots.tail ++ [none]⟩
theorem told_more : ∀ l : List (Option ByteArray), told (l ++ [none]) = told l
  | [] => rfl
  | none :: l => rfl
  | some x :: l => by simp only [List.cons_append, told]; rw [told_more l]
theorem told_pop {r : Rc} {x : ByteArray} (h : r.slots[0]? = some (some x)) : told r.slots = x :: told r.pop.slots := by
  obtain ⟨n, l⟩ := r
  cases l with
  | nil => simp at h
  | cons y l =>
    simp at h
    subst h
    simp only [Rc.pop, List.tail_cons, told_more, told]
theorem go_pop {r : Rc} {x : ByteArray} (h : r.slots[0]? = some (some x)) : r.pop.go = r.go := by
  have ht := told_pop h
  obtain ⟨n, l⟩ := r
  cases l with
  | nil => simp at h
  | cons y l =>
    simp at h
    subst h
    have hl := told_length l
    simp only [Rc.go, Rc.pop, List.tail_cons, told_more, told, List.length_cons] at ht ⊢
    rw [Rc.mk.injEq]
    refine ⟨by omega, ?_⟩
    rw [List.drop_append_of_le_length hl, List.drop_succ_cons, List.append_assoc]
    congr 1
theorem go_still {r : Rc} (h : ∀ x, r.slots[0]? ≠ some (some x)) (hd : r.due < 65536) : r.go = r ∧ told r.slots = [] := by
  obtain ⟨n, l⟩ := r
  have : told l = [] := by
    cases l with
    | nil => rfl
    | cons y l =>
      cases y with
      | none => rfl
      | some x => exact absurd rfl (h x)
  refine ⟨?_, this⟩
  simp only [Rc.go, this, List.length_nil, List.drop_zero, List.replicate_zero, List.append_nil, Nat.add_zero]
  rw [Nat.mod_eq_of_lt hd]

/-- What waits, as a list in the order of its coming. -/
structure Waits (r : Rc) (l : List (Nat × ByteArray)) : Prop where
  due : r.due < 65536
  len : r.slots.length = 32
  mem : ∀ n x, (n, x) ∈ l ↔ n < 65536 ∧ r.slots[dist r.due n]? = some (some x)
  once : (l.map Prod.fst).Nodup
theorem waits_new (n : Nat) : Waits (rcNew n) [] := by
  refine ⟨Nat.mod_lt _ (by decide), by simp [rcNew], ?_, by simp⟩
  intro m x
  simp only [List.not_mem_nil, false_iff, not_and, rcNew, List.getElem?_replicate]
  intro _ h
  split at h <;> simp at h
theorem Waits.is {r : Rc} {l : List (Nat × ByteArray)} (h : Waits r l) (n : Nat) (hn : n < 65536) : n ∈ l.map Prod.fst ↔ ∃ x, r.slots[dist r.due n]? = some (some x) := by
  rw [List.mem_map]
  constructor
  · rintro ⟨⟨m, x⟩, hm, rfl⟩
    exact ⟨x, ((h.mem _ _).1 hm).2⟩
  · rintro ⟨x, hx⟩
    exact ⟨(n, x), (h.mem _ _).2 ⟨hn, hx⟩, rfl⟩
theorem dist_inj {a n m : Nat} (ha : a < 65536) (hn : n < 65536) (hm : m < 65536) (h : dist a n = dist a m) : n = m := by unfold dist at h; omega
theorem Waits.add {r : Rc} {l : List (Nat × ByteArray)} (h : Waits r l) (n : Nat) (d : ByteArray) (hn : n < 65536) (hk : r.slots[dist r.due n]? = some none) : Waits ⟨r.due, r.slots.set (dist r.due n) (some d)⟩ (l ++ [(n, d)]) := by
  have hb := (List.getElem?_eq_some_iff.1 hk).1
  refine ⟨h.due, by simp [h.len], ?_, ?_⟩
  · intro m x
    rw [List.mem_append, h.mem m x]
    simp only [List.mem_singleton, Prod.mk.injEq]
    by_cases e : dist r.due n = dist r.due m
    · by_cases hm : m < 65536
      · obtain rfl := dist_inj h.due hn hm e
        rw [List.getElem?_set_self hb, hk]
        simp [hm]
        exact eq_comm
      · constructor
        · rintro (⟨k, _⟩ | ⟨rfl, _⟩)
          · exact absurd k hm
          · exact absurd hn hm
        · rintro ⟨k, _⟩; exact absurd k hm
    · rw [List.getElem?_set_ne e]
      constructor
      · rintro (k | ⟨rfl, _⟩)
        · exact k
        · exact absurd rfl e
      · exact .inl
  · rw [List.map_append, List.nodup_append]
    refine ⟨h.once, by simp, ?_⟩
    intro m hm k hk2
    simp at hk2
    subst hk2
    rintro rfl
    obtain ⟨x, hx⟩ := (h.is m hn).1 hm
    rw [hk] at hx
    cases hx
theorem Waits.pop {r : Rc} {l1 l2 : List (Nat × ByteArray)} {x : ByteArray} (h : Waits r (l1 ++ (r.due, x) :: l2)) : Waits r.pop (l1 ++ l2) ∧ r.slots[0]? = some (some x) := by
  have hd := h.due
  have h0 : dist r.due r.due = 0 := by unfold dist; omega
  have hx := ((h.mem r.due x).1 (by simp)).2
  rw [h0] at hx
  have hlen := h.len
  have hon := h.once
  rw [List.map_append, List.map_cons, List.nodup_append, List.nodup_cons] at hon
  refine ⟨⟨Nat.mod_lt _ (by decide), by simp [Rc.pop, hlen], ?_, ?_⟩, hx⟩
  · intro m y
    have hs : r.pop.slots[dist r.pop.due m]? = if dist r.pop.due m < 31 then r.slots[dist r.pop.due m + 1]? else if dist r.pop.due m = 31 then some none else none := by
      generalize dist r.pop.due m = k
      simp only [Rc.pop]
      by_cases h1 : k < 31
      · rw [if_pos h1, List.getElem?_append_left (by rw [List.length_tail]; omega), List.getElem?_tail]
      · rw [if_neg h1, List.getElem?_append_right (by rw [List.length_tail]; omega), List.length_tail, hlen]
        by_cases h2 : k = 31
        · subst h2; rfl
        · rw [if_neg h2, List.getElem?_eq_none (by simp; omega)]
    rw [hs]
    have hm : (m, y) ∈ l1 ++ l2 ↔ (m, y) ∈ l1 ++ (r.due, x) :: l2 ∧ m ≠ r.due := by
      constructor
      · intro k
        have hne : m ≠ r.due := by
          rintro rfl
          rcases List.mem_append.1 k with k | k
          · exact hon.2.2 _ (List.mem_map_of_mem k) r.due (List.mem_cons_self ..) rfl
          · exact hon.2.1.1 (List.mem_map.2 ⟨_, k, rfl⟩)
        refine ⟨?_, hne⟩
        rcases List.mem_append.1 k with k | k
        · exact List.mem_append_left _ k
        · exact List.mem_append_right _ (List.mem_cons_of_mem _ k)
      · rintro ⟨k, hne⟩
        rcases List.mem_append.1 k with k | k
        · exact List.mem_append_left _ k
        · rcases List.mem_cons.1 k with k | k
          · cases k; exact absurd rfl hne
          · exact List.mem_append_right _ k
    rw [hm, h.mem m y]
    constructor
    · rintro ⟨⟨hm1, hm2⟩, hne⟩
      have hb := (List.getElem?_eq_some_iff.1 hm2).1
      have e : dist r.due m = dist r.pop.due m + 1 := by
        simp only [Rc.pop]
        unfold dist at *
        omega
      rw [if_pos (by omega), ← e]
      exact ⟨hm1, hm2⟩
    · rintro ⟨hm1, hm2⟩
      split at hm2
      · have e : dist r.due m = dist r.pop.due m + 1 := by
          rename_i hlt
          simp only [Rc.pop] at hlt ⊢
          unfold dist at *
          omega
        rw [← e] at hm2
        refine ⟨⟨hm1, hm2⟩, ?_⟩
        rintro rfl
        rw [h0] at e
        omega
      · split at hm2 <;> cases hm2
  · rw [List.map_append, List.nodup_append]
    exact ⟨hon.1, hon.2.1.2, fun a ha b hb => hon.2.2 a ha b (List.mem_cons_of_mem _ hb)⟩
end Go.Window
