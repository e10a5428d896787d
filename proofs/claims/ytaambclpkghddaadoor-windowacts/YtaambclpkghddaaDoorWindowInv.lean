/-
  Plain mathematics of a window, on: what always holds of a sender, of a receiver; a text by its number; any number that comes. No program, no walk.
-/
import Derived.Test.YtaambclpkghddaaDoorWindowPush
namespace Go.Window

/-- What always holds of a sender: the numbers that are kept lie behind the next one, 32 at most, each once, oldest first. -/
structure Sn.Ok (s : Sn) : Prop where
  next : s.next < 65536
  lt : ∀ p ∈ s.kept, p.1 < 65536 ∧ 1 ≤ dist p.1 s.next ∧ dist p.1 s.next ≤ 32
  rise : s.kept.Pairwise fun p q => dist q.1 s.next < dist p.1 s.next
theorem ok_new (n : Nat) : (snNew n).Ok := ⟨Nat.mod_lt _ (by decide), fun p h => by simp [snNew] at h, by simp [snNew]⟩
theorem Sn.Ok.ack {s : Sn} (h : s.Ok) (n : Int) (more : List Int) : (s.ack n more).Ok :=
  ⟨h.next, fun p hp => h.lt p (List.mem_filter.1 hp).1, h.rise.filter _⟩
theorem dist_next {a n : Nat} (ha : a < 65536) (hn : n < 65536) (h : dist a n ≤ 65534) : dist a ((n + 1) % 65536) = dist a n + 1 := by unfold dist at *; omega
theorem Sn.Ok.push {s : Sn} (h : s.Ok) (d : ByteArray) : (s.push d).1.Ok := by
  unfold Sn.push
  split
  · exact h
  split
  · exact h
  · rename_i hf
    have hn := h.next
    have hone : dist s.next ((s.next + 1) % 65536) = 1 := by unfold dist; omega
    have hup : ∀ p ∈ s.kept, dist p.1 ((s.next + 1) % 65536) = dist p.1 s.next + 1 := fun p hp => by
      have := h.lt p hp
      exact dist_next this.1 hn (by omega)
    have h31 : ∀ p ∈ s.kept, dist p.1 s.next < 32 := by
      intro p hp
      unfold Sn.full at hf
      have hr := h.rise
      cases hk : s.kept with
      | nil => rw [hk] at hp; cases hp
      | cons q l =>
        rw [hk] at hf hp hr
        simp only [decide_eq_true_eq] at hf
        rcases List.mem_cons.1 hp with e | e
        · subst e; omega
        · have := List.rel_of_pairwise_cons hr e; omega
    refine ⟨Nat.mod_lt _ (by decide), ?_, ?_⟩
    · intro p hp
      simp only [List.mem_append, List.mem_singleton] at hp
      rcases hp with e | e
      · have a := h.lt p e
        have b := h31 p e
        have c := hup p e
        exact ⟨a.1, by simp only [c]; omega, by simp only [c]; omega⟩
      · subst e
        exact ⟨hn, by simp only [hone]; omega, by simp only [hone]; omega⟩
    · simp only
      rw [List.pairwise_append]
      refine ⟨?_, by simp, ?_⟩
      · refine List.Pairwise.imp_of_mem ?_ h.rise
        intro p q hp hq hpq
        rw [hup p hp, hup q hq]
        omega
      · intro p hp q hq
        simp only [List.mem_singleton] at hq
        subst hq
        have := h.lt p hp
        rw [hup p hp, hone]
        omega
theorem Sn.Ok.inj {s : Sn} (h : s.Ok) : ∀ p ∈ s.kept, ∀ q ∈ s.kept, p.1 = q.1 → p = q := by
  have hr := h.rise
  revert hr
  generalize s.kept = l
  intro hr
  induction l with
  | nil => intro p hp; cases hp
  | cons a l ih =>
    rw [List.pairwise_cons] at hr
    intro p hp q hq e
    rcases List.mem_cons.1 hp with e1 | e1 <;> rcases List.mem_cons.1 hq with e2 | e2
    · rw [e1, e2]
    · have := hr.1 q e2; rw [← e, e1] at this; omega
    · have := hr.1 p e1; rw [e, e2] at this; omega
    · exact ih hr.2 p e1 q e2 e
theorem Sn.Ok.nodup {s : Sn} (h : s.Ok) : (s.kept.map Prod.fst).Nodup := by
  rw [List.Nodup, List.pairwise_map]
  exact h.rise.imp fun {a b} hab e => by rw [e] at hab; omega
theorem Sn.Ok.length {s : Sn} (h : s.Ok) : s.kept.length ≤ 32 := by
  have : ∀ (l : List (Nat × ByteArray)), (∀ p ∈ l, 1 ≤ dist p.1 s.next) → (l.Pairwise fun p q => dist q.1 s.next < dist p.1 s.next) → ∀ m, (∀ p ∈ l, dist p.1 s.next ≤ m) → l.length ≤ m := by
    intro l
    induction l with
    | nil => intro _ _ m _; simp
    | cons a l ih =>
      intro h1 h2 m hm
      rw [List.pairwise_cons] at h2
      have ha := hm a (List.mem_cons_self ..)
      have ha1 := h1 a (List.mem_cons_self ..)
      have := ih (fun p hp => h1 p (List.mem_cons_of_mem _ hp)) h2.2 (m - 1) (fun p hp => by have := h2.1 p hp; omega)
      simp only [List.length_cons]
      omega
  exact this s.kept (fun p hp => (h.lt p hp).2.1) h.rise 32 (fun p hp => (h.lt p hp).2.2)
/-- A kept text by its number. -/
def Sn.data (s : Sn) (n : Int) : Option ByteArray := (s.kept.find? fun p => (p.1 : Int) == n).map Prod.snd
theorem Sn.Ok.data {s : Sn} (h : s.Ok) {p : Nat × ByteArray} (hp : p ∈ s.kept) : s.data (p.1 : Int) = some p.2 := by
  unfold Sn.data
  cases e : s.kept.find? fun q => (q.1 : Int) == (p.1 : Int) with
  | none =>
    rw [List.find?_eq_none] at e
    exact absurd (by simp) (e p hp)
  | some q =>
    have h1 := List.mem_of_find?_eq_some e
    have h2 := List.find?_some e
    simp only [beq_iff_eq] at h2
    rw [h.inj q h1 p hp (by omega)]
    rfl
theorem Sn.data_none {s : Sn} (n : Int) (h : ∀ p ∈ s.kept, (p.1 : Int) ≠ n) : s.data n = none := by
  unfold Sn.data
  rw [Option.map_eq_none_iff, List.find?_eq_none]
  intro p hp
  simpa using h p hp
/-- What always holds of a receiver. -/
structure Rc.Ok (r : Rc) : Prop where
  due : r.due < 65536
  len : r.slots.length = 32
  still : r.slots[0]? = some none
theorem rc_new (n : Nat) : (rcNew n).Ok := ⟨Nat.mod_lt _ (by decide), by simp [rcNew], by simp [rcNew]⟩
theorem rc_go {r : Rc} (hl : r.slots.length = 32) : r.go.Ok := by
  have h1 := told_length r.slots
  have h2 := told_end r.slots
  refine ⟨Nat.mod_lt _ (by decide), by simp only [Rc.go, List.length_append, List.length_drop, List.length_replicate]; omega, ?_⟩
  simp only [Rc.go]
  by_cases h : (told r.slots).length < 32
  · rw [List.getElem?_append_left (by rw [List.length_drop]; omega), List.getElem?_drop, Nat.add_zero]
    have hk : (told r.slots).length < r.slots.length := by omega
    rw [List.getElem?_eq_getElem hk]
    cases e : r.slots[(told r.slots).length] with
    | none => rfl
    | some x => exact absurd (by rw [List.getElem?_eq_getElem hk, e]) (h2 x)
  · rw [List.getElem?_append_right (by rw [List.length_drop]; omega), List.length_drop, List.getElem?_replicate, if_pos (by omega)]
theorem Rc.Ok.take {r : Rc} (h : r.Ok) (n : Nat) (d : ByteArray) : (r.take n d).1.Ok := by
  unfold Rc.take
  split
  · exact rc_go (by simp [h.len])
  · exact h
/-- Any number that comes. -/
def Rc.takeI (r : Rc) (n : Int) (d : ByteArray) : Rc × List ByteArray := if 0 ≤ n ∧ n < 65536 then r.take n.toNat d else (r, [])
theorem Rc.Ok.takeI {r : Rc} (h : r.Ok) (n : Int) (d : ByteArray) : (r.takeI n d).1.Ok := by
  unfold Rc.takeI
  split
  · exact h.take _ d
  · exact h
theorem Rc.takeI_nat (r : Rc) (n : Nat) (h : n < 65536) (d : ByteArray) : r.takeI (n : Int) d = r.take n d := by
  unfold Rc.takeI
  rw [if_pos ⟨by omega, by omega⟩]
  rfl
theorem take_length (r : Rc) (n : Nat) (d : ByteArray) : (r.take n d).2.length ≤ r.slots.length := by
  unfold Rc.take
  split
  · have := told_length (r.slots.set (dist r.due n) (some d)); rw [List.length_set] at this; exact this
  · simp
theorem more_length (r : Rc) : r.more.length ≤ 32 := by
  have := List.length_filterMap_le (fun k => match r.slots[k]? with
  | some (some _) => some ((r.due + k) % 65536)
  | _ => none) (List.range 32)
  rw [List.length_range] at this
  exact this
theorem more_lt (r : Rc) : ∀ n ∈ r.more, n < 65536 := by
  intro n hn
  unfold Rc.more at hn
  rw [List.mem_filterMap] at hn
  obtain ⟨k, _, h⟩ := hn
  split at h
  · simp only [Option.some.injEq] at h; omega
  · cases h
/-- The first number: none below 0. -/
def startN (first : Int) : Nat := (if first < 0 then 0 else first % 65536).toNat
theorem start_lt (first : Int) : startN first < 65536 := by unfold startN; split <;> omega
end Go.Window
