/-
  Plain mathematics of a window: numbers that go round; what a receiver tells, what a sender keeps; whatever is lost, doubled, or turned around. No program, no walk.
-/
import Derived.Test.YtaambclpkghddaaDoorBase
namespace Go.Window

/-- From a number on to another one. -/
def dist (a b : Nat) : Nat := (b + 65536 - a) % 65536
theorem dist_on (F i j : Nat) (h : i ≤ j) (hj : j < i + 65536) : dist ((F + i) % 65536) ((F + j) % 65536) = j - i := by unfold dist; omega
theorem dist_back (F i j : Nat) (h : j < i) (hj : i < j + 65536) : dist ((F + i) % 65536) ((F + j) % 65536) = 65536 - (i - j) := by unfold dist; omega

/-- A receiver: the number that is due; what waits, by how far it is beyond. -/
structure Rc where
  due : Nat
  slots : List (Option ByteArray)
def rcNew (n : Nat) : Rc := ⟨n % 65536, List.replicate 32 none⟩
/-- What stands at the front. -/
def told : List (Option ByteArray) → List ByteArray
  | some x :: r => x :: told r
  | _ => []
theorem told_length : ∀ l : List (Option ByteArray), (told l).length ≤ l.length
  | [] => by simp [told]
  | none :: l => by simp [told]
  | some x :: l => by simp [told]; exact told_length l
theorem told_at : ∀ (l : List (Option ByteArray)) (k : Nat) (h : k < (told l).length), l[k]? = some (some (told l)[k])
  | [], k, h => by simp [told] at h
  | none :: l, k, h => by simp [told] at h
  | some x :: l, 0, h => by simp [told]
  | some x :: l, k + 1, h => by
    simp only [told, List.length_cons] at h
    simp only [told, List.getElem?_cons_succ, List.getElem_cons_succ]
    exact told_at l k (by omega)
theorem told_end : ∀ (l : List (Option ByteArray)) (x : ByteArray), l[(told l).length]? ≠ some (some x)
  | [], x => by simp [told]
  | none :: l, x => by simp [told]
  | some y :: l, x => by
    simp only [told, List.length_cons, List.getElem?_cons_succ]
    exact told_end l x
/-- What waits no more. -/
def Rc.go (r : Rc) : Rc := ⟨(r.due + (told r.slots).length) % 65536, r.slots.drop (told r.slots).length ++ List.replicate (told r.slots).length none⟩
/-- A frame comes. -/
def Rc.take (r : Rc) (n : Nat) (d : ByteArray) : Rc × List ByteArray :=
  if dist r.due n < 32 ∧ r.slots[dist r.due n]? = some none then
    (Rc.go ⟨r.due, r.slots.set (dist r.due n) (some d)⟩, told (r.slots.set (dist r.due n) (some d)))
  else (r, [])
/-- What waits, in order. -/
def Rc.more (r : Rc) : List Nat := (List.range 32).filterMap fun k => match r.slots[k]? with
  | some (some _) => some ((r.due + k) % 65536)
  | _ => none

/-- Of the texts T, the first of which bears the number F, d are told. -/
structure Fits (F : Nat) (T : List ByteArray) (r : Rc) (d : Nat) : Prop where
  due : r.due = (F + d) % 65536
  le : d ≤ T.length
  len : r.slots.length = 32
  slot : ∀ k x, r.slots[k]? = some (some x) → T[d + k]? = some x
/-- A text is there. -/
def Got (r : Rc) (d i : Nat) : Prop := i < d ∨ ∃ x, r.slots[i - d]? = some (some x)
def Still (r : Rc) : Prop := r.slots[0]? = some none

theorem new_fits (F : Nat) (T : List ByteArray) : Fits F T (rcNew F) 0 ∧ Still (rcNew F) := by
  refine ⟨⟨rfl, Nat.zero_le _, by simp [rcNew], ?_⟩, by simp [Still, rcNew]⟩
  intro k x h
  simp only [rcNew, List.getElem?_replicate] at h
  split at h <;> simp at h

theorem go_fits {F : Nat} {T : List ByteArray} {r : Rc} {d : Nat} (h : Fits F T r d) :
    Fits F T r.go (d + (told r.slots).length) ∧ Still r.go ∧ told r.slots = (T.drop d).take (told r.slots).length ∧ ∀ i, Got r d i → Got r.go (d + (told r.slots).length) i := by
  have hl := told_length r.slots
  have hlen := h.len
  have hat := told_at r.slots
  have hend := told_end r.slots
  have hT : ∀ k (hk : k < (told r.slots).length), T[d + k]? = some (told r.slots)[k] := fun k hk => h.slot k _ (hat k hk)
  have hle : d + (told r.slots).length ≤ T.length := by
    rcases Nat.eq_zero_or_pos (told r.slots).length with e | e
    · have := h.le; omega
    · have := hT ((told r.slots).length - 1) (by omega)
      have := (List.getElem?_eq_some_iff.1 this).1
      omega
  have hs : ∀ k, r.go.slots[k]? = if k < 32 - (told r.slots).length then r.slots[(told r.slots).length + k]? else if k < 32 then some none else none := by
    intro k
    simp only [Rc.go]
    by_cases h1 : k < 32 - (told r.slots).length
    · rw [if_pos h1, List.getElem?_append_left (by rw [List.length_drop]; omega), List.getElem?_drop]
    · rw [if_neg h1, List.getElem?_append_right (by rw [List.length_drop]; omega), List.length_drop, List.getElem?_replicate]
      by_cases h2 : k < 32
      · rw [if_pos h2, if_pos (by omega)]
      · rw [if_neg h2, if_neg (by omega)]
  refine ⟨⟨?_, hle, ?_, ?_⟩, ?_, ?_, ?_⟩
  · simp only [Rc.go, h.due]; omega
  · simp only [Rc.go, List.length_append, List.length_drop, List.length_replicate]; omega
  · intro k x hk
    rw [hs] at hk
    by_cases h1 : k < 32 - (told r.slots).length
    · rw [if_pos h1] at hk
      rw [Nat.add_assoc]
      exact h.slot _ _ hk
    · rw [if_neg h1] at hk
      split at hk <;> simp at hk
  · unfold Still
    rw [hs]
    by_cases h1 : 0 < 32 - (told r.slots).length
    · rw [if_pos h1, Nat.add_zero]
      have hk : (told r.slots).length < r.slots.length := by omega
      rw [List.getElem?_eq_getElem hk]
      cases e : r.slots[(told r.slots).length] with
      | none => rfl
      | some x => exact absurd (by rw [List.getElem?_eq_getElem hk, e]) (hend x)
    · rw [if_neg h1, if_pos (by decide)]
  · apply List.ext_getElem?
    intro k
    by_cases hk : k < (told r.slots).length
    · rw [List.getElem?_eq_getElem hk, List.getElem?_take_of_lt hk, List.getElem?_drop, hT k hk]
    · rw [List.getElem?_eq_none (by omega), List.getElem?_eq_none (by rw [List.length_take]; omega)]
  · intro i hi
    rcases hi with hi | ⟨x, hx⟩
    · exact .inl (by omega)
    · by_cases h1 : i < d + (told r.slots).length
      · exact .inl h1
      · have hb := (List.getElem?_eq_some_iff.1 hx).1
        refine .inr ⟨x, ?_⟩
        rw [hs, if_pos (by omega), show (told r.slots).length + (i - (d + (told r.slots).length)) = i - d by omega]
        exact hx

/-- A frame of those that were pushed comes. -/
theorem take_fits {F : Nat} {T : List ByteArray} {r : Rc} {d i : Nat} (h : Fits F T r d) (hs : Still r) (hT : T.length ≤ 32) (hi : i < T.length) :
    ∃ d', d ≤ d' ∧ Fits F T (r.take ((F + i) % 65536) T[i]).1 d' ∧ Still (r.take ((F + i) % 65536) T[i]).1 ∧ (r.take ((F + i) % 65536) T[i]).2 = (T.drop d).take (d' - d) ∧
      Got (r.take ((F + i) % 65536) T[i]).1 d' i ∧ ∀ j, Got r d j → Got (r.take ((F + i) % 65536) T[i]).1 d' j := by
  have hle := h.le
  unfold Rc.take
  by_cases hd : i < d
  · have he : dist r.due ((F + i) % 65536) = 65536 - (d - i) := by rw [h.due]; exact dist_back F d i hd (by omega)
    rw [he, if_neg (by omega)]
    exact ⟨d, Nat.le_refl _, h, hs, by simp, .inl hd, fun _ h => h⟩
  · have he : dist r.due ((F + i) % 65536) = i - d := by rw [h.due]; exact dist_on F d i (by omega) (by omega)
    rw [he]
    by_cases hn : r.slots[i - d]? = some none
    · rw [if_pos ⟨by omega, hn⟩]
      have hb := (List.getElem?_eq_some_iff.1 hn).1
      have h' : Fits F T ⟨r.due, r.slots.set (i - d) (some T[i])⟩ d := by
        refine ⟨h.due, h.le, by simp [h.len], ?_⟩
        intro k x hk
        simp only at hk
        by_cases e : i - d = k
        · subst e
          rw [List.getElem?_set_self hb] at hk
          cases hk
          rw [show d + (i - d) = i by omega, List.getElem?_eq_getElem hi]
        · rw [List.getElem?_set_ne e] at hk
          exact h.slot k x hk
      obtain ⟨g1, g2, g3, g4⟩ := go_fits h'
      simp only at g1 g2 g3 g4
      refine ⟨_, Nat.le_add_right _ _, g1, g2, by rw [Nat.add_sub_cancel_left]; exact g3, g4 i (.inr ⟨T[i], by simp only []; rw [List.getElem?_set_self hb]⟩), ?_⟩
      intro j hj
      apply g4
      rcases hj with hj | ⟨x, hx⟩
      · exact .inl hj
      · refine .inr ?_
        by_cases e : i - d = j - d
        · exact ⟨T[i], by simp only []; rw [← e, List.getElem?_set_self hb]⟩
        · exact ⟨x, by simp only []; rw [List.getElem?_set_ne e]; exact hx⟩
    · rw [if_neg (fun h => hn h.2)]
      refine ⟨d, Nat.le_refl _, h, hs, by simp, .inr ?_, fun _ h => h⟩
      have hb : i - d < r.slots.length := by have := h.len; omega
      rw [List.getElem?_eq_getElem hb] at hn ⊢
      cases e : r.slots[i - d] with
      | none => rw [e] at hn; exact absurd rfl hn
      | some x => exact ⟨x, rfl⟩
/-- Where all are there, all are told. -/
theorem all_told {F : Nat} {T : List ByteArray} {r : Rc} {d : Nat} (h : Fits F T r d) (hs : Still r) (ha : ∀ i, i < T.length → Got r d i) : d = T.length := by
  have := h.le
  by_cases e : d < T.length
  · rcases ha d e with k | ⟨x, hx⟩
    · omega
    · rw [Nat.sub_self, hs] at hx
      cases hx
  · omega

/-- A sender: the next number; what it keeps, oldest first. -/
structure Sn where
  next : Nat
  kept : List (Nat × ByteArray)
/-- How far an answer's number goes. -/
def far (s : Sn) (n : Int) : Nat := match s.kept with
  | [] => 0
  | p :: _ => if (0 ≤ n ∧ n < 65536) ∧ dist p.1 n.toNat ≤ dist p.1 s.next then dist p.1 n.toNat else 0
def oldest (s : Sn) : Nat := match s.kept with
  | [] => 0
  | p :: _ => p.1
def Sn.ack (s : Sn) (n : Int) (more : List Int) : Sn := ⟨s.next, s.kept.filter fun p => !(decide (dist (oldest s) p.1 < far s n) || more.contains (p.1 : Int))⟩
/-- An error's number (2: too long, 8: full). -/
def Sn.full (s : Sn) : Bool := match s.kept with
  | [] => false
  | p :: _ => decide (32 ≤ dist p.1 s.next)
def Sn.push (s : Sn) (d : ByteArray) : Sn × Nat × Nat :=
  if 20000 < d.size then (s, 0, 2) else if s.full then (s, 0, 8) else (⟨(s.next + 1) % 65536, s.kept ++ [(s.next, d)]⟩, s.next, 0)
/-- Of the texts T those of the places I are kept. -/
structure Keeps (F : Nat) (T : List ByteArray) (s : Sn) (I : List Nat) : Prop where
  next : s.next = (F + T.length) % 65536
  kept : s.kept = I.map fun i => ((F + i) % 65536, T.getD i ⟨#[]⟩)
  rise : I.Pairwise (· < ·)
  lt : ∀ i ∈ I, i < T.length

theorem mem_more {F : Nat} {T : List ByteArray} {r : Rc} {d i : Nat} (h : Fits F T r d) (hT : T.length ≤ 32) (hi : i < T.length) (hd : d ≤ i) :
    (F + i) % 65536 ∈ r.more ↔ ∃ x, r.slots[i - d]? = some (some x) := by
  unfold Rc.more
  rw [List.mem_filterMap]
  constructor
  · rintro ⟨k, hk, he⟩
    rw [List.mem_range] at hk
    split at he
    · rename_i x hx
      simp only [Option.some.injEq] at he
      rw [h.due] at he
      have : k = i - d := by omega
      subst this
      exact ⟨x, hx⟩
    · cases he
  · rintro ⟨x, hx⟩
    refine ⟨i - d, by rw [List.mem_range]; omega, ?_⟩
    rw [hx]
    simp only [Option.some.injEq]
    rw [h.due]
    omega
/-- The receiver's own answer: kept is what is not there. -/
theorem ack_keeps {F : Nat} {T : List ByteArray} {s : Sn} {I : List Nat} {r : Rc} {d : Nat} (hk : Keeps F T s I) (h : Fits F T r d) (hT : T.length ≤ 32) :
    ∃ J : List Nat, Keeps F T (s.ack (r.due : Int) (r.more.map Int.ofNat)) J ∧ ∀ i, i ∈ J ↔ i ∈ I ∧ ¬ Got r d i := by
  classical
  have hle := h.le
  have hone : ∀ i ∈ I, (!(decide (dist (oldest s) ((F + i) % 65536) < far s (r.due : Int)) || (r.more.map Int.ofNat).contains ((((F + i) % 65536 : Nat)) : Int))) = decide (¬ Got r d i) := by
    intro i hi
    have hiT := hk.lt i hi
    obtain ⟨j, I', rfl⟩ : ∃ j I', I = j :: I' := by cases I with | nil => cases hi | cons j I' => exact ⟨_, _, rfl⟩
    have hj : j ≤ i := by
      rcases List.mem_cons.1 hi with e | e
      · omega
      · exact Nat.le_of_lt (List.rel_of_pairwise_cons hk.rise e)
    have ho : oldest s = (F + j) % 65536 := by unfold oldest; rw [hk.kept]; rfl
    have hfar : far s (r.due : Int) = if j ≤ d then d - j else 0 := by
      unfold far
      rw [hk.kept]
      simp only [List.map_cons, Int.toNat_natCast]
      rw [h.due, hk.next]
      by_cases e : j ≤ d
      · rw [dist_on F j d e (by omega), dist_on F j T.length (by omega) (by omega), if_pos ⟨by omega, by omega⟩, if_pos e]
      · rw [dist_back F j d (by omega) (by omega), dist_on F j T.length (by omega) (by omega), if_neg (by omega), if_neg e]
    rw [ho, hfar, dist_on F j i hj (by omega)]
    have hc : ((r.more.map Int.ofNat).contains ((((F + i) % 65536 : Nat)) : Int)) = decide ((F + i) % 65536 ∈ r.more) := by
      rw [Bool.eq_iff_iff, List.contains_iff_mem, decide_eq_true_eq, List.mem_map]
      constructor
      · rintro ⟨n, hn, e⟩
        have : n = (F + i) % 65536 := Int.ofNat.inj e
        rw [← this]; exact hn
      · intro hn; exact ⟨_, hn, rfl⟩
    rw [hc]
    by_cases hd : i < d
    · have hg : Got r d i := .inl hd
      rw [if_pos (by omega), decide_eq_true (show i - j < d - j by omega), decide_eq_false (show ¬ ¬ Got r d i from fun k => k hg)]
      rfl
    · have hg : Got r d i ↔ ∃ x, r.slots[i - d]? = some (some x) := ⟨fun k => k.resolve_left hd, .inr⟩
      have hm := mem_more h hT hiT (by omega)
      have hf : ¬ (i - j < if j ≤ d then d - j else 0) := by split <;> omega
      rw [decide_eq_false hf, Bool.false_or]
      by_cases k : Got r d i
      · rw [decide_eq_true (hm.2 (hg.1 k)), decide_eq_false (show ¬ ¬ Got r d i from fun n => n k)]; rfl
      · rw [decide_eq_false (fun n => k (hg.2 (hm.1 n))), decide_eq_true k]; rfl
  refine ⟨I.filter fun i => decide (¬ Got r d i), ⟨hk.next, ?_, hk.rise.filter _, fun i hi => hk.lt i (List.mem_filter.1 hi).1⟩, fun i => by rw [List.mem_filter]; simp⟩
  simp only [Sn.ack]
  rw [hk.kept, List.filter_map]
  congr 1
  apply List.filter_congr
  intro i hi
  exact hone i hi
end Go.Window
