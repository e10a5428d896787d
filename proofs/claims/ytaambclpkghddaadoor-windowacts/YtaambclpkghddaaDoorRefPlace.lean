/-
  Contract of the document's Receiver.place and Receiver.More over this dump.
-/
import Derived.Test.YtaambclpkghddaaDoorRefTake
namespace Go.Proofs.YtaambclpkghddaaDoor
open Go.RowKit
open Go.Window (Rc Waits dist)

/-- The document's receiver at a block, what waits in the order of its coming. -/
abbrev rrcL (p : Nat) (r : Rc) (v : Value × Value) (l : List (Nat × ByteArray)) : List Fam := [CellsF p 54 [.int .i64 (r.due : Int), v.1, v.2], OwnF 3 1 v.1 l.length (l.map numV), OwnF 9 1 v.2 l.length (l.map txtV)]
def RRc (p : Nat) (r : Rc) : Fam := Pack fun i : { x : (Value × Value) × List (Nat × ByteArray) // Waits r x.2 } => rrcL p r i.1.1 i.1.2

def placeV (k n : Nat) : Int := if k < n then (k : Int) else -1
set_option maxHeartbeats 1000000 in
set_option maxRecDepth 100000 in
/-- The first place of a number, or that there is none. -/
theorem place_ok (p : Nat) (l : List (Nat × ByteArray)) (n : Int) (a : Option Addr) (c : Nat) (W : World) (hl : l.length ≤ 1000000) (c1 : W.cell? ⟨p, 1, none⟩ = some (.slice a l.length c))
    (hc : ∀ i (h : i < l.length), ∃ g, a = some ⟨g, 0, none⟩ ∧ W.cell? ⟨g, i, none⟩ = some (.int .i64 (l[i].1 : Int))) (k : Nat) (hk : k ≤ l.length) (hno : ∀ i (_ : i < k) (h' : i < l.length), (l[i].1 : Int) ≠ n) (hyes : ∀ h : k < l.length, (l[k].1 : Int) = n) :
    Calls Tryd.prog 39 #[.pointer (some ⟨p, 0, none⟩), .int .i64 n] W fun r w' => r = .returned (.int .i64 (placeV k l.length)) ∧ w' = W := by
  have HC := hide hc
  have HN := hide hno
  have HY := hide hyes
  have hl' : (l.length : Int) ≤ 1000000 := by omega
  clear hc hno hyes hl
  go_enter Tryd.func39, Tryd.ntmps39
  go_wp2_with fail
  go_loop [5] (fun t5 => ∃ i : Nat, t5 = .int .i64 i ∧ i ≤ k) (fun t5 => l.length - (intOf t5).toNat)
  case atStart => exact ⟨0, rfl, Nat.zero_le _⟩
  case round =>
    obtain ⟨i, rfl, hi⟩ := hrel
    by_cases hlt : i < l.length
    · obtain ⟨g, rfl, g0⟩ := HC.out i hlt
      have hlt' : (i : Int) < l.length := by omega
      by_cases hik : i < k
      · have hne := HN.out i hik hlt
        have e : ((l[i].1 : Int) == n) = false := by simpa using hne
        clear hne HC HN HY
        generalize l[i] = x at *
        clear hlt
        go_wp2_with fail
        go_round
        case rel => exact ⟨i + 1, by go_num, by omega⟩
        case measure => simp [intOf]; omega
      · obtain rfl : i = k := by omega
        have he := HY.out hlt
        have e : ((l[i].1 : Int) == n) = true := by simpa using he
        have E : Hid (placeV i l.length = (i : Int)) := if_pos hlt
        clear he HC HN HY
        generalize l[i] = x at *
        clear hlt
        go_wp2_with fail
        go_ret
        exact ⟨by rw [E.out]; rfl, rfl⟩
    · have hle : (l.length : Int) ≤ (i : Int) := by omega
      have E : Hid (placeV k l.length = -1) := if_neg (by omega)
      clear HC HN HY
      go_wp2_with fail
      go_ret
      exact ⟨by rw [E.out]; rfl, rfl⟩
theorem place_find (l : List (Nat × ByteArray)) (n : Int) : ∃ k, k ≤ l.length ∧ (∀ i (_ : i < k) (h' : i < l.length), (l[i].1 : Int) ≠ n) ∧ (∀ h : k < l.length, (l[k].1 : Int) = n) ∧ (k < l.length ↔ ∃ p ∈ l, (p.1 : Int) = n) := by
  induction l with
  | nil => exact ⟨0, Nat.le_refl _, fun i h => by omega, fun h => by simp at h, by simp⟩
  | cons a l ih =>
    by_cases ha : (a.1 : Int) = n
    · exact ⟨0, Nat.zero_le _, fun i h => by omega, fun _ => ha, ⟨fun _ => ⟨a, List.mem_cons_self .., ha⟩, fun _ => by simp⟩⟩
    · obtain ⟨k, h1, h2, h3, h4⟩ := ih
      refine ⟨k + 1, by simpa using h1, ?_, ?_, ?_⟩
      · intro i hi h'
        cases i with
        | zero => exact ha
        | succ i => exact h2 i (by omega) (by simpa using h')
      · intro h
        exact h3 (by simpa using h)
      · simp only [List.length_cons, Nat.add_lt_add_iff_right, h4, List.mem_cons]
        constructor
        · rintro ⟨p, hp, e⟩; exact ⟨p, .inr hp, e⟩
        · rintro ⟨p, hp | hp, e⟩
          · subst hp; exact absurd e ha
          · exact ⟨p, hp, e⟩
/-- Of what waits, those of the first places. -/
def moreT (r : Rc) (i : Nat) : List Int := ((List.range i).filterMap fun k => match r.slots[k]? with
  | some (some _) => some ((r.due + k) % 65536)
  | _ => none).map Int.ofNat
theorem moreT_all (r : Rc) : moreT r 32 = r.more.map Int.ofNat := rfl
theorem moreT_yes (r : Rc) (i : Nat) (h : ∃ x, r.slots[i]? = some (some x)) : moreT r (i + 1) = moreT r i ++ [(((r.due + i) % 65536 : Nat) : Int)] := by
  obtain ⟨x, hx⟩ := h
  unfold moreT
  rw [List.range_succ, List.filterMap_append, List.map_append]
  congr 1
  simp only [List.filterMap_cons, List.filterMap_nil, hx, List.map_cons, List.map_nil]
  rfl
theorem moreT_no (r : Rc) (i : Nat) (h : ¬ ∃ x, r.slots[i]? = some (some x)) : moreT r (i + 1) = moreT r i := by
  unfold moreT
  rw [List.range_succ, List.filterMap_append, List.map_append]
  cases e : r.slots[i]? with
  | none => simp [e]
  | some o =>
    cases o with
    | none => simp [e]
    | some x => exact absurd ⟨x, e⟩ h
theorem moreT_length (r : Rc) (i : Nat) : (moreT r i).length ≤ i := by
  unfold moreT
  rw [List.length_map]
  exact Nat.le_trans (List.length_filterMap_le _ _) (by simp)
theorem nodup_lt : ∀ (n : Nat) (l : List Nat), l.Nodup → (∀ x ∈ l, x < n) → l.length ≤ n
  | 0, l, _, h => by
    cases l with
    | nil => simp
    | cons a l => exact absurd (h a (List.mem_cons_self ..)) (by omega)
  | n + 1, l, hn, h => by
    have h1 := nodup_lt n (l.erase n) (hn.erase n) (fun x hx => by
      have h2 := h x (List.mem_of_mem_erase hx)
      have h3 : x ≠ n := fun e => by subst e; exact hn.not_mem_erase hx
      omega)
    have h4 : l.length ≤ (l.erase n).length + 1 := by
      by_cases hm : n ∈ l
      · rw [List.length_erase_of_mem hm]; omega
      · rw [List.erase_of_not_mem hm]; omega
    omega
theorem waits_length {r : Rc} {l : List (Nat × ByteArray)} (h : Waits r l) : l.length ≤ 32 := by
  have hinj : ∀ p ∈ l, dist r.due p.1 < 32 := fun p hp => by
    have := ((h.mem p.1 p.2).1 hp).2
    have := (List.getElem?_eq_some_iff.1 this).1
    rw [h.len] at this
    exact this
  have hnd : (l.map fun p => dist r.due p.1).Nodup := by
    have h1 := h.once
    rw [List.Nodup, List.pairwise_map] at h1 ⊢
    refine List.Pairwise.imp_of_mem ?_ h1
    intro a b ha hb hab e
    exact hab (Go.Window.dist_inj h.due ((h.mem a.1 a.2).1 ha).1 ((h.mem b.1 b.2).1 hb).1 e)
  have := nodup_lt 32 _ hnd (fun x hx => by
    rw [List.mem_map] at hx
    obtain ⟨p, hp, rfl⟩ := hx
    exact hinj p hp)
  simpa using this
theorem waits_is {r : Rc} {l : List (Nat × ByteArray)} (h : Waits r l) (i : Nat) (hi : i < 32) : (∃ p ∈ l, (p.1 : Int) = (((r.due + i) % 65536 : Nat) : Int)) ↔ ∃ x, r.slots[i]? = some (some x) := by
  have hd : dist r.due ((r.due + i) % 65536) = i := by have := h.due; unfold dist; omega
  have := h.is ((r.due + i) % 65536) (by omega)
  rw [hd, List.mem_map] at this
  rw [← this]
  constructor
  · rintro ⟨p, hp, e⟩; exact ⟨p, hp, by omega⟩
  · rintro ⟨p, hp, e⟩; exact ⟨p, hp, by rw [e]⟩
end Go.Proofs.YtaambclpkghddaaDoor
