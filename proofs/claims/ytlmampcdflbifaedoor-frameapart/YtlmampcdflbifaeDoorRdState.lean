/-
  Contracts of the reader's Num, End in whatever state it is, over this dump.
-/
import Derived.Test.YtlmampcdflbifaeDoorJoin07
import Derived.Test.YtlmampcdflbifaeDoorErTB
import Derived.Test.YtlmampcdflbifaeDoorJoin04
namespace Go.Proofs.YtlmampcdflbifaeDoor
open Go.RowKit

theorem dec_code {s : List UInt8} {c : Nat} (h : Go.Num.dec s = .error c) : c = 1 ∨ c = 2 := by
  unfold Go.Num.dec at h
  split at h
  · cases h; exact Or.inl rfl
  · split at h
    · cases h; exact Or.inl rfl
    · split at h
      · cases h; exact Or.inr rfl
      · cases h
/-- A reader: what is left, or the number of its error. -/
abbrev St := Except Nat (List UInt8)
def RdSt (e : EV) (p : Nat) (w : World) : St → Prop
  | .ok l => ∃ s : ByteArray, s.data.toList = l ∧ RdAt p w s .nilIface
  | .error c => (c = 1 ∨ c = 2) ∧ RdAt p w ByteArray.empty (errV e c)
def numS : St → Nat × St
  | .error c => (0, .error c)
  | .ok l => match Go.Num.dec l with
    | .ok (n, k) => (n, .ok (l.drop k))
    | .error c => (0, .error c)
def lenS : St → Nat
  | .ok l => l.length
  | .error _ => 0
theorem numS_len (st : St) : lenS (numS st).2 ≤ lenS st := by
  cases st with
  | error c => exact Nat.le_refl _
  | ok l =>
    unfold numS
    simp only
    split
    · simp [lenS]
    · simp [lenS]
theorem numS_le (st : St) : (numS st).1 ≤ 1099511627776 := by
  cases st with
  | error c => simp [numS]
  | ok l =>
    unfold numS
    simp only
    split
    · rename_i n k h; exact (dec_num h).1
    · simp

theorem RdAt.below' {p : Nat} {w w' : World} {s : ByteArray} {x : Value} (h : RdAt p w s x) (hb : Below (p + 1) w w') : RdAt p w' s x :=
  ⟨(hb.cell (p := ⟨p, 0, none⟩) (by simp)).trans h.c0, (hb.cell (p := ⟨p, 1, none⟩) (by simp)).trans h.c1, (hb.frozen (p := ⟨p, 0, none⟩) (by simp)).trans h.f0, (hb.frozen (p := ⟨p, 1, none⟩) (by simp)).trans h.f1, Nat.lt_of_lt_of_le h.lt hb.size⟩
theorem RdSt.below' {e : EV} {p : Nat} {w w' : World} {st : St} (h : RdSt e p w st) (hb : Below (p + 1) w w') : RdSt e p w' st := by
  cases st with
  | ok l => obtain ⟨s, hs, h⟩ := h; exact ⟨s, hs, h.below' hb⟩
  | error c => exact ⟨h.1, h.2.below' hb⟩
theorem RdSt.lt {e : EV} {p : Nat} {w : World} {st : St} (h : RdSt e p w st) : p < w.heap.size := by
  cases st with
  | ok l => obtain ⟨s, hs, h⟩ := h; exact h.lt
  | error c => exact h.2.lt

theorem grow_alloc {p : Nat} {w w1 : World} (h : w.grownBy w1 (some p)) (o : Obj) : w.grownBy (w1.alloc o) (some p) :=
  ⟨h.os, h.tape, h.output, by have := h.size; simp; omega, fun k hk hn => (Below.heap_alloc _ _ _ (Nat.lt_of_lt_of_le hk h.size)).trans (h.block k hk hn)⟩
theorem grow_setNew {p q i : Nat} {w w1 : World} (h : w.grownBy w1 (some p)) (hq : w.heap.size ≤ q) (v : Value) : w.grownBy (w1.setCell ⟨q, i, none⟩ v) (some p) :=
  ⟨h.os, h.tape, h.output, by rw [World.size_setCell]; exact h.size, fun k hk hn => (Below.heap_setCell _ _ _ _ (by simp; omega)).trans (h.block k hk hn)⟩
theorem own_grown {p n : Nat} {w w' : World} {e : TypeId} {size : Nat} {v : Value} {xs : List Value} (h : w.ownsRow (p + 1) e size v n xs) (hg : w.grownBy w' (some p)) : w'.ownsRow (p + 1) e size v n xs := by
  rcases h with ⟨h1, h2 | ⟨g, c, cur, e1, e2, e3, e4⟩⟩
  · exact ⟨h1, Or.inl h2⟩
  · refine ⟨h1, Or.inr ⟨g, c, cur, e1, e2, (hg.block g (Array.getElem?_eq_some_iff.1 e3).1 (fun q => by cases q; omega)).trans e3, e4⟩⟩

theorem failR_err (p : Nat) (s : ByteArray) (t t' : TypeId) (x x' : Value) (w : World) (h : RdAt p w s (.iface t x)) :
    Calls Tryd.prog 30 #[.pointer (some ⟨p, 0, none⟩), .iface t' x'] w fun r w' => r = .returned (.tuple #[]) ∧ w' = w := by
  obtain ⟨c0, c1, f0, f1, lt⟩ := h
  go_enter Tryd.func30, Tryd.ntmps30
  go_wp2
  go_end0
  exact ⟨rfl, rfl⟩

set_option maxHeartbeats 1000000 in
set_option maxRecDepth 100000 in
theorem numR_err (p : Nat) (t : TypeId) (x : Value) (tT : TypeId) (xT : Value) (w : World) (h : RdAt p w ByteArray.empty (.iface t x)) (hT : w.cell? ⟨2, 0, none⟩ = some (.iface tT xT)) :
    Calls Tryd.prog 23 #[.pointer (some ⟨p, 0, none⟩)] w fun r w' => r = .returned (.int .i64 0) ∧ w' = w := by
  have H := hide h
  obtain ⟨c0, c1, f0, f1, lt⟩ := h
  go_enter Tryd.func23, Tryd.ntmps23
  go_wp2_with fail
  go_loop [3, 4] (fun a b => a = .int .i64 0 ∧ b = .int .i64 0) (fun _ _ => 0)
  case atStart => exact ⟨rfl, rfl⟩
  case round =>
    obtain ⟨rfl, rfl⟩ := hrel
    go_wp2_with fail
    refine (failR_err _ _ _ _ _ _ _ H.out).mono ?_
    rintro e w1 ⟨rfl, rfl⟩
    go_wp2
    go_ret
    exact ⟨rfl, rfl⟩

theorem numSt (e : EV) (p : Nat) (st : St) (w : World) (h : RdSt e p w st) (hs : lenS st ≤ 1000000) (he : Er1 e w) :
    Calls Tryd.prog 23 #[.pointer (some ⟨p, 0, none⟩)] w fun r w' => r = .returned (.int .i64 (numS st).1) ∧ RdSt e p w' (numS st).2 ∧ w.grownBy w' (some p) := by
  cases st with
  | error c =>
    obtain ⟨hc, h⟩ := h
    obtain ⟨t, x, ev⟩ := errV_form e c (by omega)
    have h' := h
    rw [ev] at h'
    refine (numR_err p t x _ _ w h' he.text).mono ?_
    rintro r w' ⟨rfl, rfl⟩
    exact ⟨rfl, ⟨hc, h⟩, World.grownBy.refl _ _⟩
  | ok l =>
    obtain ⟨s, rfl, h⟩ := h
    refine (numR4 p s _ _ _ _ w h (by rw [← lenL]; exact hs) he.text he.bound).mono ?_
    rintro r w' ⟨hr, hg⟩
    unfold NumRes at hr
    unfold numS
    simp only
    split at hr
    · rename_i n k hd
      rw [hd]
      obtain ⟨rfl, hr⟩ := hr
      refine ⟨rfl, ⟨_, ?_, hr⟩, hg⟩
      rw [extractL]
      exact List.take_of_length_le (by rw [List.length_drop, lenL]; omega)
    · rename_i hd
      rw [hd]
      obtain ⟨rfl, hr⟩ := hr
      exact ⟨rfl, ⟨Or.inl rfl, hr⟩, hg⟩
    · rename_i c hc hd
      rw [hd]
      obtain ⟨rfl, hr⟩ := hr
      rcases dec_code hd with rfl | rfl
      · exact absurd rfl hc
      · exact ⟨rfl, ⟨Or.inr rfl, hr⟩, hg⟩

def endC : St → Nat
  | .error c => c
  | .ok l => if l = [] then 0 else 1

set_option maxHeartbeats 1000000 in
set_option maxRecDepth 100000 in
theorem endR_err (p : Nat) (t : TypeId) (x : Value) (w : World) (h : RdAt p w ByteArray.empty (.iface t x)) :
    Calls Tryd.prog 25 #[.pointer (some ⟨p, 0, none⟩)] w fun r w' => r = .returned (.iface t x) ∧ w' = w := by
  obtain ⟨c0, c1, f0, f1, lt⟩ := h
  go_enter Tryd.func25, Tryd.ntmps25
  go_wp2
  go_ret
  exact ⟨rfl, rfl⟩

set_option maxHeartbeats 1000000 in
set_option maxRecDepth 100000 in
theorem endR_ok (p : Nat) (w : World) (h : RdAt p w ByteArray.empty .nilIface) :
    Calls Tryd.prog 25 #[.pointer (some ⟨p, 0, none⟩)] w fun r w' => r = .returned .nilIface ∧ w' = w := by
  obtain ⟨c0, c1, f0, f1, lt⟩ := h
  go_enter Tryd.func25, Tryd.ntmps25
  go_wp2
  go_ret
  exact ⟨rfl, rfl⟩

set_option maxHeartbeats 1000000 in
set_option maxRecDepth 100000 in
theorem endR_left (p : Nat) (s : ByteArray) (t : TypeId) (x : Value) (w : World) (h : RdAt p w s .nilIface) (hs : s.data.toList ≠ []) (hT : w.cell? ⟨2, 0, none⟩ = some (.iface t x)) :
    Calls Tryd.prog 25 #[.pointer (some ⟨p, 0, none⟩)] w fun r w' => r = .returned (.iface t x) ∧ w.grownBy w' (some p) := by
  have H := hide h
  obtain ⟨c0, c1, f0, f1, lt⟩ := h
  have hne : s.toList.isEmpty = false := by
    rw [ByteArray.toList_eq]
    simpa using hs
  clear hs
  go_enter Tryd.func25, Tryd.ntmps25
  go_wp2_with fail
  refine (failR4 _ _ _ _ _ H.out).mono ?_
  rintro e w1 ⟨rfl, h1, hg1⟩
  have Hg1 := hide hg1
  clear hg1 c0 c1 f0 f1 lt
  obtain ⟨c0, c1, f0, f1, lt⟩ := h1
  go_wp2
  go_ret
  exact ⟨rfl, Hg1.out⟩

theorem endSt (e : EV) (p : Nat) (st : St) (w : World) (h : RdSt e p w st) (he : Er1 e w) :
    Calls Tryd.prog 25 #[.pointer (some ⟨p, 0, none⟩)] w fun r w' => r = .returned (errV e (endC st)) ∧ w.grownBy w' (some p) := by
  cases st with
  | error c =>
    obtain ⟨hc, h⟩ := h
    obtain ⟨t, x, ev⟩ := errV_form e c (by omega)
    rw [ev] at h
    refine (endR_err p t x w h).mono ?_
    rintro r w' ⟨rfl, rfl⟩
    exact ⟨by rw [endC, ev], World.grownBy.refl _ _⟩
  | ok l =>
    obtain ⟨s, rfl, h⟩ := h
    by_cases hl : s.data.toList = []
    · have hs : s = ByteArray.empty := ext_of_list (by rw [hl]; rfl)
      subst hs
      refine (endR_ok p w h).mono ?_
      rintro r w' ⟨rfl, rfl⟩
      exact ⟨by rw [endC, if_pos hl]; rfl, World.grownBy.refl _ _⟩
    · refine (endR_left p s _ _ w h hl he.text).mono ?_
      rintro r w' ⟨rfl, hg⟩
      exact ⟨by rw [endC, if_neg hl]; rfl, hg⟩

end Go.Proofs.YtlmampcdflbifaeDoor
