/-
  Contracts that the law SignTells asks of both sides at once: an error and its number, a fault, what is read.
-/
import Derived.Test.YtgcpljgdeoeppabDoorCheck
import Derived.Test.YtgcpljgdeoeppabDoorSignText
import Derived.Test.YtgcpljgdeoeppabDoorRead
import Derived.Test.YtgcpljgdeoeppabDoorSame
import Derived.Test.YtgcpljgdeoeppabDoorSigned
import Derived.Test.YtgcpljgdeoeppabDoorRefFault
import Derived.Test.YtgcpljgdeoeppabDoorRefFind
import Derived.Test.YtgcpljgdeoeppabDoorRefSText
import Derived.Test.YtgcpljgdeoeppabDoorRefSRead
import Derived.Test.YtgcpljgdeoeppabDoorCodeMore
namespace Go.Proofs.YtgcpljgdeoeppabDoor
open Go.RowKit
open Go.Sign (Blk)

/-- The three errors among the twelve. -/
def evOf (a : Nat → Addr) : EV := ⟨137, .pointer (some (a 0)), 137, .pointer (some (a 1)), 137, .pointer (some (a 7))⟩
theorem Sents.er {w : World} {a : Nat → Addr} (h : Sents w a) : Er (evOf a) w := ⟨h.c0, h.c1, h.c7⟩
theorem errV_sent {a : Nat → Addr} {c : Nat} (h : c = 1 ∨ c = 2 ∨ c = 8) : ∃ k, k < 12 ∧ c = k + 1 ∧ errV (evOf a) c = .iface 137 (.pointer (some (a k))) := by
  rcases h with rfl | rfl | rfl
  · exact ⟨0, by decide, rfl, rfl⟩
  · exact ⟨1, by decide, rfl, rfl⟩
  · exact ⟨7, by decide, rfl, rfl⟩

theorem coded_errV (a : Nat → Addr) (c : Nat) (w : World) (h : Sents w a) (hc : c = 0 ∨ c = 1 ∨ c = 2 ∨ c = 8) :
    Calls Tryd.prog 17 #[errV (evOf a) c, .int .i64 c] w fun r w' => r = .returned (.bool true) ∧ Below w.heap.size w w' := by
  rcases hc with rfl | hc
  · refine (coded_nil 0 w).mono ?_
    rintro r w' ⟨rfl, rfl⟩
    exact ⟨rfl, Below.refl _ _⟩
  · obtain ⟨k, hk, rfl, e⟩ := errV_sent (a := a) hc
    rw [e]
    refine (coded_sent k hk a _ w h).mono ?_
    rintro r w' ⟨rfl, hb⟩
    exact ⟨ret_bool (by simp), hb⟩

set_option maxHeartbeats 1000000 in
set_option maxRecDepth 100000 in
theorem faulted_zero (x : Value) (at_ fa : Int) (w : World) (h : ∀ W, Below w.heap.size w W → Calls Tryd.prog 37 #[x] W fun r w' => r = .returned (.tuple #[.int .i64 0, .int .i64 at_]) ∧ Below W.heap.size W w') :
    Calls Tryd.prog 23 #[x, .agg #[.int .i64 0, .int .i64 fa]] w fun r w' => r = .returned (.bool true) ∧ Below w.heap.size w w' := by
  have HC := hide h
  clear h
  have hb0 : Below w.heap.size w (w.alloc (.cells #[.int .i64 0, .int .i64 fa] 45)) := (Below.refl _ _).alloc (Nat.le_refl _) _
  have Hb0 := hide hb0
  have Hq0 := hide (HvAt.fresh w 0 fa 45)
  clear hb0
  go_enter Tryd.func23, Tryd.ntmps23
  go_wp2_with fail
  refine (HC.out _ Hb0.out).mono ?_
  rintro r w1 ⟨rfl, hb1⟩
  have Hb1 := hide (Hb0.out.trans (hb1.mono (by simp)))
  have hq1 := Hq0.out.below hb1 Hq0.out.lt
  clear hb1 Hb0 Hq0
  obtain ⟨q0, q1, p0, p1, lt⟩ := hq1
  go_wp2
  go_ret
  exact ⟨rfl, Hb1.out⟩

set_option maxHeartbeats 1000000 in
set_option maxRecDepth 100000 in
theorem faulted_at (x : Value) (c at_ : Int) (w : World) (hc : c ≠ 0) (h : ∀ W, Below w.heap.size w W → Calls Tryd.prog 37 #[x] W fun r w' => r = .returned (.tuple #[.int .i64 c, .int .i64 at_]) ∧ Below W.heap.size W w') :
    Calls Tryd.prog 23 #[x, .agg #[.int .i64 c, .int .i64 at_]] w fun r w' => r = .returned (.bool true) ∧ Below w.heap.size w w' := by
  have HC := hide h
  clear h
  have hc' : (c == 0) = false := by simpa using hc
  clear hc
  have hb0 : Below w.heap.size w (w.alloc (.cells #[.int .i64 c, .int .i64 at_] 45)) := (Below.refl _ _).alloc (Nat.le_refl _) _
  have Hb0 := hide hb0
  have Hq0 := hide (HvAt.fresh w c at_ 45)
  clear hb0
  go_enter Tryd.func23, Tryd.ntmps23
  go_wp2_with fail
  refine (HC.out _ Hb0.out).mono ?_
  rintro r w1 ⟨rfl, hb1⟩
  have Hb1 := hide (Hb0.out.trans (hb1.mono (by simp)))
  have hq1 := Hq0.out.below hb1 Hq0.out.lt
  clear hb1 Hb0 Hq0
  obtain ⟨q0, q1, p0, p1, lt⟩ := hq1
  go_wp2
  go_ret
  exact ⟨rfl, Hb1.out⟩

theorem fault_code (l : List Blk) (k : Int) : (Go.Sign.fault l k).1 = 0 ∨ (Go.Sign.fault l k).1 = 2 ∨ (Go.Sign.fault l k).1 = 8 := by
  unfold Go.Sign.fault
  split
  · split
    · exact Or.inl rfl
    · rename_i i c h
      exact Or.inr (Go.Sign.scanW_code _ _ _ _ _ h).1
  · exact Or.inr (Or.inl rfl)

/-- Check's error is the document's fault. -/
theorem check_then (u : Value) (l : List Blk) (k : Int) (a : Nat → Addr) (w : World) (hu : RowIn w u l) (hl : l.length ≤ 1000000) (hS : Sents w a) :
    Calls Tryd.prog 24 #[u, .int .i64 k] w fun r w' => (∃ x, r = .returned x ∧ ∀ W, Below w'.heap.size w' W → Calls Tryd.prog 23 #[x, .agg #[.int .i64 (Go.Sign.fault l k).1, .int .i64 (Go.Sign.fault l k).2]] W fun r W' => r = .returned (.bool true) ∧ Below W.heap.size W W') ∧ Below w.heap.size w w' := by
  refine (check_ok u l k (evOf a) w hu hl hS.er).mono ?_
  rintro r w' ⟨hr, hb⟩
  refine ⟨?_, hb⟩
  have hcode := fault_code l k
  generalize Go.Sign.fault l k = f at *
  obtain ⟨c, at_⟩ := f
  simp only at hcode ⊢
  have hS' := hS.below hb
  unfold CheckRes at hr
  by_cases hc : c = 0
  · subst hc
    rw [if_pos (Or.inl rfl)] at hr
    refine ⟨_, hr, fun W hW => ?_⟩
    exact faulted_zero .nilIface (-1) at_ W (fun W' _ => (code_nil W').mono fun _ _ ⟨h1, h2⟩ => ⟨h1, by rw [h2]; exact Below.refl _ _⟩)
  · obtain ⟨j, hj, hcj, e⟩ := errV_sent (a := a) (c := c) (by omega)
    have hci : (c : Int) = (j : Int) + 1 := by omega
    by_cases ha : at_ = -1
    · subst ha
      rw [if_pos (Or.inr rfl)] at hr
      refine ⟨_, hr, fun W hW => ?_⟩
      simp only
      rw [e]
      refine faulted_at _ c (-1) W (by omega) (fun W' hW' => ?_)
      rw [hci]
      exact code_sent j hj a W' ((hS'.below hW).below hW')
    · rw [if_neg (by simp only [not_or]; exact ⟨hc, ha⟩)] at hr
      obtain ⟨p, hr, hp, c0, c1⟩ := hr
      refine ⟨_, hr, fun W hW => ?_⟩
      simp only at c0 c1
      rw [e] at c1
      refine faulted_at _ c at_ W (by omega) (fun W' hW' => ?_)
      rw [hci]
      have d0 := (hW.cell (World.block_lt_of_cell? _ _ c0)).trans c0
      have d1 := (hW.cell (World.block_lt_of_cell? _ _ c1)).trans c1
      exact code_fault j hj at_ p a W' ((hS'.below hW).below hW') ((hW'.cell (World.block_lt_of_cell? _ _ d0)).trans d0) ((hW'.cell (World.block_lt_of_cell? _ _ d1)).trans d1)

/-- What is read, in one form: the blocks, the size, an error's number. -/
def rdOut (t : List UInt8) : List Blk × Nat × Nat :=
  match Go.Sign.rdS t with
  | .ok (l, size) => (l, size, 0)
  | .error c => ([], 0, c)
theorem row_nil (w : World) : RowIn w (.slice none 0 0) [] := ⟨none, 0, rfl, fun h => by simp at h⟩
theorem sread_uni (a : Nat → Addr) (t : ByteArray) (w : World) (ht : t.size ≤ 100000) (hS : Sents w a) :
    Calls Tryd.prog 26 #[.string t] w fun r w' => (∃ v, r = .returned (.tuple #[v, .int .i64 (rdOut t.data.toList).2.1, errV (evOf a) (rdOut t.data.toList).2.2]) ∧ RowIn w' v (rdOut t.data.toList).1 ∧ ((rdOut t.data.toList).2.2 = 0 ∨ (rdOut t.data.toList).2.2 = 1 ∨ (rdOut t.data.toList).2.2 = 2 ∨ (rdOut t.data.toList).2.2 = 8)) ∧ Below w.heap.size w w' := by
  refine (sread_ok (evOf a) t w ht hS.er).mono ?_
  rintro r w' ⟨hr, hb⟩
  refine ⟨?_, hb⟩
  unfold rdOut
  cases h : Go.Sign.rdS t.data.toList with
  | ok x =>
    obtain ⟨l, size⟩ := x
    rw [h] at hr
    obtain ⟨v, rfl, hown⟩ := hr
    exact ⟨v, rfl, RowIn.of_own hown, Or.inl rfl⟩
  | error c =>
    rw [h] at hr
    obtain ⟨rfl, hc⟩ := hr
    exact ⟨_, rfl, row_nil _, Or.inr hc⟩
theorem rsign_uni (t : ByteArray) (w : World) (ht : t.size ≤ 100000) :
    Calls Tryd.prog 27 #[.string t] w fun r w' => (∃ v, r = .returned (.tuple #[v, .int .i64 (rdOut t.data.toList).2.1, .int .i64 (rdOut t.data.toList).2.2]) ∧ RowIn w' v (rdOut t.data.toList).1) ∧ Below w.heap.size w w' := by
  refine (rsign_ok t w ht).mono ?_
  rintro r w' ⟨hr, hb⟩
  refine ⟨?_, hb⟩
  unfold rdOut
  cases h : Go.Sign.rdS t.data.toList with
  | ok x =>
    obtain ⟨l, size⟩ := x
    rw [h] at hr
    obtain ⟨v, rfl, hown⟩ := hr
    exact ⟨v, rfl, RowIn.of_own hown⟩
  | error c =>
    rw [h] at hr
    have hr' : r = .returned (.tuple #[.slice none 0 0, .int .i64 0, .int .i64 c]) := hr
    subst hr'
    exact ⟨_, rfl, row_nil _⟩
theorem rdOut_length (t : ByteArray) : (rdOut t.data.toList).1.length ≤ t.size := by
  unfold rdOut
  cases h : Go.Sign.rdS t.data.toList with
  | error c => simp
  | ok x =>
    obtain ⟨l, size⟩ := x
    simp only
    have h2 : ∃ z, Go.Sign.rdAll t.data.toList = .ok (l, z) := by
      unfold Go.Sign.rdS at h
      split at h
      · cases h
      · rename_i l' z he
        split at h
        · cases h; exact ⟨_, he⟩
        · cases h
    obtain ⟨z, he⟩ := h2
    exact rdAll_length t l z he
end Go.Proofs.YtgcpljgdeoeppabDoor
