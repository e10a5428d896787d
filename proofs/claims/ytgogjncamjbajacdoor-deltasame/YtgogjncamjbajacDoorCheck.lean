/-
  Contracts of sign.firstWrong whole, and of Check, over this dump.
-/
import Derived.Test.YtgogjncamjbajacDoorWrong
namespace Go.Proofs.YtgogjncamjbajacDoor
open Go.RowKit
open Go.Sign (Blk)

theorem wrong_ok (v : Value) (l : List Blk) (size : Int) (e : EV) (w : World) (hv : RowIn w v l) (hl : l.length ≤ 1000000) (he : Er2 e w) :
    Calls Tryd.prog 28 #[v, .int .i64 size] w fun r w' => r = .returned (.tuple #[.int .i64 (Go.Sign.fault l size).2, errV e (Go.Sign.fault l size).1]) ∧ Below w.heap.size w w' := by
  unfold Go.Sign.fault
  by_cases hs : 1 ≤ size ∧ size ≤ 64
  · rw [if_pos hs]
    refine (wrong_scan v l size e w hv hs hl he).mono ?_
    rintro r w' ⟨rfl, hb⟩
    refine ⟨?_, hb⟩
    cases Go.Sign.scanW size l 0 0 <;> rfl
  · rw [if_neg hs]
    exact wrong_size v l size e w hv hs he

/-- What Check answers. -/
def CheckRes (e : EV) (base : Nat) (f : Nat × Int) (w' : World) (r : Ending) : Prop :=
  if f.1 = 0 ∨ f.2 = -1 then r = .returned (errV e f.1) else
    ∃ p, r = .returned (.iface 53 (.pointer (some ⟨p, 0, none⟩))) ∧ base ≤ p ∧ w'.cell? ⟨p, 0, none⟩ = some (.int .i64 f.2) ∧ w'.cell? ⟨p, 1, none⟩ = some (errV e f.1)

theorem errV_form (e : EV) (c : Nat) (h : c ≠ 0) : ∃ t x, errV e c = .iface t x := by
  match c, h with
  | 1, _ => exact ⟨_, _, rfl⟩
  | 2, _ => exact ⟨_, _, rfl⟩
  | c + 3, _ => exact ⟨_, _, rfl⟩

section
variable (a : Option Addr) (n cap : Nat) (size at_ : Int) (t : TypeId) (x : Value) (w : World)

set_option maxHeartbeats 1000000 in
set_option maxRecDepth 100000 in
theorem check_nil (h : Calls Tryd.prog 28 #[.slice a n cap, .int .i64 size] w fun r w' => r = .returned (.tuple #[.int .i64 at_, .nilIface]) ∧ Below w.heap.size w w') :
    Calls Tryd.prog 20 #[.slice a n cap, .int .i64 size] w fun r w' => r = .returned .nilIface ∧ Below w.heap.size w w' := by
  have HW := hide h
  clear h
  go_enter Tryd.func20, Tryd.ntmps20
  go_wp2_with fail
  refine HW.out.mono ?_
  rintro e1 w1 ⟨rfl, hb1⟩
  have Hb1 := hide hb1
  clear hb1
  go_wp2
  go_ret
  exact ⟨rfl, Hb1.out⟩

set_option maxHeartbeats 1000000 in
set_option maxRecDepth 100000 in
theorem check_bare (h : Calls Tryd.prog 28 #[.slice a n cap, .int .i64 size] w fun r w' => r = .returned (.tuple #[.int .i64 (-1), .iface t x]) ∧ Below w.heap.size w w') :
    Calls Tryd.prog 20 #[.slice a n cap, .int .i64 size] w fun r w' => r = .returned (.iface t x) ∧ Below w.heap.size w w' := by
  have HW := hide h
  clear h
  go_enter Tryd.func20, Tryd.ntmps20
  go_wp2_with fail
  refine HW.out.mono ?_
  rintro e1 w1 ⟨rfl, hb1⟩
  have Hb1 := hide hb1
  clear hb1
  go_wp2
  go_ret
  exact ⟨rfl, Hb1.out⟩

set_option maxHeartbeats 1000000 in
set_option maxRecDepth 100000 in
theorem check_at (ha : at_ ≠ -1) (h : Calls Tryd.prog 28 #[.slice a n cap, .int .i64 size] w fun r w' => r = .returned (.tuple #[.int .i64 at_, .iface t x]) ∧ Below w.heap.size w w') :
    Calls Tryd.prog 20 #[.slice a n cap, .int .i64 size] w fun r w' => (∃ p, r = .returned (.iface 53 (.pointer (some ⟨p, 0, none⟩))) ∧ w.heap.size ≤ p ∧ w'.cell? ⟨p, 0, none⟩ = some (.int .i64 at_) ∧ w'.cell? ⟨p, 1, none⟩ = some (.iface t x)) ∧ Below w.heap.size w w' := by
  have HW := hide h
  have ha' : (at_ == -1) = false := by simpa using ha
  clear h ha
  go_enter Tryd.func20, Tryd.ntmps20
  go_wp2_with fail
  refine HW.out.mono ?_
  rintro e1 w1 ⟨rfl, hb1⟩
  have Hb1 := hide hb1
  clear hb1
  go_wp2
  go_ret
  exact ⟨⟨w1.heap.size, rfl, Hb1.out.size, by simp, by simp⟩, Hb1.out.alloc Hb1.out.size _⟩
end

theorem check_ok (v : Value) (l : List Blk) (size : Int) (e : EV) (w : World) (hv : RowIn w v l) (hl : l.length ≤ 1000000) (he : Er2 e w) :
    Calls Tryd.prog 20 #[v, .int .i64 size] w fun r w' => CheckRes e w.heap.size (Go.Sign.fault l size) w' r ∧ Below w.heap.size w w' := by
  have HW := wrong_ok v l size e w hv hl he
  generalize Go.Sign.fault l size = f at *
  obtain ⟨c, at_⟩ := f
  obtain ⟨a, cap, rfl, _⟩ := hv
  by_cases hc : c = 0
  · subst hc
    refine (check_nil _ _ _ _ _ _ HW).mono ?_
    rintro r w' ⟨rfl, hb⟩
    exact ⟨by rw [CheckRes, if_pos (Or.inl rfl)]; rfl, hb⟩
  · obtain ⟨t, x, ev⟩ := errV_form e c hc
    simp only [ev] at HW
    by_cases ha : at_ = -1
    · subst ha
      refine (check_bare _ _ _ _ _ _ _ HW).mono ?_
      rintro r w' ⟨rfl, hb⟩
      exact ⟨by rw [CheckRes, if_pos (Or.inr rfl), ev], hb⟩
    · refine (check_at _ _ _ _ _ _ _ _ ha HW).mono ?_
      rintro r w' ⟨hr, hb⟩
      refine ⟨?_, hb⟩
      rw [CheckRes, if_neg (by simp only [not_or]; exact ⟨hc, ha⟩), ev]
      exact hr
end Go.Proofs.YtgogjncamjbajacDoor
