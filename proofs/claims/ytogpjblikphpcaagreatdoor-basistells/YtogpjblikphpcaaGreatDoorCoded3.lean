/-
  Contract of the laws' coded at nil and at the twelve errors, over this dump.
-/
import Derived.Test.YtogpjblikphpcaaGreatDoorCode
namespace Go.Proofs.YtogpjblikphpcaaGreatDoor
open Go.RowKit

set_option maxHeartbeats 400000 in
theorem coded_nil (c : Int) (w : World) : Calls Tryz.prog 11 #[.nilIface, .int .i64 c] w fun r w' => r = .returned (.bool (c == 0)) ∧ w' = w := by
  by_cases hc : c = 0
  · subst hc
    go_enter Tryz.func11, Tryz.ntmps11
    go_wp2_with fail
    refine (code_nil _).mono ?_
    rintro e w1 ⟨rfl, rfl⟩
    go_wp2
    go_ret
    exact ⟨rfl, rfl⟩
  · have hb : ((0 : Int) == c) = false := by simp; omega
    have hb2 : Hid ((c == 0) = false) := by simp [Hid]; omega
    clear hc
    go_enter Tryz.func11, Tryz.ntmps11
    go_wp2_with fail
    refine (code_nil _).mono ?_
    rintro e w1 ⟨rfl, rfl⟩
    go_wp2
    go_ret
    exact ⟨by rw [hb2.out]; rfl, rfl⟩

set_option maxHeartbeats 400000 in
set_option maxRecDepth 100000 in
theorem coded_sent (k : Nat) (hk : k < 12) (a : Nat → Addr) (c : Int) (w : World) (h : Sents w a) :
    Calls Tryz.prog 11 #[.iface 231 (.pointer (some (a k))), .int .i64 c] w fun r w' => r = .returned (.bool (c == (k : Int) + 1)) ∧ Below w.heap.size w w' := by
  have H := hide h
  clear h
  by_cases hc : c = (k : Int) + 1
  · subst hc
    have hb : ((k : Int) + 1 == (k : Int) + 1) = true := by simp
    go_enter Tryz.func11, Tryz.ntmps11
    go_wp2_with fail
    refine (code_sent k hk a _ H.out).mono ?_
    rintro e w1 ⟨rfl, hb1⟩
    have Hb1 := hide hb1
    clear hb1
    go_wp2
    go_ret
    exact ⟨by rw [hb]; rfl, Hb1.out⟩
  · have hb : ((k : Int) + 1 == c) = false := by simp; omega
    have hb2 : Hid ((c == (k : Int) + 1) = false) := by simp [Hid]; omega
    clear hc
    go_enter Tryz.func11, Tryz.ntmps11
    go_wp2_with fail
    refine (code_sent k hk a _ H.out).mono ?_
    rintro e w1 ⟨rfl, hb1⟩
    have Hb1 := hide hb1
    clear hb1
    go_wp2
    go_ret
    exact ⟨by rw [hb2.out]; rfl, Hb1.out⟩
end Go.Proofs.YtogpjblikphpcaaGreatDoor
