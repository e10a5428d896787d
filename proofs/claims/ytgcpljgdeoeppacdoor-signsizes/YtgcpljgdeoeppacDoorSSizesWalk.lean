/-
  The walk of the law SignSizes over the contracts.
-/
import Derived.Test.YtgcpljgdeoeppacDoorSigned
namespace Go.Proofs.YtgcpljgdeoeppacDoor
open Go.RowKit

theorem size_cases (n : Int) : sizeOut n = 4 ∨ sizeOut n = 8 ∨ sizeOut n = 16 ∨ sizeOut n = 32 ∨ sizeOut n = 64 := by
  unfold sizeOut
  repeat' split
  all_goals omega
theorem size_mono {a b : Int} (h : a ≤ b) : sizeOut a ≤ sizeOut b := by
  unfold sizeOut
  repeat' split
  all_goals omega

set_option maxHeartbeats 1000000 in
set_option maxRecDepth 100000 in
theorem ssizes_walk (a b : Int) (s : ByteArray) (w : World) : Calls Tryd.prog 3 #[.int .i64 a, .int .i64 b, .string s] w fun r w' => r = .returned (.bool true) ∧ Below w.heap.size w w' := by
  have HS := hide (fun W => signed_ok W)
  by_cases hl : 400 < s.size
  · have hl' : decide ((400 : Int) < s.size) = true := by simp; omega
    go_enter Tryd.func3, Tryd.ntmps3
    go_wp2_with fail
    refine (HS.out _).mono ?_
    rintro r w1 ⟨rfl, hb1⟩
    have Hb1 := hide hb1
    clear hb1
    go_wp2
    go_ret
    exact ⟨rfl, Hb1.out⟩
  · have hl' : decide ((400 : Int) < s.size) = false := by simp; omega
    have hs : s.size ≤ 400 := by omega
    have hs' : (s.size : Int) ≤ 400 := by omega
    have HA := hide (fun W => size_ok a W)
    have HB := hide (fun W => size_ok b W)
    have HN := hide (fun W => size_ok s.size W)
    have hxy : a ≤ b → sizeOut a ≤ sizeOut b := size_mono
    have hx := size_cases a
    have hn := size_cases s.size
    generalize sizeOut a = x at *
    generalize sizeOut b = y at *
    generalize hz : sizeOut s.size = z at *
    clear hz
    obtain ⟨m, rfl⟩ : ∃ m : Nat, z = m := ⟨z.toNat, by omega⟩
    have m1 : 1 ≤ m := by omega
    have m2 : m ≤ 64 := by omega
    have m1' : (1 : Int) ≤ m := by omega
    have m2' : (m : Int) ≤ 64 := by omega
    have HO := hide (fun W => of_ok s m W (by omega) m1 m2)
    have hq : Int.tdiv ((s.size : Int) + (m : Int) - 1) (m : Int) = ((many s.size m : Nat) : Int) := by
      unfold many
      rw [show (s.size : Int) + (m : Int) - 1 = ((s.size + m - 1 : Nat) : Int) by omega, Int.tdiv_eq_ediv_of_nonneg (by omega)]
      rfl
    have hml : many s.size m ≤ 400 := Nat.le_trans (many_le m1) hs
    have hwm : wrap64 ((many s.size m : Nat) : Int) = ((many s.size m : Nat) : Int) := wrap_id _ (by omega) (by omega)
    have x1 : decide (x < 4) = false := by simp; omega
    have x2 : decide ((64 : Int) < x) = false := by simp; omega
    have x3 : Int.tmod 64 x = 0 := by rcases hx with rfl | rfl | rfl | rfl | rfl <;> rfl
    have x4 : x ≠ 0 := by omega
    by_cases hab : a ≤ b
    · have hab' : decide (a ≤ b) = true := by simpa using hab
      have hxy' : decide (y < x) = false := by have := hxy hab; simp; omega
      clear hxy hx hn hl
      go_enter Tryd.func3, Tryd.ntmps3
      go_wp2_with fail
      refine (HS.out _).mono ?_
      rintro r w1 ⟨rfl, hb1⟩
      have Hb1 := hide hb1
      clear hb1
      go_wp2_with fail
      refine (HA.out _).mono ?_
      rintro r w2 ⟨rfl, rfl⟩
      go_wp2_with fail
      refine (HB.out _).mono ?_
      rintro r w3 ⟨rfl, rfl⟩
      go_wp2_with fail
      refine (HN.out _).mono ?_
      rintro r w4 ⟨rfl, rfl⟩
      go_wp2_with fail
      refine (HO.out _).mono ?_
      rintro r w5 ⟨v, rfl, hown, hb5⟩
      have Hb5 := hide (bthen Hb1.out hb5)
      have hf : ∃ a c, v = .slice a (many s.size m) c := by
        rcases hown.2 with ⟨rfl, h⟩ | ⟨g, c, cur, rfl, _⟩
        · exact ⟨none, 0, by rw [h]⟩
        · exact ⟨_, _, rfl⟩
      obtain ⟨la, lc, rfl⟩ := hf
      clear hown hb5
      go_wp2
      go_ret
      exact ⟨rfl, Hb5.out⟩
    · have hab' : decide (a ≤ b) = false := by simp; omega
      clear hxy hx hn hl
      go_enter Tryd.func3, Tryd.ntmps3
      go_wp2_with fail
      refine (HS.out _).mono ?_
      rintro r w1 ⟨rfl, hb1⟩
      have Hb1 := hide hb1
      clear hb1
      go_wp2_with fail
      refine (HA.out _).mono ?_
      rintro r w2 ⟨rfl, rfl⟩
      go_wp2_with fail
      refine (HB.out _).mono ?_
      rintro r w3 ⟨rfl, rfl⟩
      go_wp2_with fail
      refine (HN.out _).mono ?_
      rintro r w4 ⟨rfl, rfl⟩
      go_wp2_with fail
      refine (HO.out _).mono ?_
      rintro r w5 ⟨v, rfl, hown, hb5⟩
      have Hb5 := hide (bthen Hb1.out hb5)
      have hf : ∃ a c, v = .slice a (many s.size m) c := by
        rcases hown.2 with ⟨rfl, h⟩ | ⟨g, c, cur, rfl, _⟩
        · exact ⟨none, 0, by rw [h]⟩
        · exact ⟨_, _, rfl⟩
      obtain ⟨la, lc, rfl⟩ := hf
      clear hown hb5
      go_wp2
      go_ret
      exact ⟨rfl, Hb5.out⟩
end Go.Proofs.YtgcpljgdeoeppacDoor
