/-
  WeakTells, walked: what package weak answers is the document's answer.
-/
import Derived.Test.YtbfgjehkjmmceaaRefWeak
import Derived.Test.YtbfgjehkjmmceaaWeakAll
import Derived.Deep.QuietTactic
import Derived.BigQuiet
import Derived.WideShapes
namespace Go.Proofs.Ytbfgjehkjmmceaa
open Go.RowKit

/-- A row of one element or more is no nil. -/
theorem own_form {w : World} {base : Nat} {e : TypeId} {size : Nat} {v : Value} {n : Nat} {xs : List Value} (h : w.ownsRow base e size v (n + 1) xs) : ∃ g c, v = .slice (some ⟨g, 0, none⟩) (n + 1) c := by
  rcases h.2 with ⟨_, h⟩ | ⟨g, c, _, h, _⟩
  · omega
  · exact ⟨g, c, h⟩

/-- The cells of the sums. -/
theorem sums_cell {w : World} {b g c k n m : Nat} {l : List UInt8} (h : w.ownsRow b 3 1 (.slice (some ⟨g, 0, none⟩) k c) k (sums l n m)) (j : Nat) (hj : j < m) : w.cell? ⟨g, j, none⟩ = some (.int .i64 (wk (Go.Weak.part l j n))) := by
  have hc := h.cells (g := g) rfl j (.int .i64 (wk (Go.Weak.part l j n))) (by simp [sums, hj])
  rw [Go.WideShapes.add_plain] at hc
  simpa using hc

set_option maxHeartbeats 2000000 in
set_option maxRecDepth 100000 in
/-- Behind the three comparisons: the sums of all parts. -/
theorem wtells_main (s : ByteArray) (a b n x y : Int) (w : World) (hs : s.size ≤ 300) (x0 : 0 ≤ x) (x1 : x < 256) (y0 : 0 ≤ y) (y1 : y < 256) : Calls Try.prog 3 #[.string s, .int .i64 a, .int .i64 b, .int .i64 n, .int .u8 x, .int .u8 y] w fun r w' => r = .returned (.bool true) ∧ Below w.heap.size w w' := by
  have hs' : (s.size : Int) ≤ 300 := by omega
  have HW := hide weighed_ok
  have HS := hide (fun W => sum_ok s W (by omega))
  have HO := hide (fun W => weakOf_ok s W (by omega))
  have HR := hide (fun W => Roll_ok a n x y W x0 x1 y0 y1)
  have HRo := hide (fun W => rollOf_ok a n x y W x0 x1 y0 y1)
  have HJ := hide (fun W => Join_ok a b n W)
  have HJo := hide (fun W => joinWeak_ok a b n W)
  generalize wk s.data.toList = vs at *
  generalize rollOut a n x y = vr at *
  generalize joinOut a b n = vj at *
  by_cases hN : 1 ≤ n ∧ n ≤ s.size
  · obtain ⟨N0, N1⟩ := hN
    obtain ⟨m, rfl⟩ : ∃ m : Nat, n = m := ⟨n.toNat, by omega⟩
    have HA := hide (fun W => all_ok s m W (by omega) (by omega) (by omega) (by omega))
    have hn1 : decide ((m : Int) < 1) = false := by simp; omega
    go_enter Try.func3, Try.ntmps3
    go_wp2_with fail
    refine (HW.out _).mono ?_
    rintro e w1 ⟨rfl, hb1⟩
    have Hb1 := hide hb1
    clear hb1
    go_wp2_with fail
    refine (HS.out _).mono ?_
    rintro e w2 ⟨rfl, hb2⟩
    have Hb2 := hide (bthen Hb1.out hb2)
    clear hb2 Hb1
    go_wp2_with fail
    refine (HO.out _).mono ?_
    rintro e wz ⟨rfl, rfl⟩
    go_wp2_with fail
    refine (HR.out _).mono ?_
    rintro e w3 ⟨rfl, hb3⟩
    have Hb3 := hide (bthen Hb2.out hb3)
    clear hb3 Hb2
    go_wp2_with fail
    refine (HRo.out _).mono ?_
    rintro e wz ⟨rfl, rfl⟩
    go_wp2_with fail
    refine (HJ.out _).mono ?_
    rintro e w4 ⟨rfl, hb4⟩
    have Hb4 := hide (bthen Hb3.out hb4)
    clear hb4 Hb3
    go_wp2_with fail
    refine (HJo.out _).mono ?_
    rintro e wz ⟨rfl, rfl⟩
    go_wp2_with fail
    refine (HA.out _).mono ?_
    rintro e w5 ⟨v, rfl, hown, hb5⟩
    have Hb5 := hide (bthen Hb4.out hb5)
    clear hb5 Hb4 HW HS HO HR HRo HJ HJo HA
    obtain ⟨g, c, rfl⟩ := own_form hown
    have Hown := hide hown
    have hK : s.size - m + 1 ≤ 300 := by omega
    have hK' : ((s.size - m + 1 : Nat) : Int) = (s.size : Int) - m + 1 := by omega
    clear hown
    generalize hKe : s.size - m + 1 = K at *
    have HKe := hide hKe
    clear hKe
    have hKi : (K : Int) ≤ 300 := by omega
    have hKm : (K : Int) + m = (s.size : Int) + 1 := by omega
    go_wp2_with fail
    go_loopw [15] (fun t wr => ∃ i : Nat, t = .int .i64 i ∧ i ≤ K ∧ Hid (Below w5.heap.size w5 wr)) (fun t _ => K - (intOf t).toNat)
    case atStart => exact ⟨0, rfl, by omega, Below.refl _ _⟩
    case round =>
      obtain ⟨i, rfl, hi, Hbr⟩ := hrel
      by_cases hlt : i < K
      · have hlt' : (i : Int) < K := by omega
        have him : i + m ≤ s.size := by omega
        have him' : (i : Int) + m ≤ s.size := by omega
        have hc := sums_cell Hown.out i (by have := HKe.out; omega)
        have hcr : wr.cell? ⟨g, i, none⟩ = some (.int .i64 (wk (Go.Weak.part s.data.toList i m))) := (Hbr.out.cell (p := ⟨g, i, none⟩) (World.block_lt_of_cell? _ _ hc)).trans hc
        have HO := hide (fun W => weakOf_ok (s.extract i (i + m)) W (by rw [ByteArray.size_extract]; omega))
        rw [extractL, show i + m - i = m by omega] at HO
        rw [Go.Weak.part] at hcr
        generalize wk ((s.data.toList.drop i).take m) = vi at *
        clear hc
        have hw1 : IntKind.i64.wrap ((i : Int) + (m : Int)) = (i : Int) + (m : Int) := iwrap_id _ (by omega) (by omega)
        go_wp2_with fail
        go_quiet (first | (go_at_call 7; exact Calls.quiet_of_same (HO.out _)))
        go_wp2_with fail
        go_roundw
        case rel => exact ⟨i + 1, by go_num, by omega, Hbr.out.trans ⟨rfl, rfl, rfl, Nat.le_refl _, fun _ _ => rfl⟩⟩
        case measure => simp [intOf]; omega
      · have hle : (K : Int) ≤ i := by omega
        go_wp2_with fail
        go_ret
        exact ⟨rfl, bthen Hb5.out Hbr.out⟩
  · have HA := hide (fun W => all_none s n W (by omega))
    rcases (show n < 1 ∨ (1 ≤ n ∧ (s.size : Int) < n) by omega) with hz | ⟨hz1, hz⟩
    · clear hN
      go_enter Try.func3, Try.ntmps3
      go_wp2_with fail
      refine (HW.out _).mono ?_
      rintro e w1 ⟨rfl, hb1⟩
      have Hb1 := hide hb1
      clear hb1
      go_wp2_with fail
      refine (HS.out _).mono ?_
      rintro e w2 ⟨rfl, hb2⟩
      have Hb2 := hide (bthen Hb1.out hb2)
      clear hb2 Hb1
      go_wp2_with fail
      refine (HO.out _).mono ?_
      rintro e wz ⟨rfl, rfl⟩
      go_wp2_with fail
      refine (HR.out _).mono ?_
      rintro e w3 ⟨rfl, hb3⟩
      have Hb3 := hide (bthen Hb2.out hb3)
      clear hb3 Hb2
      go_wp2_with fail
      refine (HRo.out _).mono ?_
      rintro e wz ⟨rfl, rfl⟩
      go_wp2_with fail
      refine (HJ.out _).mono ?_
      rintro e w4 ⟨rfl, hb4⟩
      have Hb4 := hide (bthen Hb3.out hb4)
      clear hb4 Hb3
      go_wp2_with fail
      refine (HJo.out _).mono ?_
      rintro e wz ⟨rfl, rfl⟩
      go_wp2_with fail
      refine (HA.out _).mono ?_
      rintro e w5 ⟨rfl, rfl⟩
      go_wp2_with fail
      go_ret
      exact ⟨rfl, Hb4.out⟩
    · have hz2 : decide (n < 1) = false := by simp; omega
      clear hN hz1
      go_enter Try.func3, Try.ntmps3
      go_wp2_with fail
      refine (HW.out _).mono ?_
      rintro e w1 ⟨rfl, hb1⟩
      have Hb1 := hide hb1
      clear hb1
      go_wp2_with fail
      refine (HS.out _).mono ?_
      rintro e w2 ⟨rfl, hb2⟩
      have Hb2 := hide (bthen Hb1.out hb2)
      clear hb2 Hb1
      go_wp2_with fail
      refine (HO.out _).mono ?_
      rintro e wz ⟨rfl, rfl⟩
      go_wp2_with fail
      refine (HR.out _).mono ?_
      rintro e w3 ⟨rfl, hb3⟩
      have Hb3 := hide (bthen Hb2.out hb3)
      clear hb3 Hb2
      go_wp2_with fail
      refine (HRo.out _).mono ?_
      rintro e wz ⟨rfl, rfl⟩
      go_wp2_with fail
      refine (HJ.out _).mono ?_
      rintro e w4 ⟨rfl, hb4⟩
      have Hb4 := hide (bthen Hb3.out hb4)
      clear hb4 Hb3
      go_wp2_with fail
      refine (HJo.out _).mono ?_
      rintro e wz ⟨rfl, rfl⟩
      go_wp2_with fail
      refine (HA.out _).mono ?_
      rintro e w5 ⟨rfl, rfl⟩
      go_wp2_with fail
      go_ret
      exact ⟨rfl, Hb4.out⟩

set_option maxHeartbeats 1000000 in
set_option maxRecDepth 100000 in
theorem wtells_any (s : ByteArray) (a b n x y : Int) (w : World) (x0 : 0 ≤ x) (x1 : x < 256) (y0 : 0 ≤ y) (y1 : y < 256) : Calls Try.prog 3 #[.string s, .int .i64 a, .int .i64 b, .int .i64 n, .int .u8 x, .int .u8 y] w fun r w' => r = .returned (.bool true) ∧ Below w.heap.size w w' := by
  by_cases h : s.size ≤ 300
  · exact wtells_main s a b n x y w h x0 x1 y0 y1
  have h' : (300 : Int) < s.size := by omega
  have HW := hide weighed_ok
  clear h
  go_enter Try.func3, Try.ntmps3
  go_wp2_with fail
  refine (HW.out _).mono ?_
  rintro e w1 ⟨rfl, hb1⟩
  have Hb1 := hide hb1
  clear hb1
  go_wp2_with fail
  go_ret
  exact ⟨rfl, Hb1.out⟩
end Go.Proofs.Ytbfgjehkjmmceaa
