/-
  WeakRolls, walked: what is rolled is what is summed anew; what is joined is what is summed at once.
-/
import Derived.Test.YtbfgjehkjmmceaaWeakSum
import Derived.Laws.BytesArg
import Derived.RegionTactic
import Derived.ChangeAlike
namespace Go.Proofs.Ytbfgjehkjmmceaa
open Go.RowKit

def str (l : List UInt8) : ByteArray := ⟨l.toArray⟩
theorem strL (l : List UInt8) : (str l).data.toList = l := by simp [str]
theorem str_len (l : List UInt8) : (str l).size = l.length := by rw [← lenL, strL]

theorem weighed_ok (w : World) : Calls Try.prog 5 #[] w fun r w' => r = .returned (.bool true) ∧ Below w.heap.size w w' := by
  have e : wk (ByteArray.mk #[97, 98, 99]).data.toList = 38404390 := by rw [wk_weak]; decide
  have H := hide (fun W => sum_ok ⟨#[97, 98, 99]⟩ W (by decide))
  rw [e] at H
  clear e
  go_enter Try.func5, Try.ntmps5
  go_wp2_with fail
  refine (H.out _).mono ?_
  rintro e w1 ⟨rfl, hb1⟩
  have Hb1 := hide hb1
  clear hb1
  go_wp2_with fail
  go_ret
  exact ⟨rfl, Hb1.out⟩

/-- What is rolled is what is summed anew. -/
theorem roll_wk (x y : UInt8) (r : List UInt8) (h : r.length + 1 ≤ 4000) : rollOut (wk (x :: r)) ((r.length + 1 : Nat) : Int) x.toNat y.toNat = wk (r ++ [y]) := by
  have hb := wk_bounds (x :: r)
  have ea : wk (x :: r) % 65536 = hA (x :: r) := by
    have := hA_nonneg (x :: r); have := hA_lt (x :: r); unfold wk; omega
  have eb : wk (x :: r) / 65536 = hB (x :: r) := by
    have := hA_nonneg (x :: r); have := hA_lt (x :: r); unfold wk; omega
  rw [rollOut, if_pos ⟨hb, by omega, by omega⟩, ea, eb]
  have ra := Go.Weak.roll_a x y r
  have rb := Go.Weak.roll_b x y r
  have e1 : rollA (hA (x :: r)) x.toNat y.toNat = hA (r ++ [y]) := by unfold rollA hA; omega
  have e2 : rollB (hA (x :: r)) (hB (x :: r)) ((r.length + 1 : Nat) : Int) x.toNat y.toNat = hB (r ++ [y]) := by
    unfold rollB
    have : ((hA (x :: r) - x.toNat) % 65536 + y.toNat) % 65536 = hA (r ++ [y]) := e1
    rw [this]
    unfold hA hB
    generalize ((r.length + 1 : Nat) : Int) * (x.toNat : Int) = m at *
    omega
  rw [e1, e2, wk]

/-- What is joined is what is summed at once. -/
theorem join_wk (l m : List UInt8) (h : m.length ≤ 4000) : joinOut (wk l) (wk m) (m.length : Int) = wk (l ++ m) := by
  have hl := wk_bounds l
  have hm := wk_bounds m
  have ea : wk l % 65536 = hA l := by
    have := hA_nonneg l; have := hA_lt l; unfold wk; omega
  have eb : wk l / 65536 = hB l := by
    have := hA_nonneg l; have := hA_lt l; unfold wk; omega
  have ec : wk m % 65536 = hA m := by
    have := hA_nonneg m; have := hA_lt m; unfold wk; omega
  have ed : wk m / 65536 = hB m := by
    have := hA_nonneg m; have := hA_lt m; unfold wk; omega
  rw [joinOut, if_pos ⟨hl, hm, by omega, by omega⟩, ea, eb, ec, ed]
  have e1 : (hA l + hA m) % 65536 = hA (l ++ m) := by unfold hA; rw [Go.Weak.wa_append]; omega
  have e2 : (hB l + m.length * hA l + hB m) % 65536 = hB (l ++ m) := by
    unfold hA hB
    rw [Go.Weak.wb_append]
    have k : ((m.length : Int) * ((Go.Weak.wa l % 65536 : Nat) : Int)) % 65536 = ((m.length * Go.Weak.wa l : Nat) : Int) % 65536 := by
      rw [← Int.natCast_mul]
      have : (m.length * (Go.Weak.wa l % 65536)) % 65536 = (m.length * Go.Weak.wa l) % 65536 := by rw [Nat.mul_mod, Nat.mod_mod, ← Nat.mul_mod]
      omega
    generalize (m.length : Int) * ((Go.Weak.wa l % 65536 : Nat) : Int) = x at *
    generalize m.length * Go.Weak.wa l = z at *
    omega
  rw [e1, e2, wk]

set_option maxHeartbeats 1000000 in
set_option maxRecDepth 100000 in
theorem rolls_main (s t : ByteArray) (x : Int) (w : World) (s0 : 1 ≤ s.size) (s1 : s.size ≤ 300) (t1 : t.size ≤ 300) (x0 : 0 ≤ x) (x1 : x < 256) : Calls Try.prog 4 #[.string s, .string t, .int .u8 x] w fun r w' => r = .returned (.bool true) ∧ Below w.heap.size w w' := by
  have s0' : (1 : Int) ≤ s.size := by omega
  have s1' : (s.size : Int) ≤ 300 := by omega
  have t1' : (t.size : Int) ≤ 300 := by omega
  have HW := hide weighed_ok
  go_enter Try.func4, Try.ntmps4
  go_wp2_with fail
  refine (HW.out _).mono ?_
  rintro e w1 ⟨rfl, hb1⟩
  have Hb1 := hide hb1
  clear hb1
  have hcv := run_convert_bytes_arg (P := Try.prog) (w1.alloc (.cells #[.int .u8 x] 5)).drew 29 5 Try.underlying29 Try.underlying5 w1.heap.size 0 1 1 [x] rfl (fun i hi => by
    have : i = 0 := by omega
    subst this; simp) 9 Try.underlying9
  have e : strOfNums [x] = str [UInt8.ofNat x.toNat] := rfl
  rw [e] at hcv
  clear e
  have hxx : (UInt8.ofNat x.toNat).toNat = x.toNat := by rw [UInt8.toNat_ofNat']; omega
  obtain ⟨y, hy⟩ : ∃ y, y = UInt8.ofNat x.toNat := ⟨_, rfl⟩
  rw [← hy] at hcv hxx
  have hx : x = (y.toNat : Int) := by omega
  clear hy hxx
  subst hx
  have hys : (str [y]).size = 1 := str_len _
  have HY := hide (strL [y])
  generalize str [y] = Y at *
  go_wp2_with fail
  go_region
  have hnl : (s.extract 1 s.size ++ Y).data.toList = s.data.toList.drop 1 ++ [y] := by
    rw [appendL, extractL, HY.out, List.take_of_length_le (by rw [List.length_drop, lenL]; omega)]
  have hsl : s.data.toList = s[0] :: s.data.toList.drop 1 := dropL s 0 (by omega)
  have hroll : rollOut (wk s.data.toList) (s.size : Int) (s[0].toNat : Int) (y.toNat : Int) = wk (s.extract 1 s.size ++ Y).data.toList := by
    have h := roll_wk s[0] y (s.data.toList.drop 1) (by rw [List.length_drop, lenL]; omega)
    rw [← hsl, ← hnl, show (s.data.toList.drop 1).length + 1 = s.size by rw [List.length_drop, lenL]; omega] at h
    exact h
  have hjoin : joinOut (wk s.data.toList) (wk t.data.toList) (t.size : Int) = wk (s ++ t).data.toList := by
    have h := join_wk s.data.toList t.data.toList (by rw [lenL]; omega)
    rw [← appendL, lenL] at h
    exact h
  have hnz : (s.extract 1 s.size ++ Y).size ≤ 1000000 := by
    rw [← lenL, hnl, List.length_append, List.length_drop, lenL]; simp; omega
  have hjz : (s ++ t).size ≤ 1000000 := by rw [ByteArray.size_append]; omega
  have HS := hide (fun W => sum_ok s W (by omega))
  have HT := hide (fun W => sum_ok t W (by omega))
  have HN := hide (fun W => sum_ok (s.extract 1 s.size ++ Y) W hnz)
  have HST := hide (fun W => sum_ok (s ++ t) W hjz)
  have HR := hide (fun W => Roll_ok (wk s.data.toList) s.size s[0].toNat y.toNat W (by omega) (by have := byte_lt s[0]; omega) x0 x1)
  have HJ := hide (fun W => Join_ok (wk s.data.toList) (wk t.data.toList) t.size W)
  rw [hroll] at HR
  rw [hjoin] at HJ
  clear hnl hsl hroll hjoin hnz hjz hcv HY
  have Hb2 : Hid (Below w.heap.size w (w1.alloc (Obj.cells #[Value.int IntKind.u8 ↑y.toNat] 5)).drew) := ((Hb1.out.alloc Hb1.out.size _)).drew
  generalize (w1.alloc (Obj.cells #[Value.int IntKind.u8 ↑y.toNat] 5)).drew = w2 at *
  generalize s.extract 1 s.size ++ Y = nx at *
  generalize wk nx.data.toList = vn at *
  generalize wk s.data.toList = vs at *
  generalize wk t.data.toList = vt at *
  generalize wk (s ++ t).data.toList = vst at *
  clear Hb1 HW
  have s00 : 0 < s.size := by omega
  go_wp2_with fail
  go_region_held3 (fun w' => Hid (Below w.heap.size w w')) (first | exact Hb2.out.drew | assumption)
    (first
      | (go_at_call_of 6 s; refine (HS.out _).mono ?_; rintro e w3 ⟨rfl, hb3⟩; have Hb3 := hide (bthen Hb2.out.drew hb3); clear hb3)
      | (go_at_call 8; refine (HR.out _).mono ?_; rintro e w4 ⟨rfl, hb4⟩; have Hb4 := hide (bthen Hb3.out hb4); clear hb4)
      | (go_at_call 6; refine (HN.out _).mono ?_; rintro e w5 ⟨rfl, hb5⟩; have Hb5 := hide (bthen Hb4.out hb5); clear hb5))
  all_goals
    go_wp2_with fail
    refine (HS.out _).mono ?_
    rintro e w6 ⟨rfl, hb6⟩
    have Hb6 := hide (bthen Hb5.out hb6)
    clear hb6
    go_wp2_with fail
    refine (HT.out _).mono ?_
    rintro e w7 ⟨rfl, hb7⟩
    have Hb7 := hide (bthen Hb6.out hb7)
    clear hb7
    go_wp2_with fail
    refine (HJ.out _).mono ?_
    rintro e w8 ⟨rfl, hb8⟩
    have Hb8 := hide (bthen Hb7.out hb8)
    clear hb8
    go_wp2_with fail
    refine (HST.out _).mono ?_
    rintro e w9 ⟨rfl, hb9⟩
    have Hb9 := hide (bthen Hb8.out hb9)
    clear hb9
    go_wp2_with fail
    go_ret
    exact ⟨rfl, Hb9.out⟩

set_option maxHeartbeats 1000000 in
set_option maxRecDepth 100000 in
theorem rolls_any (s t : ByteArray) (x : Int) (w : World) (x0 : 0 ≤ x) (x1 : x < 256) : Calls Try.prog 4 #[.string s, .string t, .int .u8 x] w fun r w' => r = .returned (.bool true) ∧ Below w.heap.size w w' := by
  by_cases h : 1 ≤ s.size ∧ s.size ≤ 300 ∧ t.size ≤ 300
  · exact rolls_main s t x w h.1 h.2.1 h.2.2 x0 x1
  have HW := hide weighed_ok
  rcases (show s.size < 1 ∨ (1 ≤ s.size ∧ 300 < s.size) ∨ ((1 ≤ s.size ∧ s.size ≤ 300) ∧ 300 < t.size) by omega) with h1 | ⟨h1, h2⟩ | ⟨⟨h1, h2⟩, h3⟩
  · have h1' : (s.size : Int) < 1 := by omega
    clear h h1
    go_enter Try.func4, Try.ntmps4
    go_wp2_with fail
    refine (HW.out _).mono ?_
    rintro e w1 ⟨rfl, hb1⟩
    have Hb1 := hide hb1
    clear hb1
    go_wp2_with fail
    go_ret
    exact ⟨rfl, Hb1.out⟩
  · have h1' : (1 : Int) ≤ s.size := by omega
    have h2' : (300 : Int) < s.size := by omega
    clear h h1 h2
    go_enter Try.func4, Try.ntmps4
    go_wp2_with fail
    refine (HW.out _).mono ?_
    rintro e w1 ⟨rfl, hb1⟩
    have Hb1 := hide hb1
    clear hb1
    go_wp2_with fail
    go_ret
    exact ⟨rfl, Hb1.out⟩
  · have h1' : (1 : Int) ≤ s.size := by omega
    have h2' : (s.size : Int) ≤ 300 := by omega
    have h3' : (300 : Int) < t.size := by omega
    clear h h1 h2 h3
    go_enter Try.func4, Try.ntmps4
    go_wp2_with fail
    refine (HW.out _).mono ?_
    rintro e w1 ⟨rfl, hb1⟩
    have Hb1 := hide hb1
    clear hb1
    go_wp2_with fail
    go_ret
    exact ⟨rfl, Hb1.out⟩
end Go.Proofs.Ytbfgjehkjmmceaa
