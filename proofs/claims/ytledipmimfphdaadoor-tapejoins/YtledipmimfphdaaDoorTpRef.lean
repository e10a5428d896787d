/-
  The document's tape at a block; contracts of its Record, SetCut, Append over this dump.
-/
import Derived.Test.YtledipmimfphdaaDoorTapeMath
import Derived.Test.YtledipmimfphdaaDoorSep
import Derived.Test.YtledipmimfphdaaDoorRgDec
import Derived.Deep.RegionHeld3
import Derived.Deep.DeepCutAuto
namespace Go.Proofs.YtledipmimfphdaaDoor
open Go.RowKit
open Go.Tape
open Go.Digits (digits)

/-- The document's tape at a block. -/
def RTp (p : Nat) (d : Tp) : Fam := CellsF p 42 [.string d.b, .bool d.off, .int .i64 d.cut]
theorem RTp.cells {M0 : Foot} {w0 w : World} {p : Nat} {d : Tp} {L : List Fam} (h : Sep M0 w0 (RTp p d :: L) w) :
    (w.cell? ⟨p, 0, none⟩ = some (.string d.b) ∧ w.cell? ⟨p, 1, none⟩ = some (.bool d.off) ∧ w.cell? ⟨p, 2, none⟩ = some (.int .i64 d.cut)) ∧ w.frozen? ⟨p, 0, none⟩ = false ∧ w.frozen? ⟨p, 1, none⟩ = false ∧ w.frozen? ⟨p, 2, none⟩ = false := by
  have h' : Sep M0 w0 (CellsF p _ _ :: L) w := h
  exact ⟨⟨(h'.cell 0).1, (h'.cell 1).1, (h'.cell 2).1⟩, (h'.cell 0).2, (h'.cell 1).2, (h'.cell 2).2⟩
theorem RTp.set0 {M0 : Foot} {w0 w : World} {p : Nat} {d : Tp} {L : List Fam} (h : Sep M0 w0 (RTp p d :: L) w) (b : ByteArray) : Sep M0 w0 (RTp p ⟨b, d.off, d.cut⟩ :: L) (w.setCell ⟨p, 0, none⟩ (.string b)) := by
  have h' : Sep M0 w0 (CellsF p _ _ :: L) w := h
  have h2 := h'.set 0 (.string b)
  simp only [List.set_cons_zero] at h2
  exact h2
theorem RTp.set1 {M0 : Foot} {w0 w : World} {p : Nat} {d : Tp} {L : List Fam} (h : Sep M0 w0 (RTp p d :: L) w) (b : Bool) : Sep M0 w0 (RTp p ⟨d.b, b, d.cut⟩ :: L) (w.setCell ⟨p, 1, none⟩ (.bool b)) := by
  have h' : Sep M0 w0 (CellsF p _ _ :: L) w := h
  have h2 := h'.set 1 (.bool b)
  simp only [List.set_cons_zero, List.set_cons_succ] at h2
  exact h2
theorem RTp.set2 {M0 : Foot} {w0 w : World} {p : Nat} {d : Tp} {L : List Fam} (h : Sep M0 w0 (RTp p d :: L) w) (n : Int) : Sep M0 w0 (RTp p ⟨d.b, d.off, n⟩ :: L) (w.setCell ⟨p, 2, none⟩ (.int .i64 n)) := by
  have h' : Sep M0 w0 (CellsF p _ _ :: L) w := h
  have h2 := h'.set 2 (.int .i64 n)
  simp only [List.set_cons_zero, List.set_cons_succ] at h2
  exact h2

set_option maxHeartbeats 1000000 in
set_option maxRecDepth 100000 in
theorem record_ok (s : ByteArray) (W : World) (hs : s.size ≤ 1000000) : Calls Tryd.prog 25 #[.string s] W fun r w' => r = .returned (.string (rec1 s)) ∧ Below W.heap.size W w' := by
  have HD := hide (fun W => decimal_ok s.size W (by omega) (by omega))
  rw [Int.toNat_natCast] at HD
  have hds : (str (digits s.size)).size ≤ 11 := by rw [str_len]; exact Go.Digits.digits_length _ 10 (by omega)
  have HR : Hid (str (digits s.size) ++ ⟨#[58]⟩ ++ s ++ ⟨#[10, 46]⟩ = rec1 s) := by
    refine ext_of_list ?_
    rw [appendL, appendL, appendL, rec1, strL, strL, recB, lenL]
    simp
  generalize rec1 s = R at *
  generalize str (digits s.size) = D at *
  have p1 := fun W => run_string_add_sum (P := Tryd.prog) W D ⟨#[58]⟩ (by rw [show (ByteArray.mk #[58]).size = 1 from rfl]; omega)
  have p2 := fun W => run_string_add_sum (P := Tryd.prog) W (D ++ ⟨#[58]⟩) s (by rw [ByteArray.size_append, show (ByteArray.mk #[58]).size = 1 from rfl]; omega)
  have p3 := fun W => run_string_add_sum (P := Tryd.prog) W (D ++ ⟨#[58]⟩ ++ s) ⟨#[10, 46]⟩ (by rw [ByteArray.size_append, ByteArray.size_append, show (ByteArray.mk #[58]).size = 1 from rfl, show (ByteArray.mk #[10, 46]).size = 2 from rfl]; omega)
  clear hds
  go_enter Tryd.func25, Tryd.ntmps25
  go_wp2_with fail
  refine (HD.out _).mono ?_
  rintro r w1 ⟨rfl, hb1⟩
  have HB := hide hb1
  clear hb1 HD
  go_wp2_with fail
  go_ret
  exact ⟨by rw [← HR.out]; rfl, HB.out⟩

set_option maxHeartbeats 1000000 in
set_option maxRecDepth 100000 in
theorem rsetCut_ok (p : Nat) (d : Tp) (n : Int) (W : World) : Tri Tryd.prog 17 #[.pointer (some ⟨p, 0, none⟩), .int .i64 n] [RTp p d] (fun r L => r = .returned (.int .i64 (d.cutE n : Nat)) ∧ L = [RTp p (d.set n)]) W := by
  intro M hM
  have HS := hide (Sep.of_star hM)
  obtain ⟨⟨c0, c1, c2⟩, f0, f1, f2⟩ := RTp.cells HS.out
  have HN := hide (RTp.set2 HS.out n)
  have hE : d.cutE n = if n < 0 then 2 else if d.off = true then 12 else 0 := rfl
  have hT : d.set n = if n < 0 ∨ d.off = true then d else ⟨d.b, d.off, n⟩ := rfl
  rw [hE, hT]
  clear hM hE hT
  by_cases h1 : n < 0
  · rw [if_pos h1, if_pos (.inl h1)]
    go_enter Tryd.func17, Tryd.ntmps17
    go_wp2_with fail
    go_ret
    exact ⟨_, ⟨rfl, rfl⟩, HS.out⟩
  · have h1' : 0 ≤ n := by omega
    cases h2 : d.off with
    | true =>
      rw [h2] at c1
      rw [if_neg h1, if_pos rfl, if_pos (.inr rfl)]
      go_enter Tryd.func17, Tryd.ntmps17
      go_wp2_with fail
      go_ret
      exact ⟨_, ⟨rfl, rfl⟩, HS.out⟩
    | false =>
      rw [h2] at c1 HN
      rw [if_neg h1, if_neg (by simp), if_neg (by simp [h1])]
      go_enter Tryd.func17, Tryd.ntmps17
      go_wp2_with fail
      go_ret
      exact ⟨_, ⟨rfl, rfl⟩, HN.out⟩

set_option maxHeartbeats 1000000 in
set_option maxRecDepth 100000 in
theorem rapp_ok (p : Nat) (d : Tp) (s : ByteArray) (W : World) (hd : d.b.size ≤ 2000000) (hs : s.size ≤ 1000000) (hc : d.cut ≤ 9223372036854775807) :
    Tri Tryd.prog 16 #[.pointer (some ⟨p, 0, none⟩), .string s] [RTp p d] (fun r L => r = .returned (.int .i64 (d.appE s : Nat)) ∧ L = [RTp p (d.app s)]) W := by
  intro M hM
  have HS := hide (Sep.of_star hM)
  have HRe := hide (fun W => record_ok s W hs)
  have hE : d.appE s = if 20000 < s.size then 2 else if 1048576 < d.b.size + (rec1 s).size then 8 else if d.off = true then 12 else if 0 ≤ d.cut ∧ d.cut < (rec1 s).size then 12 else 0 := rfl
  have hT : d.app s = if 20000 < s.size ∨ 1048576 < d.b.size + (rec1 s).size ∨ d.off = true then d else if 0 ≤ d.cut ∧ d.cut < (rec1 s).size then ⟨d.b ++ (rec1 s).extract 0 d.cut.toNat, true, d.cut⟩ else ⟨d.b ++ rec1 s, false, if 0 ≤ d.cut then d.cut - (rec1 s).size else d.cut⟩ := rfl
  have hrl : (rec1 s).size ≤ s.size + 20 := by
    rw [rec1_len, recB_length, lenL]
    have := Go.Digits.digits_length s.size 10 (by omega)
    omega
  rw [hE, hT]
  clear hM hE hT
  generalize rec1 s = R at *
  obtain ⟨b, off, cut⟩ := d
  simp only at hd hc ⊢
  have HC := hide (fun w' (k : Below W.heap.size W w') => RTp.cells (HS.out.keep k))
  by_cases h1 : 20000 < s.size
  · have h1' : (20000 : Int) < s.size := by omega
    rw [if_pos h1, if_pos (.inl h1)]
    go_enter Tryd.func16, Tryd.ntmps16
    go_wp2_with fail
    go_ret
    exact ⟨_, ⟨rfl, rfl⟩, HS.out⟩
  have h1' : (s.size : Int) ≤ 20000 := by omega
  have hwA : IntKind.i64.wrap ((b.size : Int) + R.size) = (b.size : Int) + R.size := iwrap_id _ (by omega) (by omega)
  by_cases h2 : 1048576 < b.size + R.size
  · have h2' : (1048576 : Int) < (b.size : Int) + R.size := by omega
    rw [if_neg h1, if_pos h2, if_pos (.inr (.inl h2))]
    go_enter Tryd.func16, Tryd.ntmps16
    go_wp2_with fail
    refine (HRe.out _).mono ?_
    rintro r w1 ⟨rfl, hb1⟩
    obtain ⟨⟨c0, c1, c2⟩, f0, f1, f2⟩ := HC.out _ hb1
    have HK := hide (HS.out.keep hb1)
    clear HRe HC HS hb1
    go_wp2_with fail
    go_ret
    exact ⟨_, ⟨rfl, rfl⟩, HK.out⟩
  have h2' : (b.size : Int) + R.size ≤ 1048576 := by omega
  cases off with
  | true =>
    rw [if_neg h1, if_neg h2, if_pos rfl, if_pos (.inr (.inr rfl))]
    go_enter Tryd.func16, Tryd.ntmps16
    go_wp2_with fail
    refine (HRe.out _).mono ?_
    rintro r w1 ⟨rfl, hb1⟩
    obtain ⟨⟨c0, c1, c2⟩, f0, f1, f2⟩ := HC.out _ hb1
    have HK := hide (HS.out.keep hb1)
    clear HRe HC HS hb1
    go_wp2_with fail
    go_ret
    exact ⟨_, ⟨rfl, rfl⟩, HK.out⟩
  | false =>
    have hn : ¬ (20000 < s.size ∨ 1048576 < b.size + R.size ∨ false = true) := fun h => h.elim h1 (fun h => h.elim h2 (fun h => by cases h))
    rw [if_neg h1, if_neg h2, if_neg (by simp), if_neg hn]
    by_cases h4 : 0 ≤ cut ∧ cut < R.size
    · obtain ⟨k, rfl⟩ := Int.eq_ofNat_of_zero_le h4.1
      rw [if_pos h4, if_pos h4, Int.toNat_natCast]
      obtain ⟨h5, h6⟩ := h4
      have p1 := fun W => run_string_add_sum (P := Tryd.prog) W b (R.extract 0 k) (by
        have : (R.extract 0 k).size ≤ R.size := by rw [← lenL, ← lenL R, extractL, List.length_take, List.length_drop]; omega
        omega)
      go_enter Tryd.func16, Tryd.ntmps16
      go_wp2_with fail
      refine (HRe.out _).mono ?_
      rintro r w1 ⟨rfl, hb1⟩
      obtain ⟨⟨c0, c1, c2⟩, f0, f1, f2⟩ := HC.out _ hb1
      have HK := hide (HS.out.keep hb1)
      clear HRe HC HS hb1
      go_wp2_with fail
      go_region
      all_goals
        have hs5 := (RTp.set0 HK.out (b ++ R.extract 0 k)).drew
        obtain ⟨⟨e0, e1, e2⟩, g0, g1, g2⟩ := RTp.cells hs5
        have HF := hide (RTp.set1 hs5 true)
        clear hs5 HK c0 c1 c2 f0 f1 f2
        go_wp2_with fail
        go_ret
        exact ⟨_, ⟨rfl, rfl⟩, HF.out⟩
    · rw [if_neg h4, if_neg h4]
      have p1 := fun W => run_string_add_sum (P := Tryd.prog) W b R (by omega)
      by_cases h5 : 0 ≤ cut
      · rw [if_pos h5]
        have h6 : (R.size : Int) ≤ cut := by omega
        have hw2 : IntKind.i64.wrap (cut - R.size) = cut - R.size := iwrap_id _ (by omega) (by omega)
        go_enter Tryd.func16, Tryd.ntmps16
        go_wp2_with fail
        refine (HRe.out _).mono ?_
        rintro r w1 ⟨rfl, hb1⟩
        obtain ⟨⟨c0, c1, c2⟩, f0, f1, f2⟩ := HC.out _ hb1
        have HK := hide (HS.out.keep hb1)
        have hs5 := RTp.set2 HK.out (cut - R.size)
        obtain ⟨⟨e0, e1, e2⟩, g0, g1, g2⟩ := RTp.cells hs5
        have HF := hide (RTp.set0 hs5 (b ++ R))
        clear HRe HC HS hb1 hs5
        go_wp2_with fail
        go_ret
        exact ⟨_, ⟨rfl, rfl⟩, HF.out⟩
      · rw [if_neg h5]
        have h6 : cut < 0 := by omega
        go_enter Tryd.func16, Tryd.ntmps16
        go_wp2_with fail
        refine (HRe.out _).mono ?_
        rintro r w1 ⟨rfl, hb1⟩
        obtain ⟨⟨c0, c1, c2⟩, f0, f1, f2⟩ := HC.out _ hb1
        have HK := hide (HS.out.keep hb1)
        have HF := hide (RTp.set0 HK.out (b ++ R))
        clear HRe HC HS hb1
        go_wp2_with fail
        go_ret
        exact ⟨_, ⟨rfl, rfl⟩, HF.out⟩
end Go.Proofs.YtledipmimfphdaaDoor
