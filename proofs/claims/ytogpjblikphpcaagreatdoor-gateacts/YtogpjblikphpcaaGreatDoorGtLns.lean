/-
  Contracts of strings.Lines and of its iterator.
-/
import Derived.Test.YtogpjblikphpcaaGreatDoorGtRL
import Derived.Test.YtogpjblikphpcaaGreatDoorSepRange
import Derived.RangeFuncBound
import Derived.Shelf.Abstract
import Derived.Shelf.AbstractIn
import Derived.Shelf.RegionOpen
import Derived.WalkKit
import Derived.OwnWalkIn
import Derived.TacticsInMore
import Derived.LoopNIn
import Derived.LoopIn
import Derived.Deep.RegionHeld3
namespace Go.Proofs.YtogpjblikphpcaaGreatDoor
open Go.RowKit Go.Shelf
open Go.Gate
attribute [local go_sem] Oper.semAt_some

/-- The first line of a text; what stands behind it. -/
def lnOf (s : List UInt8) : List UInt8 := match brk 10 s with | some p => p.1 ++ [10] | none => s
def rsOf (s : List UInt8) : List UInt8 := match brk 10 s with | some p => p.2 | none => []
theorem rsOf_lt {s : List UInt8} (h : s ≠ []) : (rsOf s).length < s.length := by
  unfold rsOf
  cases hb : brk 10 s with
  | none => simpa using List.length_pos_iff.2 h
  | some p =>
    obtain ⟨x, y⟩ := p
    rw [(brk_some hb).1]
    simp only [List.length_append, List.length_cons]
    omega
theorem lnOf_some {s x y : List UInt8} (h : brk 10 s = some (x, y)) : lnOf s = x ++ [10] ∧ rsOf s = y := by unfold lnOf rsOf; rw [h]; exact ⟨rfl, rfl⟩
theorem lnOf_none {s : List UInt8} (h : brk 10 s = none) : lnOf s = s ∧ rsOf s = [] := by unfold lnOf rsOf; rw [h]; exact ⟨rfl, rfl⟩

set_option maxHeartbeats 1000000 in
set_option maxRecDepth 100000 in
theorem lines_ok (s : ByteArray) (W : World) : Calls Tryz.prog 34 #[.string s] W fun r w' => r = .returned (.func (.func 60) #[] #[.pointer (some ⟨W.heap.size, 0, none⟩)]) ∧ w' = W.alloc (.cells #[.string s] 9) := by
  go_enter Tryz.func34, Tryz.ntmps34
  go_wp2_with fail
  go_ret
  exact ⟨rfl, rfl⟩

/-- What a round of the body owes at a text's first line. -/
def RoundsL (M0 : Foot) (w0 : World) (l q : Nat) (R : List UInt8 → List Fam → Prop) (X : List Fam → Prop) : Prop :=
  ∀ s, s ≠ [] → s.length ≤ 100000 → ∀ n L W, R s L → Sep M0 w0 (CellsF q 9 [.string (str (rsOf s))] :: L) W → YieldAt Fence.wide n Tryz.prog l #[.string (str (lnOf s))] W fun e W' =>
    (e = .returned (.bool true) ∧ ∃ L', R (rsOf s) L' ∧ Sep M0 w0 (CellsF q 9 [.string (str (rsOf s))] :: L') W') ∨ (e = .returned (.bool false) ∧ ∃ L', X L' ∧ Sep M0 w0 (CellsF q 9 [.string (str (rsOf s))] :: L') W')
def sizeAt (q : Nat) (w : World) : Nat := match w.cell? ⟨q, 0, none⟩ with | some (.string x) => x.size | _ => 0

set_option maxHeartbeats 2000000 in
set_option maxRecDepth 100000 in
theorem lines1_ok {M0 : Foot} {w0 W : World} (l q : Nat) (s0 : List UInt8) (hs0 : s0.length ≤ 100000) (R : List UInt8 → List Fam → Prop) (X : List Fam → Prop) (L : List Fam)
    (hY : RoundsL M0 w0 l q R X) (h0 : R s0 L) (hS : Sep M0 w0 (CellsF q 9 [.string (str s0)] :: L) W) :
    Calls Tryz.prog 60 #[.func (.yield l) #[] #[], .pointer (some ⟨q, 0, none⟩)] W fun e W' => (∃ v, e = .returned v) ∧ ∃ L' y, (R [] L' ∨ X L') ∧ Sep M0 w0 (CellsF q 9 [.string y] :: L') W' := by
  have HY := hide hY
  have HR := hide h0
  have HS := hide hS
  have Hs0 := hide hs0
  have HI := hide (fun (s : ByteArray) W' => Tryz.strings_IndexByte s 10 W')
  clear hY h0 hS hs0
  refine (callsIn_wide (n := 6)).1 ?_
  refine callsIn_of_wp Tryz.func60 rfl trivial ?_ rfl
  simp only [Tryz.ntmps60, List.size_toArray, List.length_cons, List.length_nil, Nat.reduceAdd, Nat.reduceSub, Array.replicate_succ, Array.replicate_zero, List.push_toArray, List.append_toArray, List.nil_append, List.cons_append]
  gi_wp2
  gi_loopw [3] (fun t wr => ∃ (s : List UInt8) (L' : List Fam), Hid (s.length ≤ 100000) ∧ Hid (R s L') ∧ Hid (Sep M0 w0 (CellsF q 9 [.string (str s)] :: L') wr)) (fun t wr => sizeAt q wr)
  case atStart => exact ⟨s0, L, Hs0.out, HR.out, HS.out⟩
  case round =>
    clear HS HR Hs0
    obtain ⟨s, L', Hs, Hr, HS⟩ := hrel
    have c0 := HS.out.cell 0
    have f0 := c0.2
    replace c0 := c0.1
    simp only [List.getElem?_cons_zero] at c0
    have hsz : (str s).size = s.length := str_len s
    have hsl := Hs.out
    by_cases he : s = []
    · subst he
      have hz : (str []).size = 0 := rfl
      gi_wp2
      go_end0
      exact ⟨⟨_, rfl⟩, L', _, .inl Hr.out, HS.out⟩
    · have hlt := rsOf_lt he
      have Hlt := hide hlt
      have Hm : Hid (sizeAt q wr = s.length) := by unfold Hid sizeAt; rw [c0]; exact str_len _
      have hpos : (0 : Int) < (str s).size := by rw [hsz]; have := List.length_pos_iff.2 he; omega
      cases hb : brk 10 s with
      | none =>
        obtain ⟨e1, e2⟩ := lnOf_none hb
        have hI := fun W' => HI.out (str s) W'
        rw [strL, show ((10 : Int).toNat.toUInt8) = (10 : UInt8) from rfl, (brk_none hb).2] at hI
        have HI2 := hide hI
        have hs2 := HS.out.set 0 (.string ⟨#[]⟩)
        simp only [List.set_cons_zero] at hs2
        have hs3 : Sep M0 w0 (CellsF q 9 [.string (str (rsOf s))] :: L') (wr.setCell ⟨q, 0, none⟩ (.string ⟨#[]⟩)) := by rw [e2]; exact hs2
        obtain ⟨fn, tmps, assign, body, hy, hR⟩ := HY.out s he Hs.out 5 L' _ Hr.out hs3
        rw [e1] at hy
        clear hs2 hs3 hI e1 e2 hb he hlt hsz hsl
        gi_wp2_with (first
          | (refine ⟨trivial, ?_⟩; gi_at_call 61; refine (callsIn_wide.2 (HI2.out _)).mono ?_; rintro e w' ⟨rfl, rfl⟩))
        refine hR.mono ?_
        rintro e W3 (⟨rfl, L2, hr2, hs2⟩ | ⟨rfl, L2, hx2, hs2⟩)
        · have Hr2 := hide hr2
          have Hs2 := hide hs2
          have c2 := (hs2.cell 0).1
          simp only [List.getElem?_cons_zero] at c2
          clear hr2 hs2 hy HS Hr
          gi_wp2
          go_roundw
          case rel => exact ⟨rsOf s, L2, by have h1 := Hlt.out; have h2 := Hs.out; exact (by omega : (rsOf s).length ≤ 100000), Hr2.out, by first | exact Hs2.out | (rw [hU]; exact Hs2.out)⟩
          case measure =>
            have := Hlt.out
            have h1 : sizeAt q W3 = (rsOf s).length := by unfold sizeAt; rw [c2]; first | exact str_len _ | (rw [← hU]; exact str_len _)
            rw [Hm.out, h1]
            exact this
        · have Hx2 := hide hx2
          have Hs2 := hide hs2
          clear hx2 hs2 hy HS Hr
          gi_wp2
          refine bodyPost_ret (results_none rfl _ _ _) rfl ?_
          exact ⟨⟨_, rfl⟩, L2, _, .inr Hx2.out, Hs2.out⟩
      | some p =>
        obtain ⟨x, y⟩ := p
        obtain ⟨e1, e2⟩ := lnOf_some hb
        obtain ⟨h1, _, h3⟩ := brk_some hb
        have hI := fun W' => HI.out (str s) W'
        rw [strL, show ((10 : Int).toNat.toUInt8) = (10 : UInt8) from rfl, h3] at hI
        have HI2 := hide hI
        have hx : (str s).extract 0 (x.length + 1) = str (lnOf s) := by
          refine ext_of_list ?_
          rw [extractL, strL, strL, e1, h1]
          simp only [List.drop_zero, Nat.sub_zero]
          rw [List.take_append, List.take_of_length_le (by omega), show x.length + 1 - x.length = 1 by omega]
          rfl
        have hy2 : (str s).extract (x.length + 1) (str s).size = str (rsOf s) := by
          refine ext_of_list ?_
          rw [extractL, strL, strL, e2, str_len, h1]
          simp only [List.length_append, List.length_cons]
          rw [List.drop_append, List.drop_of_length_le (by omega), List.nil_append, show x.length + 1 - x.length = 1 by omega, List.drop_succ_cons, List.drop_zero, List.take_of_length_le (by omega)]
        have hl : x.length + 1 ≤ (str s).size := by rw [str_len, h1]; simp
        have hsS0 := HS.out.set 0 (.string (str (rsOf s)))
        simp only [List.set_cons_zero] at hsS0
        have hsS := hsS0.drew
        clear hsS0
        obtain ⟨fn, tmps, assign, body, hy, hR⟩ := HY.out s he Hs.out 5 L' _ Hr.out hsS
        generalize hT : str (lnOf s) = T at *
        generalize hU : str (rsOf s) = U at *
        generalize x.length = k at *
        have hl' : (k : Int) + 1 ≤ (str s).size := by omega
        have hk0 : (0 : Int) ≤ k := by omega
        have hk1 : (0 : Int) ≤ (k : Int) + 1 := by omega
        have hw : IntKind.i64.wrap ((k : Int) + 1) = (k : Int) + 1 := iwrap_id _ (by omega) (by omega)
        have c0d : wr.drew.cell? ⟨q, 0, none⟩ = some (.string (str s)) := c0
        have f0d : wr.drew.frozen? ⟨q, 0, none⟩ = false := f0
        clear hsS hI e1 e2 hb he hlt hsz hsl h1 h3
        gi_wp2_with (first
          | (refine ⟨trivial, ?_⟩; gi_at_call 61; refine (callsIn_wide.2 (HI2.out _)).mono ?_; rintro e w' ⟨rfl, rfl⟩))
        refine wpIn_wide.2 ?_
        go_region
        all_goals
          gi_wp2
          refine hR.mono ?_
          rintro e W3 (⟨rfl, L2, hr2, hs2⟩ | ⟨rfl, L2, hx2, hs2⟩)
          · have Hr2 := hide hr2
            have Hs2 := hide hs2
            have c2 := (hs2.cell 0).1
            simp only [List.getElem?_cons_zero] at c2
            clear hr2 hs2 hy HS Hr
            gi_wp2
            go_roundw
            case rel => exact ⟨rsOf s, L2, by have h1 := Hlt.out; have h2 := Hs.out; exact (by omega : (rsOf s).length ≤ 100000), Hr2.out, by first | exact Hs2.out | (rw [hU]; exact Hs2.out)⟩
            case measure =>
              have := Hlt.out
              have h1 : sizeAt q W3 = (rsOf s).length := by unfold sizeAt; rw [c2]; first | exact str_len _ | (rw [← hU]; exact str_len _)
              rw [Hm.out, h1]
              exact this
          · have Hx2 := hide hx2
            have Hs2 := hide hs2
            clear hx2 hs2 hy HS Hr
            gi_wp2
            refine bodyPost_ret (results_none rfl _ _ _) rfl ?_
            exact ⟨⟨_, rfl⟩, L2, _, .inr Hx2.out, Hs2.out⟩
end Go.Proofs.YtogpjblikphpcaaGreatDoor
