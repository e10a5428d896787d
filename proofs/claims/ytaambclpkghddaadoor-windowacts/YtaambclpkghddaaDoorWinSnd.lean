/-
  Contracts of package window's NewSender, Push, Kept, Data.
-/
import Derived.Test.YtaambclpkghddaaDoorWinOrd
import Derived.Deep.QuietTactic
import Derived.BigQuiet
import Derived.WalkSmall
namespace Go.Proofs.YtaambclpkghddaaDoor
open Go.RowKit
open Go.Window (Sn dist snNew startN)

/-- The two errors that package window meets. -/
structure WnVs where
  tB : TypeId
  xB : Value
  tF : TypeId
  xF : Value
def errN (e : WnVs) : Nat → Value
  | 0 => .nilIface
  | 2 => .iface e.tB e.xB
  | _ => .iface e.tF e.xF
structure WnEr (e : WnVs) (w : World) : Prop where
  bound : w.cell? ⟨0, 0, none⟩ = some (.iface e.tB e.xB)
  full : w.cell? ⟨1, 0, none⟩ = some (.iface e.tF e.xF)
theorem WnEr.below {e : WnVs} {w w' : World} (h : WnEr e w) (hb : Below w.heap.size w w') : WnEr e w' :=
  ⟨(hb.cell (World.block_lt_of_cell? _ _ h.bound)).trans h.bound, (hb.cell (World.block_lt_of_cell? _ _ h.full)).trans h.full⟩

theorem WSn.open {M0 : Foot} {w0 w : World} {v : Value} {s : Sn} {L : List Fam} (h : Sep M0 w0 (WSn v s :: L) w) : ∃ p b, v = .pointer (some ⟨p, 0, none⟩) ∧ Sep M0 w0 (CellsF p 67 [.int .i64 (old s : Int), .int .i64 (s.next : Int), .map (some b)] :: MapL Tryd.prog 3 b (keptA s.kept) :: L) w := by
  obtain ⟨⟨⟨p, b⟩, hv⟩, hS⟩ := h.unpack
  exact ⟨p, b, hv, hS⟩
theorem WSn.shut {M0 : Foot} {w0 w : World} {s : Sn} {p b : Nat} {L : List Fam} (h : Sep M0 w0 (CellsF p 67 [.int .i64 (old s : Int), .int .i64 (s.next : Int), .map (some b)] :: MapL Tryd.prog 3 b (keptA s.kept) :: L) w) : Sep M0 w0 (WSn (.pointer (some ⟨p, 0, none⟩)) s :: L) w :=
  Sep.pack (f := fun i : {i : Nat × Nat // Value.pointer (some ⟨p, 0, none⟩) = .pointer (some ⟨i.1, 0, none⟩)} => ssL s i.1) ⟨(p, b), rfl⟩ h

set_option maxHeartbeats 1000000 in
set_option maxRecDepth 100000 in
theorem newSender_ok (n : Int) (W : World) : Tri Tryd.prog 7 #[.int .i64 n] [] (fun e L => ∃ a, e = .returned (.pointer (some a)) ∧ L = [WSn (.pointer (some a)) (snNew (startN n))]) W := by
  intro M hM
  have hl := Go.Window.start_lt n
  have HB := hide (fun w => begin_ok n w)
  have hS := ((Sep.of_star hM).mapMade Tryd.prog 3).fresh 67 [.int .i64 (startN n : Nat), .int .i64 (startN n : Nat), .map (some W.heap.size)]
  have e1 : old (snNew (startN n)) = startN n := by simp [old, snNew]; omega
  have e2 : (snNew (startN n)).next = startN n := by simp [snNew]; omega
  have hsh : ∀ q w', Sep M W (CellsF q 67 [.int .i64 (startN n : Nat), .int .i64 (startN n : Nat), .map (some W.heap.size)] :: MapL Tryd.prog 3 W.heap.size [] :: []) w' → Sep M W (WSn (.pointer (some ⟨q, 0, none⟩)) (snNew (startN n)) :: []) w' := fun q w' h => by
    refine WSn.shut (b := W.heap.size) ?_
    rw [e1, e2]
    exact h
  have hS' := hsh _ _ hS
  rw [show (W.alloc (.map #[] 0)).heap.size = W.heap.size + 1 by simp] at hS'
  have HS := hide hS'
  have hmm := @run_makeMap Tryd.prog
  clear hS hS' hsh e1 e2 hl hM
  generalize snNew (startN n) = s at *
  generalize startN n = m at *
  go_enter Tryd.func7, Tryd.ntmps7
  go_wp2_with fail
  refine (HB.out _).mono ?_
  rintro e w1 ⟨rfl, rfl⟩
  go_wp2_with fail
  go_ret
  exact ⟨_, ⟨_, rfl, rfl⟩, HS.out⟩

theorem push_long' {s : Sn} {d : ByteArray} (h : 20000 < d.size) : s.push d = (s, 0, 2) := by unfold Sn.push; rw [if_pos h]
theorem push_full' {s : Sn} {d : ByteArray} (h : d.size ≤ 20000) (hf : s.full = true) : s.push d = (s, 0, 8) := by unfold Sn.push; rw [if_neg (by omega), if_pos hf]
theorem push_fits' {s : Sn} {d : ByteArray} (h : d.size ≤ 20000) (hf : s.full = false) : s.push d = (⟨(s.next + 1) % 65536, s.kept ++ [(s.next, d)]⟩, s.next, 0) := by unfold Sn.push; rw [if_neg (by omega), hf]; rfl

set_option maxHeartbeats 1000000 in
set_option maxRecDepth 100000 in
theorem push_ok (er : WnVs) (v : Value) (s : Sn) (d : ByteArray) (W : World) (hs : s.Ok) (hd : d.size ≤ 1000000) (hE : WnEr er W) :
    Tri Tryd.prog 9 #[v, .string d] [WSn v s] (fun r L => r = .returned (.tuple #[.int .i64 ((s.push d).2.1 : Nat), errN er (s.push d).2.2]) ∧ L = [WSn v (s.push d).1]) W := by
  intro M hM
  have h0 := Sep.of_star hM
  have HS0 := hide h0
  obtain ⟨p, b, rfl, hS⟩ := WSn.open h0
  have HS := hide hS
  have c0 := (hS.cell 0).1
  have c1 := (hS.cell 1).1
  have c2 := (hS.cell 2).1
  have f1 := (hS.cell 1).2
  simp only [List.getElem?_cons_zero, List.getElem?_cons_succ] at c0 c1 c2
  obtain ⟨gB, gF⟩ := hE
  have hd' : (d.size : Int) ≤ 1000000 := by omega
  have hnx := hs.next
  have hnx' : (s.next : Int) ≤ 65535 := by omega
  have hfo := full_old (s := s)
  have HG := hide (fun w => gap_ok (old s) s.next w (old_lt hs) hnx)
  have hdl := wdist_lt (old s) s.next
  clear h0 hS hM
  by_cases hlong : 20000 < d.size
  · have h1' : (20000 : Int) < d.size := by omega
    rw [push_long' hlong]
    clear hfo HG hlong
    go_enter Tryd.func9, Tryd.ntmps9
    go_wp2_with fail
    go_quiet (fail)
    go_wp2_with fail
    go_ret2
    exact ⟨_, ⟨rfl, rfl⟩, HS0.out.keep (below_drewN (Below.refl _ _) _)⟩
  · have h1 : d.size ≤ 20000 := by omega
    have h1' : (d.size : Int) ≤ 20000 := by omega
    cases hf : s.full with
    | true =>
      rw [push_full' h1 hf]
      rw [hf] at hfo
      have h32 : 32 ≤ dist (old s) s.next := by simpa using hfo.symm
      have h32' : (32 : Int) ≤ (dist (old s) s.next : Nat) := by omega
      clear hfo hf hlong h1 h32 hs
      generalize dist (old s) s.next = D at *
      go_enter Tryd.func9, Tryd.ntmps9
      go_wp2_with fail
      go_quiet ((go_at_call 26; exact Calls.quiet_of_same (HG.out _)))
      go_wp2_with fail
      go_quiet (fail)
      go_wp2_with fail
      go_ret2
      exact ⟨_, ⟨rfl, rfl⟩, HS0.out.keep (below_drewN (below_drewN (Below.refl _ _) _) _)⟩
    | false =>
      rw [push_fits' h1 hf]
      rw [hf] at hfo
      have h32 : dist (old s) s.next < 32 := by have := of_decide_eq_false hfo.symm; omega
      have h32' : ((dist (old s) s.next : Nat) : Int) < 32 := by omega
      have hlen := hs.length
      have hlen' : (keptA s.kept).length ≤ 1000000 := by rw [keptA_length]; omega
      have Hne := hide (keptA_ne hs)
      have HA := hide (fun w => after_ok s.next w hnx)
      have Hfin : Hid (∀ w', Sep M W [CellsF p 67 [.int .i64 (old s : Int), .int .i64 (((s.next + 1) % 65536 : Nat) : Int), .map (some b)], MapL Tryd.prog 3 b (keptA s.kept ++ [((s.next : Int), wfV d)])] w' → Sep M W [WSn (.pointer (some ⟨p, 0, none⟩)) ⟨(s.next + 1) % 65536, s.kept ++ [(s.next, d)]⟩] w') := fun w' h => by
        refine WSn.shut (b := b) ?_
        rw [old_push]
        have e : keptA (s.kept ++ [(s.next, d)]) = keptA s.kept ++ [((s.next : Int), wfV d)] := by simp [keptA]
        simp only [e]
        exact h
      have hwf : WfI (s.next : Int) := ⟨by omega, by omega⟩
      have Hwf := hide hwf
      clear hfo hf hlong h1 h32 hs hlen HS0 hwf
      generalize keptA s.kept = l at *
      generalize dist (old s) s.next = D at *
      generalize old s = o at *
      go_enter Tryd.func9, Tryd.ntmps9
      go_wp2_with fail
      go_quiet ((go_at_call 26; exact Calls.quiet_of_same (HG.out _)))
      have HS1 := hide (HS.out.keep (below_drewN (Below.refl W.heap.size W) nq)).sw
      clear HS
      go_wp2_with (at_mapUpdate; refine wpList_mapStore rfl _ _ _ 65 rfl 72 Tryd.underlying3 Tryd.underlying65 HS1.out hlen' rfl (s.next : Int) (wfV d) rfl rfl Hwf.out Hne.out ?_)
      intro w2 hs2
      have hs2' := hs2.sw
      have c0 := (hs2'.cell 0).1
      have c1 := (hs2'.cell 1).1
      have c2 := (hs2'.cell 2).1
      have f1 := (hs2'.cell 1).2
      simp only [List.getElem?_cons_zero, List.getElem?_cons_succ] at c0 c1 c2
      have hs3 := hs2'.set 1 (.int .i64 (((s.next + 1) % 65536 : Nat) : Int))
      simp only [List.set_cons_succ, List.set_cons_zero] at hs3
      have HS3 := hide (Hfin.out _ hs3)
      clear hs2 hs2' hs3 HS1 Hfin Hne Hwf
      go_wp2_with fail
      refine (HA.out _).mono ?_
      rintro e w3 ⟨rfl, rfl⟩
      go_wp2_with fail
      go_ret2
      exact ⟨_, ⟨rfl, rfl⟩, HS3.out⟩

set_option maxHeartbeats 1000000 in
set_option maxRecDepth 100000 in
theorem data_ok (v : Value) (s : Sn) (n : Int) (W : World) (hn : WfI n) :
    Tri Tryd.prog 13 #[v, .int .i64 n] [WSn v s] (fun e L => e = .returned (.tuple #[.string ((s.data n).getD ⟨#[]⟩), .bool (s.data n).isSome]) ∧ L = [WSn v s]) W := by
  intro M hM
  have h0 := Sep.of_star hM
  have HS0 := hide h0
  obtain ⟨p, b, rfl, hS⟩ := WSn.open h0
  have c2 := (hS.cell 2).1
  simp only [List.getElem?_cons_zero, List.getElem?_cons_succ] at c2
  have hlook := look_fr hS.sw hn
  rw [keptA_at, Option.isSome_map] at hlook
  have e : ((s.data n).map wfV).getD (wfV ⟨#[]⟩) = .agg #[.string ((s.data n).getD ⟨#[]⟩)] := by cases s.data n <;> rfl
  rw [e] at hlook
  generalize (s.data n).getD ⟨#[]⟩ = d at *
  generalize (s.data n).isSome = x at *
  clear h0 hS hM hn e
  go_enter Tryd.func13, Tryd.ntmps13
  go_wp2_with fail
  go_ret2
  exact ⟨_, ⟨rfl, rfl⟩, HS0.out.alloc _⟩
end Go.Proofs.YtaambclpkghddaaDoor
