/-
  Contract of the document's Sender.Push over this dump: any sender, any text.
-/
import Derived.Test.YtaambclpkghddaaDoorRefSeq
import Derived.Test.YtaambclpkghddaaDoorSep
import Derived.Deep.AppendLies
import Derived.Deep.QuietTactic
import Derived.BigQuiet
import Derived.WalkSmall
import Derived.Deep.DeepCutAuto
namespace Go.Proofs.YtaambclpkghddaaDoor
open Go.RowKit
open Go.Window (Sn dist)

theorem Tryd.infoI : (Tryd.prog.info? 3).map (fun i => (i.zero, i.size, i.bytes)) = some (some (.int .i64 0), 1, 8) := by kernel_rfl
theorem Tryd.infoS : (Tryd.prog.info? 9).map (fun i => (i.zero, i.size, i.bytes)) = some (some (.string ⟨#[]⟩), 1, 16) := by kernel_rfl
def numV (p : Nat × ByteArray) : Value := .int .i64 (p.1 : Int)
def txtV (p : Nat × ByteArray) : Value := .string p.2
/-- The document's sender at a block. -/
def RSn (p : Nat) (s : Sn) : Fam := Pack fun v : Value × Value => [CellsF p 51 [.int .i64 (s.next : Int), v.1, v.2], OwnF 3 1 v.1 s.kept.length (s.kept.map numV), OwnF 9 1 v.2 s.kept.length (s.kept.map txtV)]

theorem own_slice {w : World} {base size n : Nat} {e : TypeId} {v : Value} {xs : List Value} (h : w.ownsRow base e size v n xs) : ∃ a c, v = .slice a n c ∧ n ≤ c := by
  rcases h.2 with ⟨rfl, rfl⟩ | ⟨g, c, _, rfl, _, _, hc, _⟩
  · exact ⟨none, 0, rfl, Nat.le_refl _⟩
  · exact ⟨_, c, rfl, hc⟩

theorem push_long {s : Sn} {d : ByteArray} (h : 20000 < d.size) : s.push d = (s, 0, 2) := by unfold Sn.push; rw [if_pos h]
theorem push_full {s : Sn} {d : ByteArray} (h : d.size ≤ 20000) (hf : s.full = true) : s.push d = (s, 0, 8) := by unfold Sn.push; rw [if_neg (by omega), if_pos hf]
theorem push_fits {s : Sn} {d : ByteArray} (h : d.size ≤ 20000) (hf : s.full = false) : s.push d = (⟨(s.next + 1) % 65536, s.kept ++ [(s.next, d)]⟩, s.next, 0) := by unfold Sn.push; rw [if_neg (by omega), hf]; rfl
theorem own_at0 {w : World} {base n c : Nat} {e : TypeId} {a : Option Addr} {x : Value} {xs : List Value} (h : w.ownsRow base e 1 (.slice a n c) n (x :: xs)) : ∃ g, a = some ⟨g, 0, none⟩ ∧ w.cell? ⟨g, 0, none⟩ = some x := by
  have hl := h.1
  rcases h.2 with ⟨e, e0⟩ | ⟨g', c', cur, e, _, _, _⟩
  · subst e0; simp at hl
  · cases e
    exact ⟨g', rfl, by rw [h.cellAt 0 (by simp at hl; omega)]; rfl⟩
/-- The document's sender's objects. -/
abbrev rsnL (p : Nat) (s : Sn) (v : Value × Value) : List Fam := [CellsF p 51 [.int .i64 (s.next : Int), v.1, v.2], OwnF 3 1 v.1 s.kept.length (s.kept.map numV), OwnF 9 1 v.2 s.kept.length (s.kept.map txtV)]

set_option maxHeartbeats 1000000 in
set_option maxRecDepth 100000 in
theorem rpush_ok (p : Nat) (s : Sn) (d : ByteArray) (W : World) (hs : s.Ok) (hd : d.size ≤ 1000000) :
    Tri Tryd.prog 19 #[.pointer (some ⟨p, 0, none⟩), .string d] [RSn p s] (fun r L => r = .returned (.tuple #[.int .i64 ((s.push d).2.1 : Nat), .int .i64 ((s.push d).2.2 : Nat)]) ∧ L = [RSn p (s.push d).1]) W := by
  intro M hM
  obtain ⟨i0, hi, hz0, hz1, hz2⟩ := info_parts Tryd.infoI
  obtain ⟨j0, hj, ky0, ky1, ky2⟩ := info_parts Tryd.infoS
  obtain ⟨⟨vn, vd⟩, hS⟩ := (Sep.of_star hM).unpack
  simp only [List.cons_append, List.nil_append] at hS
  obtain ⟨an, cn, rfl, hcn⟩ := own_slice hS.sw.own
  obtain ⟨ad, cd, rfl, hcd⟩ := own_slice hS.third.own
  have HS := hide hS
  have c0 := (hS.cell 0).1
  have c1 := (hS.cell 1).1
  have c2 := (hS.cell 2).1
  simp only [List.getElem?_cons_zero, List.getElem?_cons_succ] at c0 c1 c2
  have hlen := hs.length
  have hnext := hs.next
  have HA0 : Hid (∀ q l, s.kept = q :: l → ∃ g, an = some ⟨g, 0, none⟩ ∧ W.cell? ⟨g, 0, none⟩ = some (.int .i64 (q.1 : Int)) ∧ s.full = decide (32 ≤ dist q.1 s.next) ∧ q.1 < 65536) := by
    intro q l hk
    have ho := hS.sw.own
    have hq := (hs.lt q (by rw [hk]; exact List.mem_cons_self ..)).1
    rw [hk, List.map_cons] at ho
    obtain ⟨g, rfl, hg⟩ := own_at0 (by simpa only [List.length_cons] using ho)
    exact ⟨g, rfl, hg, by unfold Sn.full; rw [hk], hq⟩
  have hd' : (d.size : Int) ≤ 1000000 := by omega
  have hnext' : (s.next : Int) ≤ 65535 := by omega
  have hlen' : (s.kept.length : Int) ≤ 32 := by omega
  clear hS
  by_cases hlong : 20000 < d.size
  · have h1' : (20000 : Int) < d.size := by omega
    rw [push_long hlong]
    go_enter Tryd.func19, Tryd.ntmps19
    go_wp2_with fail
    go_ret2
    exact ⟨_, ⟨rfl, rfl⟩, Sep.pack (f := rsnL p s) (_, _) HS.out⟩
  · have h1 : d.size ≤ 20000 := by omega
    have h1' : (d.size : Int) ≤ 20000 := by omega
    cases hf : s.full with
    | true =>
      rw [push_full h1 hf]
      obtain ⟨q, l, hk⟩ : ∃ q l, s.kept = q :: l := by
        cases hk : s.kept with
        | nil => unfold Sn.full at hf; rw [hk] at hf; cases hf
        | cons q l => exact ⟨q, l, rfl⟩
      obtain ⟨g, rfl, g0, hfq, hq⟩ := HA0.out q l hk
      have hpos : 0 < s.kept.length := by rw [hk]; simp
      have HS' : Hid (∀ nq, Sep M W [RSn p s] (W.drewN nq)) := fun nq => Sep.pack (f := rsnL p s) (_, _) (HS.out.keep (below_drewN (Below.refl _ _) nq))
      rw [hf] at hfq
      have h32 : 32 ≤ dist q.1 s.next := by simpa using hfq.symm
      have h32' : (32 : Int) ≤ (dist q.1 s.next : Nat) := by omega
      have HD := hide (fun W => distance_ok q.1 s.next W hq hnext)
      clear HA0 hf hfq hk h32 hlong hM hs hd hlen hcn hcd hi hz0 hz1 hz2 hj ky0 ky1 ky2 h1 hnext hq HS
      generalize s.kept.length = n at *
      generalize dist q.1 s.next = D at *
      generalize s.next = nx at *
      go_enter Tryd.func19, Tryd.ntmps19
      go_wp2_with fail
      go_quiet ((go_at_call 37; exact Calls.quiet_of_same (HD.out _)))
      go_wp2_with fail
      go_ret2
      exact ⟨_, ⟨rfl, rfl⟩, HS'.out _⟩
    | false =>
      rw [push_fits h1 hf]
      have HD := hide (fun q l (h : s.kept = q :: l) W => distance_ok q.1 s.next W (by obtain ⟨_, _, _, _, hq⟩ := HA0.out q l h; exact hq) hnext)
      have HF := hide (fun q l (h : s.kept = q :: l) => show dist q.1 s.next < 32 by
        obtain ⟨_, _, _, e, _⟩ := HA0.out q l h
        rw [hf] at e
        have := of_decide_eq_false e.symm
        omega)
      have hnil : Hid (s.kept = [] → s.kept.length = 0) := fun h => by rw [h]; rfl
      have Hfin : Hid (∀ v1 v2 w', Sep M W [CellsF p 51 [.int .i64 (((s.next : Int) + 1) % 65536), v1, v2], OwnF 3 1 v1 (s.kept.length + 1) (s.kept.map numV ++ [.int .i64 (s.next : Int)]), OwnF 9 1 v2 (s.kept.length + 1) (s.kept.map txtV ++ [.string d])] w' → Sep M W [RSn p ⟨(s.next + 1) % 65536, s.kept ++ [(s.next, d)]⟩] w') := fun v1 v2 w' h => by
        refine Sep.pack (f := rsnL p ⟨(s.next + 1) % 65536, s.kept ++ [(s.next, d)]⟩) (v1, v2) ?_
        have e : (((s.next + 1) % 65536 : Nat) : Int) = ((s.next : Int) + 1) % 65536 := by omega
        simpa [rsnL, e, numV, txtV] using h
      have hn0 : 0 ≤ (s.next : Int) := by omega
      clear hM hs hd hlen hcn hcd hlong h1 hnext hf
      go_enter Tryd.func19, Tryd.ntmps19
      go_upto_if 15 with fail
      go_cut [4] (fun v4 wc => v4 = .int .i64 0 ∧ Hid (∃ nq, wc = W.drewN nq))
      case first =>
        have hcs : s.kept = [] ∨ ∃ q l, s.kept = q :: l := by
          cases s.kept with
          | nil => exact .inl rfl
          | cons q l => exact .inr ⟨_, _, rfl⟩
        rcases hcs with hk | ⟨q, l, hk⟩
        · have hz := hnil.out hk
          clear HA0 HD HF HS Hfin hk hnil
          generalize s.kept.length = n at *
          subst hz
          go_wp2_with fail
          go_meet
          case rel => exact ⟨rfl, 0, rfl⟩
        · obtain ⟨g, rfl, g0, _, _⟩ := HA0.out q l hk
          have hpos : 0 < s.kept.length := by rw [hk]; simp
          have h32 := HF.out q l hk
          have h32' : ((dist q.1 s.next : Nat) : Int) < 32 := by omega
          have HD' := hide (HD.out q l hk)
          clear HA0 HD HF HS Hfin hk h32 hnil
          generalize s.kept.length = n at *
          generalize dist q.1 s.next = D at *
          go_wp2_with fail
          go_quiet ((go_at_call 37; exact Calls.quiet_of_same (HD'.out _)))
          go_wp2_with fail
          go_meet
          case rel => exact ⟨rfl, _, rfl⟩
      case rest =>
        obtain ⟨rfl, Hq⟩ := hcut
        obtain ⟨nq, hq⟩ := Hq.out
        have hS1 : Sep M W _ wc := hq ▸ HS.out.keep (below_drewN (Below.refl _ _) nq)
        have HS1 := hide hS1
        have c0 := (hS1.cell 0).1
        have c1 := (hS1.cell 1).1
        have c2 := (hS1.cell 2).1
        simp only [List.getElem?_cons_zero, List.getElem?_cons_succ] at c0 c1 c2
        have hoN := hide hS1.sw.own
        clear HA0 HD HF HS hq Hq hS1
        generalize s.kept.map numV = xs at *
        generalize s.kept.map txtV = ys at *
        generalize s.kept.length = n at *
        go_wp2_with (at_builtin; refine wpList_append_lies _ rfl (.tmp 36) (.tmp 38) 23 rfl 0 3 i0 (.int .i64 0) 1 8 Tryd.underlying23 hi hz0 hz1 hz2 rfl (by decide) _ n xs rfl (hoN.out.alloc _) ⟨wc.heap.size, 0, none⟩ 1 1 [.int .i64 (s.next : Int)] rfl rfl ?c1 ?c2 (by decide) ?b1 ?b2 (Nat.zero_le _) _ rfl ?next)
        case c1 => exact news1 _ _ _ _ (by simp)
        case c2 => intro u hu; simp at hu; subst hu; rfl
        case b1 => unfold maxLen; omega
        case b2 => omega
        case next =>
          intro g1 k1 w2 own2 hg2 hat2 hlt2
          have hS2 := ((HS1.out.alloc (.cells #[.int .i64 (s.next : Int)] 3)).sw.lies own2 hg2 hat2 (by simp)).sw
          have hS3 := hS2.set 1 (.slice (some ⟨g1, 0, none⟩) (n + 1) k1)
          simp only [List.set_cons_succ, List.set_cons_zero] at hS3
          have HS3 := hide hS3
          have c0 := (hS2.cell 0).1
          have c1 := (hS2.cell 1).1
          have c2 := (hS2.cell 2).1
          have f1 := (hS2.cell 1).2
          have f2 := (hS2.cell 2).2
          simp only [List.getElem?_cons_zero, List.getElem?_cons_succ] at c0 c1 c2
          have hoD := hide hS3.third.own
          clear own2 hg2 hat2 hlt2 hS2 hS3 HS1 hoN
          go_wp2_with (at_builtin; refine wpList_append_lies _ rfl (.tmp 46) (.tmp 48) 22 rfl 0 9 j0 (.string ⟨#[]⟩) 1 16 Tryd.underlying22 hj ky0 ky1 ky2 rfl (by decide) _ n ys rfl (hoD.out.alloc _) ⟨w2.heap.size, 0, none⟩ 1 1 [.string d] rfl rfl ?c1 ?c2 (by decide) ?b1 ?b2 (Nat.zero_le _) _ rfl ?next)
          case c1 => exact news1 _ _ _ _ (by simp)
          case c2 => intro u hu; simp at hu; subst hu; rfl
          case b1 => unfold maxLen; omega
          case b2 => omega
          case next =>
            intro g3 k3 w4 own4 hg4 hat4 hlt4
            have hS4 := ((HS3.out.alloc (.cells #[.string d] 9)).third.lies own4 hg4 hat4 (by simp)).sw
            have hS5 := hS4.set 2 (.slice (some ⟨g3, 0, none⟩) (n + 1) k3)
            simp only [List.set_cons_succ, List.set_cons_zero] at hS5
            have hS6 := hS5.set 0 (.int .i64 (((s.next : Int) + 1) % 65536))
            simp only [List.set_cons_zero] at hS6
            have HS6 := hide hS6.sw2
            have c0 := (hS4.cell 0).1
            have c1 := (hS4.cell 1).1
            have c2 := (hS4.cell 2).1
            have f0 := (hS4.cell 0).2
            have f1 := (hS4.cell 1).2
            have f2 := (hS4.cell 2).2
            simp only [List.getElem?_cons_zero, List.getElem?_cons_succ] at c0 c1 c2
            clear own4 hg4 hat4 hlt4 hS4 hS5 hS6 HS3 hoD
            go_wp2_with fail
            go_ret2
            exact ⟨_, ⟨rfl, rfl⟩, Hfin.out _ _ _ HS6.out⟩
end Go.Proofs.YtaambclpkghddaaDoor
