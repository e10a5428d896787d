/-
  Contract of package window's Sender.Take.
-/
import Derived.Test.YtaambclpkghddaaDoorWinSTake
namespace Go.Proofs.YtaambclpkghddaaDoor
open Go.RowKit
open Go.Window (Sn dist far)

theorem Sep.rowOld {α : Type} {f : α → Value} {M : Foot} {W w : World} {L : List Fam} {v : Value} {l : List α} (h : Sep M W L w) (hv : Row1 f W v l) (ho : Out M v) : Row1 f w v l := by
  obtain ⟨M', _, hs⟩ := h
  exact (hv.step ho hs).1

/-- Where Take stands: the map, the two boxes, the sender. -/
abbrev stL (W : World) (p b o nx : Nat) (n : Int) (u : Value) (K : List (Nat × ByteArray)) : List Fam := [MapL Tryd.prog 3 b (keptA K), CellsF W.heap.size 25 [.pointer (some ⟨p, 0, none⟩)], CellsF p 67 [.int .i64 (o : Int), .int .i64 (nx : Int), .map (some b)], CellsF (W.heap.size + 1) 38 [.int .i64 n, u]]

set_option maxHeartbeats 2000000 in
set_option maxRecDepth 100000 in
theorem takeS_ok (v : Value) (s : Sn) (n : Int) (u : Value) (more : List Int) (W : World) (hs : s.Ok) (hml : more.length ≤ 1000000) (hwf : ∀ x ∈ more, WfI x) (M : Foot) (hM : Star [WSn v s] M W) (hr : Row1 intV W u more) (ho : Out M u) :
    Calls Tryd.prog 10 #[v, .agg #[.int .i64 n, u]] W fun e w' => ∃ L1, (e = .returned (.int .i64 ((s.kept.length : Int) - (s.ack n more).kept.length)) ∧ L1 = [WSn v (s.ack n more)]) ∧ Sep M W L1 w' := by
  obtain ⟨p, b, rfl, hS⟩ := WSn.open (Sep.of_star hM)
  have HR := hide (fun L w' (k : Sep M W L w') => k.rowOld hr ho)
  obtain ⟨ua, uc, rfl, -⟩ := hr
  have hold := old_lt hs
  have hnx := hs.next
  -- the two boxes
  have h1 := (hS.fresh 25 [.pointer (some ⟨p, 0, none⟩)]).fresh 38 [.int .i64 n, .slice ua more.length uc]
  rw [show (W.alloc (.cells [.pointer (some ⟨p, 0, none⟩)].toArray 25)).heap.size = W.heap.size + 1 by simp] at h1
  have h2 : Sep M W (stL W p b (old s) s.next n (.slice ua more.length uc) s.kept) _ := (Sep.swap (L1 := [_]) h1).third
  have HS := hide h2
  have c0 := (h2.third.cell 0).1
  have c2 := (h2.third.cell 2).1
  simp only [List.getElem?_cons_zero, List.getElem?_cons_succ] at c0 c2
  have HAn := hide (fun w' (k : Sep M W (stL W p b (old s) s.next n (.slice ua more.length uc) s.kept) w') => answered_ok p (old s) s.next n w' hold hnx (k.third.cell 0).1 (k.third.cell 1).1)
  rw [← old_far] at HAn
  have HRn := hide (fun w' (k : Sep M W (stL W p b (old s) s.next n (.slice ua more.length uc) s.kept) w') => round1_ok 28 W.heap.size (old s) (far s n) w' (fun i w' => Sep M W (stL W p b (old s) s.next n (.slice ua more.length uc) (cutN (old s) i s.kept)) w') hold (by have := far_le (s := s) n; omega) enter_take
    (fun i w2 _ k2 => by
      have := drop1_ok k2 (((old s + i) % 65536 : Nat) : Int) ⟨by omega, by omega⟩
      rw [keptA_del] at this
      exact this) k)
  have HFo := hide (fun w' => findOldest_ok p b (old s) (s.ack n more) w' (hs.ack n more) hold (kept_le hs (fun x hx => (List.mem_filter.1 hx).1)))
  have hfl : ((far s n : Nat) : Int) ≤ 65536 := by have := far_le (s := s) n; omega
  have hk1 : (s.kept.length : Int) ≤ 32 := by have := hs.length; omega
  have hk2 : ((s.ack n more).kept.length : Int) ≤ 32 := by have := (hs.ack n more).length; omega
  have HK := hide (ack_cut hs n more)
  have Hwf := hide hwf
  have hml' : (more.length : Int) ≤ 1000000 := by omega
  have Hnx : Hid ((s.ack n more).next = s.next) := rfl
  clear hS hM ho h1 h2 hs hwf
  generalize s.ack n more = s' at *
  generalize cutN (old s) (far s n) s.kept = K1 at *
  generalize far s n = fr at *
  generalize old s = od at *
  go_enter Tryd.func10, Tryd.ntmps10
  go_wp2_with (at_len; refine wpList_mapLen rfl _ 65 rfl 72 Tryd.underlying65 HS.out rfl ?_)
  rw [keptA_length]
  go_wp2_with fail
  have HSd := hide HS.out.drew
  go_region_held3 (fun w' => w'.cell? ⟨W.heap.size, 0, none⟩ = some (.pointer (some ⟨p, 0, none⟩)) ∧ w'.cell? ⟨p, 0, none⟩ = some (.int .i64 (od : Int)) ∧ w'.cell? ⟨W.heap.size + 1, 0, none⟩ = some (.int .i64 n))
    (go_keep)
    (first
      | (go_at_call 29; refine (HRn.out _ hs1).mono ?_; rintro e w2 ⟨rfl, hs2⟩; have k0 := (hs2.sw.cell 0).1; have k1 := (hs2.third.cell 0).1; have k2 := (hs2.fourth.cell 0).1; simp only [List.getElem?_cons_zero] at k0 k1 k2)
      | (go_at_call 30; refine (HAn.out _ HSd.out).mono ?_; rintro e w1 ⟨rfl, hb1⟩; have hs1 := HSd.out.keep hb1; have j0 := (hs1.sw.cell 0).1; have j1 := (hs1.third.cell 0).1; have j2 := (hs1.fourth.cell 0).1; simp only [List.getElem?_cons_zero] at j0 j1 j2))
  all_goals
    have a1 := (hs2.fourth.cell 1).1
    simp only [List.getElem?_cons_zero, List.getElem?_cons_succ] at a1
    have HS2 := hide hs2
    clear hs2 hs1 hb1 k0 k1 k2 j0 j1 j2 HAn HRn HS HSd
    go_wp2_with fail
    go_loopw [8, 28] (fun _ t28 wr => ∃ j : Nat, t28 = .int .i64 j ∧ j ≤ more.length ∧ Hid (Sep M W (stL W p b od s.next n (.slice ua more.length uc) (cutM (more.take j) K1)) wr)) (fun _ t28 _ => more.length - (intOf t28).toNat)
    case atStart => exact ⟨0, rfl, Nat.zero_le _, HS2.out⟩
    case round =>
      clear HS2
      obtain ⟨j, rfl, hj, Hs⟩ := hrel
      by_cases hlt : j < more.length
      · have hlt' : (j : Int) < more.length := by omega
        obtain ⟨a', c', e1, hrow⟩ := HR.out _ _ Hs.out
        obtain ⟨b0, o0, rfl, hc⟩ := hrow (by omega)
        simp only [Value.slice.injEq] at e1
        obtain ⟨rfl, -, rfl⟩ := e1
        have r0 := hc j hlt
        unfold intV at r0
        have Hx := hide (Hwf.out _ (List.getElem_mem hlt))
        have Hd := hide (fun w' k => drop1_ok (M0 := M) (w0 := W) (w := w') (q := W.heap.size) (p := p) (b := b) (x := .int .i64 (od : Int)) (y := .int .i64 (s.next : Int)) (l := keptA (cutM (more.take j) K1)) (L := [CellsF (W.heap.size + 1) 38 [.int .i64 n, .slice (some ⟨b0, o0, none⟩) more.length uc]]) k (more[j]) Hx.out)
        rw [keptA_del, ← cutM_snoc, ← List.take_succ_eq_append_getElem hlt] at Hd
        clear hc hrow Hx
        generalize more[j] = x at *
        go_wp2_with fail
        refine (Hd.out _ Hs.out).mono ?_
        rintro e w3 ⟨rfl, hs3⟩
        have HS3 := hide hs3
        clear hs3 Hd Hs
        go_wp2_with fail
        go_roundw
        case rel => exact ⟨j + 1, by go_num, by omega, HS3.out⟩
        case measure => simp [intOf]; omega
      · have hle : (more.length : Int) ≤ (j : Int) := by omega
        have hs3 := Hs.out
        rw [List.take_of_length_le (by omega), ← HK.out] at hs3
        have hs4 : Sep M W (sdL p b od s' ++ [CellsF W.heap.size 25 [.pointer (some ⟨p, 0, none⟩)], CellsF (W.heap.size + 1) 38 [.int .i64 n, .slice ua more.length uc]]) wr := by
          unfold sdL
          rw [Hnx.out]
          exact Sep.third hs3
        have HS4 := hide hs4
        have d0 := (Sep.third hs4).cell 0 |>.1
        simp only [List.getElem?_cons_zero] at d0
        clear hs3 hs4 Hs HR Hwf hlt
        go_wp2_with fail
        refine (Sep.call (L0 := sdL p b od s') HS4.out (HFo.out _)).mono ?_
        rintro e w4 ⟨_, ⟨rfl, rfl⟩, hs5⟩
        have g0 := (Sep.third hs5).cell 0 |>.1
        have g2 := (Sep.cell hs5 2).1
        simp only [List.getElem?_cons_zero, List.getElem?_cons_succ] at g0 g2
        have HS5 := hide (Sep.sw hs5)
        have hs6 := WSn.shut hs5
        have hs7 := (Sep.swap (L1 := [_]) hs6).drop.drop
        have HS7 := hide hs7
        clear hs5 hs6 hs7 HS4 HFo d0
        go_wp2_with (at_len; refine wpList_mapLen rfl _ 65 rfl 72 Tryd.underlying65 HS5.out rfl ?_)
        rw [keptA_length]
        go_wp2_with fail
        go_ret
        exact ⟨_, ⟨ret_int (by unfold wrap64; omega), rfl⟩, HS7.out⟩
end Go.Proofs.YtaambclpkghddaaDoor
