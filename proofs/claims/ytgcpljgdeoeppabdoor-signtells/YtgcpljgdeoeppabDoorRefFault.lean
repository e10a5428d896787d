/-
  Contracts of the document's SignFault, FindOf, and of OwnBlocks, over this dump.
-/
import Derived.Test.YtgcpljgdeoeppabDoorRefSign
namespace Go.Proofs.YtgcpljgdeoeppabDoor
open Go.RowKit
open Go.Sign (Blk)

theorem fits_false {size : Int} {last : Bool} {b : Blk} (h : ¬ (1 ≤ b.n ∧ b.n ≤ size ∧ (0 ≤ b.weak ∧ b.weak < 4294967296)) ∨ (b.n < size ∧ last = false)) (h1 : 1 ≤ size) : Go.Sign.fits size last b = false := by
  rw [← Bool.not_eq_true]
  intro hf
  have hb := Go.Sign.fits_bounds hf h1
  rcases h with h | ⟨h, rfl⟩
  · exact h ⟨hb.1, hb.2.1, hb.2.2⟩
  · simp [Go.Sign.fits] at hf
    omega
theorem fits_true {size : Int} {last : Bool} {b : Blk} (h0 : 1 ≤ b.n) (h1 : b.n ≤ size) (h2 : 0 ≤ b.weak ∧ b.weak < 4294967296) (h3 : b.n < size → last = true) : Go.Sign.fits size last b = true := by
  simp only [Go.Sign.fits, Bool.and_eq_true, Bool.or_eq_true, beq_iff_eq, decide_eq_true_eq]
  refine ⟨?_, h2⟩
  by_cases he : b.n = size
  · exact Or.inl he
  · exact Or.inr ⟨⟨h3 (by omega), h0⟩, by omega⟩

set_option maxHeartbeats 1000000 in
set_option maxRecDepth 100000 in
theorem sfault_size (a : Option Addr) (n c : Nat) (size : Int) (w : World) (hs : ¬ (1 ≤ size ∧ size ≤ 64)) :
    Calls Tryd.prog 21 #[.slice a n c, .int .i64 size] w fun r w' => r = .returned (.agg #[.int .i64 2, .int .i64 (-1)]) ∧ Below w.heap.size w w' := by
  have HB := hide (fun W => bare_ok 2 W)
  by_cases h0 : size < 1
  · have h0' : decide (size < 1) = true := by simp; omega
    clear hs
    go_enter Tryd.func21, Tryd.ntmps21
    go_wp2_with fail
    refine (HB.out _).mono ?_
    rintro r w2 ⟨rfl, hb2⟩
    have hq2 := (HvAt.fresh w 0 0 45).below hb2 (by simp)
    have Hq2 := hide hq2
    have Hb2 := hide (((Below.refl w.heap.size w).alloc (Nat.le_refl _) (.cells #[.int .i64 0, .int .i64 0] 45)).trans (hb2.mono (by simp)))
    clear hb2
    obtain ⟨q0, q1, p0, p1, qlt⟩ := hq2
    go_wp2_with fail
    (try simp only [Exit.inBlock, Exit.then])
    refine bodyPost_ret (v := .agg #[.int .i64 2, .int .i64 (-1)]) ?_ rfl ⟨rfl, (Hb2.out.setCell (by simp) _).setCell (by simp) _⟩
    obtain ⟨x0, x1, _, _, _⟩ := Hq2.out.set 2 (-1)
    simp only [results, show Tryd.f21.results = #[.cell 4 45] from rfl]
    go_simp
  · have h0' : decide (size < 1) = false := by simp; omega
    have h1' : decide ((64 : Int) < size) = true := by simp; omega
    clear hs
    go_enter Tryd.func21, Tryd.ntmps21
    go_wp2_with fail
    refine (HB.out _).mono ?_
    rintro r w2 ⟨rfl, hb2⟩
    have hq2 := (HvAt.fresh w 0 0 45).below hb2 (by simp)
    have Hq2 := hide hq2
    have Hb2 := hide (((Below.refl w.heap.size w).alloc (Nat.le_refl _) (.cells #[.int .i64 0, .int .i64 0] 45)).trans (hb2.mono (by simp)))
    clear hb2
    obtain ⟨q0, q1, p0, p1, qlt⟩ := hq2
    go_wp2_with fail
    (try simp only [Exit.inBlock, Exit.then])
    refine bodyPost_ret (v := .agg #[.int .i64 2, .int .i64 (-1)]) ?_ rfl ⟨rfl, (Hb2.out.setCell (by simp) _).setCell (by simp) _⟩
    obtain ⟨x0, x1, _, _, _⟩ := Hq2.out.set 2 (-1)
    simp only [results, show Tryd.f21.results = #[.cell 4 45] from rfl]
    go_simp

set_option maxHeartbeats 2000000 in
set_option maxRecDepth 100000 in
theorem sfault_scan (v : Value) (l : List Blk) (size : Int) (w : World) (hv : RowIn w v l) (hs : 1 ≤ size ∧ size ≤ 64) (hl : l.length ≤ 1000000) :
    Calls Tryd.prog 21 #[v, .int .i64 size] w fun r w' => r = .returned (.agg #[.int .i64 (wrongOut (Go.Sign.scanW size l 0 0)).2, .int .i64 (wrongOut (Go.Sign.scanW size l 0 0)).1]) ∧ Below w.heap.size w w' := by
  obtain ⟨a, c, rfl, hv⟩ := hv
  have HV := hide hv
  have hl' : (l.length : Int) ≤ 1000000 := by omega
  have s1 := hs.1
  have s2 := hs.2
  have s1' : decide (size < 1) = false := by simp; omega
  have s2' : decide ((64 : Int) < size) = false := by simp; omega
  clear hv hs
  generalize hR : Go.Sign.scanW size l 0 0 = R
  have HR := hide hR
  clear hR
  go_enter Tryd.func21, Tryd.ntmps21
  go_wp2_with fail
  have Hq := hide (HvAt.fresh w 0 0 45)
  have Hb0 := hide ((Below.refl w.heap.size w).alloc (Nat.le_refl _) (.cells #[.int .i64 0, .int .i64 0] 45))
  go_loopw [5, 6] (fun t5 t6 wr => ∃ (j : Nat) (all : Int), t6 = .int .i64 j ∧ t5 = .int .i64 all ∧ 0 ≤ all ∧ all ≤ 4000 ∧ j ≤ l.length ∧ Hid (Go.Sign.scanW size (l.drop j) j all = R) ∧ Hid (HvAt w.heap.size wr 0 0) ∧ Hid (Below w.heap.size w wr)) (fun _ t6 _ => l.length - (intOf t6).toNat)
  case atStart => exact ⟨0, 0, rfl, rfl, by omega, by omega, by omega, HR.out, Hq.out, Hb0.out⟩
  case round =>
    clear HR Hq Hb0
    obtain ⟨j, all, rfl, rfl, a0, a1, hj, Hsc, Hq, Hb⟩ := hrel
    obtain ⟨q0, q1, p0, p1, qlt⟩ := Hq.out
    by_cases hlt : j < l.length
    · have hlt' : (j : Int) < l.length := by omega
      obtain ⟨b, o, rfl, hc⟩ := HV.out (by omega)
      obtain ⟨c0, c1, c2⟩ := hc j hlt
      have d0 := (Hb.out.cell (World.block_lt_of_cell? _ _ c0)).trans c0
      have d1 := (Hb.out.cell (World.block_lt_of_cell? _ _ c1)).trans c1
      clear hc c0 c1 c2
      have Hs := hide (scan_step size l j all hlt)
      rw [Hsc.out] at Hs
      have HI := hide (fun W => isWeak_ok l[j].weak W)
      generalize l[j] = bk at *
      clear Hsc HV
      by_cases hbad : 1 ≤ bk.n ∧ bk.n ≤ size ∧ (0 ≤ bk.weak ∧ bk.weak < 4294967296)
      · obtain ⟨n0, n1, hw⟩ := hbad
        rw [show decide (0 ≤ bk.weak ∧ bk.weak < 4294967296) = true from decide_eq_true hw] at HI
        have g0 : decide (bk.n < 1) = false := by simp; omega
        have g1 : decide (size < bk.n) = false := by simp; omega
        by_cases hshort : bk.n < size ∧ j + 1 < l.length
        · have g2 : decide (bk.n < size) = true := by simp; omega
          have g3 : decide ((j : Int) < (l.length : Int) - 1) = true := by simp; omega
          have hR : R = some (j, 2) := by
            rw [Hs.out, if_neg (by rw [fits_false (Or.inr ⟨hshort.1, by simp; omega⟩) s1]; simp)]
          subst hR
          clear Hs hshort hw
          go_wp2_with fail
          refine (HI.out _).mono ?_
          rintro r w2 ⟨rfl, rfl⟩
          go_wp2_with fail
          (try simp only [Exit.inBlock, Exit.then])
          refine bodyPost_ret (v := .agg #[.int .i64 2, .int .i64 j]) ?_ rfl ⟨rfl, (Hb.out.setCell (by simp) _).setCell (by simp) _⟩
          obtain ⟨x0, x1, _, _, _⟩ := Hq.out.set 2 j
          simp only [results, show Tryd.f21.results = #[.cell 4 45] from rfl]
          go_simp
        · have hfit : Go.Sign.fits size (decide (j + 1 = l.length)) bk = true := fits_true n0 n1 hw (fun h => by simp; omega)
          have hR := Hs.out
          rw [if_pos hfit] at hR
          have n64 : bk.n ≤ 64 := by omega
          by_cases h4 : 4000 < all + bk.n
          · rw [if_pos h4] at hR
            subst hR
            clear Hs hfit
            by_cases hn : bk.n < size
            · have g2 : decide (bk.n < size) = true := by simp; omega
              have g3 : decide ((j : Int) < (l.length : Int) - 1) = false := by simp; omega
              clear hshort hw
              go_wp2_with fail
              refine (HI.out _).mono ?_
              rintro r w2 ⟨rfl, rfl⟩
              go_wp2_with fail
              (try simp only [Exit.inBlock, Exit.then])
              refine bodyPost_ret (v := .agg #[.int .i64 8, .int .i64 j]) ?_ rfl ⟨rfl, (Hb.out.setCell (by simp) _).setCell (by simp) _⟩
              obtain ⟨x0, x1, _, _, _⟩ := Hq.out.set 8 j
              simp only [results, show Tryd.f21.results = #[.cell 4 45] from rfl]
              go_simp
            · have g2 : decide (bk.n < size) = false := by simp; omega
              clear hshort hw
              go_wp2_with fail
              refine (HI.out _).mono ?_
              rintro r w2 ⟨rfl, rfl⟩
              go_wp2_with fail
              (try simp only [Exit.inBlock, Exit.then])
              refine bodyPost_ret (v := .agg #[.int .i64 8, .int .i64 j]) ?_ rfl ⟨rfl, (Hb.out.setCell (by simp) _).setCell (by simp) _⟩
              obtain ⟨x0, x1, _, _, _⟩ := Hq.out.set 8 j
              simp only [results, show Tryd.f21.results = #[.cell 4 45] from rfl]
              go_simp
          · rw [if_neg h4] at hR
            have HR := hide hR
            have h4' : all + bk.n ≤ 4000 := by omega
            clear Hs hfit hR h4
            by_cases hn : bk.n < size
            · have g2 : decide (bk.n < size) = true := by simp; omega
              have g3 : decide ((j : Int) < (l.length : Int) - 1) = false := by simp; omega
              clear hshort hw
              go_wp2_with fail
              refine (HI.out _).mono ?_
              rintro r w2 ⟨rfl, rfl⟩
              go_wp2_with fail
              go_roundw
              case rel => exact ⟨j + 1, all + bk.n, by go_num, by go_num, by omega, by omega, by omega, HR.out.symm, Hq.out, Hb.out⟩
              case measure => simp [intOf]; omega
            · have g2 : decide (bk.n < size) = false := by simp; omega
              clear hshort hw
              go_wp2_with fail
              refine (HI.out _).mono ?_
              rintro r w2 ⟨rfl, rfl⟩
              go_wp2_with fail
              go_roundw
              case rel => exact ⟨j + 1, all + bk.n, by go_num, by go_num, by omega, by omega, by omega, HR.out.symm, Hq.out, Hb.out⟩
              case measure => simp [intOf]; omega
      · have hR : R = some (j, 2) := by
          rw [Hs.out, if_neg (by rw [fits_false (Or.inl hbad) s1]; simp)]
        subst hR
        clear Hs
        by_cases g0 : bk.n < 1
        · have g0' : decide (bk.n < 1) = true := by simp; omega
          generalize decide (0 ≤ bk.weak ∧ bk.weak < 4294967296) = y at *
          clear hbad
          go_wp2_with fail
          refine (HI.out _).mono ?_
          rintro r w2 ⟨rfl, rfl⟩
          go_wp2_with fail
          (try simp only [Exit.inBlock, Exit.then])
          refine bodyPost_ret (v := .agg #[.int .i64 2, .int .i64 j]) ?_ rfl ⟨rfl, (Hb.out.setCell (by simp) _).setCell (by simp) _⟩
          obtain ⟨x0, x1, _, _, _⟩ := Hq.out.set 2 j
          simp only [results, show Tryd.f21.results = #[.cell 4 45] from rfl]
          go_simp
        · have g0' : decide (bk.n < 1) = false := by simp; omega
          by_cases g1 : size < bk.n
          · have g1' : decide (size < bk.n) = true := by simp; omega
            generalize decide (0 ≤ bk.weak ∧ bk.weak < 4294967296) = y at *
            clear hbad
            go_wp2_with fail
            refine (HI.out _).mono ?_
            rintro r w2 ⟨rfl, rfl⟩
            go_wp2_with fail
            (try simp only [Exit.inBlock, Exit.then])
            refine bodyPost_ret (v := .agg #[.int .i64 2, .int .i64 j]) ?_ rfl ⟨rfl, (Hb.out.setCell (by simp) _).setCell (by simp) _⟩
            obtain ⟨x0, x1, _, _, _⟩ := Hq.out.set 2 j
            simp only [results, show Tryd.f21.results = #[.cell 4 45] from rfl]
            go_simp
          · have g1' : decide (size < bk.n) = false := by simp; omega
            rw [show decide (0 ≤ bk.weak ∧ bk.weak < 4294967296) = false from decide_eq_false (fun h => hbad ⟨by omega, by omega, h⟩)] at HI
            clear hbad
            go_wp2_with fail
            refine (HI.out _).mono ?_
            rintro r w2 ⟨rfl, rfl⟩
            go_wp2_with fail
            (try simp only [Exit.inBlock, Exit.then])
            refine bodyPost_ret (v := .agg #[.int .i64 2, .int .i64 j]) ?_ rfl ⟨rfl, (Hb.out.setCell (by simp) _).setCell (by simp) _⟩
            obtain ⟨x0, x1, _, _, _⟩ := Hq.out.set 2 j
            simp only [results, show Tryd.f21.results = #[.cell 4 45] from rfl]
            go_simp
    · have hle : (l.length : Int) ≤ (j : Int) := by omega
      have he : R = none := by rw [← Hsc.out, List.drop_eq_nil_of_le (by omega), Go.Sign.scanW]
      subst he
      have HF := hide (fun W => fine_ok W)
      go_wp2_with fail
      refine (HF.out _).mono ?_
      rintro r w2 ⟨rfl, hb2⟩
      have hq2 := Hq.out.below hb2 qlt
      have Hq2 := hide hq2
      have Hb2 := hide (bthen Hb.out hb2)
      clear hb2 q0 q1 p0 p1 qlt
      obtain ⟨q0, q1, p0, p1, qlt⟩ := hq2
      go_wp2_with fail
      (try simp only [Exit.inBlock, Exit.then])
      refine bodyPost_ret (v := .agg #[.int .i64 0, .int .i64 (-1)]) ?_ rfl ⟨rfl, (Hb2.out.setCell (by simp) _).setCell (by simp) _⟩
      obtain ⟨x0, x1, _, _, _⟩ := Hq2.out.set 0 (-1)
      simp only [results, show Tryd.f21.results = #[.cell 4 45] from rfl]
      go_simp

theorem sfault_ok (v : Value) (l : List Blk) (size : Int) (w : World) (hv : RowIn w v l) (hl : l.length ≤ 1000000) :
    Calls Tryd.prog 21 #[v, .int .i64 size] w fun r w' => r = .returned (fval (Go.Sign.fault l size)) ∧ Below w.heap.size w w' := by
  unfold Go.Sign.fault
  by_cases hs : 1 ≤ size ∧ size ≤ 64
  · rw [if_pos hs]
    refine (sfault_scan v l size w hv hs hl).mono ?_
    rintro r w' ⟨rfl, hb⟩
    refine ⟨?_, hb⟩
    cases Go.Sign.scanW size l 0 0 <;> rfl
  · rw [if_neg hs]
    obtain ⟨a, c, rfl, _⟩ := hv
    exact sfault_size a _ c size w hs
end Go.Proofs.YtgcpljgdeoeppabDoor
