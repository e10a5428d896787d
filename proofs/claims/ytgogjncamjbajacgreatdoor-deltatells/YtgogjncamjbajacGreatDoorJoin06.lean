/-
  Contracts of the document's answer: Fine, Bare.
  Contracts of the document's SignFault, FindOf, and of OwnBlocks, over this dump.
  Contracts of errors.As and errors.Is at an *api.Fault, over this dump.
  Contracts of plain.Code at an *api.Fault and at an error of another make, over this dump.
  An error and its number, a fault and its place, as the laws ask for them.
-/
import Derived.Test.YtgogjncamjbajacGreatDoorJoin05
import Derived.Test.YtgogjncamjbajacGreatDoorJoin02
namespace Go.Proofs.YtgogjncamjbajacGreatDoor
open Go.RowKit

/-- A fault of the document's answer: an error's number and where. -/
def fval (f : Nat × Int) : Value := .agg #[.int .i64 f.1, .int .i64 f.2]

set_option maxHeartbeats 1000000 in
set_option maxRecDepth 100000 in
theorem fine_ok (w : World) : Calls Tryz.prog 26 #[] w fun r w' => r = .returned (.agg #[.int .i64 0, .int .i64 (-1)]) ∧ Below w.heap.size w w' := by
  go_enter Tryz.func26, Tryz.ntmps26
  go_wp2
  (try simp only [Exit.inBlock, Exit.then])
  refine bodyPost_ret (v := .agg #[.int .i64 0, .int .i64 (-1)]) ?_ rfl ⟨rfl, (Below.refl _ _).alloc (Nat.le_refl _) _⟩
  simp only [results, show Tryz.f26.results = #[.cell 0 32] from rfl]
  go_simp

set_option maxHeartbeats 1000000 in
set_option maxRecDepth 100000 in
theorem bare_ok (c : Int) (w : World) : Calls Tryz.prog 24 #[.int .i64 c] w fun r w' => r = .returned (.agg #[.int .i64 c, .int .i64 (-1)]) ∧ Below w.heap.size w w' := by
  go_enter Tryz.func24, Tryz.ntmps24
  go_wp2
  (try simp only [Exit.inBlock, Exit.then])
  refine bodyPost_ret (v := .agg #[.int .i64 c, .int .i64 (-1)]) ?_ rfl ⟨rfl, (Below.refl _ _).alloc (Nat.le_refl _) _⟩
  simp only [results, show Tryz.f24.results = #[.cell 2 32] from rfl]
  go_simp

end Go.Proofs.YtgogjncamjbajacGreatDoor

namespace Go.Proofs.YtgogjncamjbajacGreatDoor
open Go.RowKit
open Go.Sign (Blk)

theorem fits_false {size : Int} {last : Bool} {b : Blk} (h : ¬ (1 ≤ b.n ∧ b.n ≤ size ∧ (0 ≤ b.weak ∧ b.weak < 4294967296)) ∨ (b.n < size ∧ last = false)) (h1 : 1 ≤ size) : Go.Sign.fits size last b = false := by
  rw [← Bool.not_eq_true]
  intro hf
  have hb := Go.Sign.fits_bounds hf h1
  rcases h with h | ⟨h, rfl⟩
  · exact h ⟨hb.1, hb.2.1, hb.2.2⟩
  · simp [Go.Sign.fits] at hf
    omega
theorem fits_true {size : Int} {last : Bool} {b : Blk} (h0 : 1 ≤ b.n) (h1 : b.n ≤ size) (h2 : 0 ≤ b.weak ∧ b.weak < 4294967296) (h3 : b.n < size → last = true) : Go.Sign.fits size last b = true := by
  simp only [Go.Sign.fits, Bool.and_eq_true, Bool.or_eq_true, beq_iff_eq, decide_eq_true_eq]
  refine ⟨?_, h2⟩
  by_cases he : b.n = size
  · exact Or.inl he
  · exact Or.inr ⟨⟨h3 (by omega), h0⟩, by omega⟩

set_option maxHeartbeats 1000000 in
set_option maxRecDepth 100000 in
theorem sfault_size (a : Option Addr) (n c : Nat) (size : Int) (w : World) (hs : ¬ (1 ≤ size ∧ size ≤ 64)) :
    Calls Tryz.prog 23 #[.slice a n c, .int .i64 size] w fun r w' => r = .returned (.agg #[.int .i64 2, .int .i64 (-1)]) ∧ Below w.heap.size w w' := by
  have HB := hide (fun W => bare_ok 2 W)
  by_cases h0 : size < 1
  · have h0' : decide (size < 1) = true := by simp; omega
    clear hs
    go_enter Tryz.func23, Tryz.ntmps23
    go_wp2_with fail
    refine (HB.out _).mono ?_
    rintro r w2 ⟨rfl, hb2⟩
    have hq2 := (HvAt.fresh w 0 0 32).below hb2 (by simp)
    have Hq2 := hide hq2
    have Hb2 := hide (((Below.refl w.heap.size w).alloc (Nat.le_refl _) (.cells #[.int .i64 0, .int .i64 0] 32)).trans (hb2.mono (by simp)))
    clear hb2
    obtain ⟨q0, q1, p0, p1, qlt⟩ := hq2
    go_wp2_with fail
    (try simp only [Exit.inBlock, Exit.then])
    refine bodyPost_ret (v := .agg #[.int .i64 2, .int .i64 (-1)]) ?_ rfl ⟨rfl, (Hb2.out.setCell (by simp) _).setCell (by simp) _⟩
    obtain ⟨x0, x1, _, _, _⟩ := Hq2.out.set 2 (-1)
    simp only [results, show Tryz.f23.results = #[.cell 4 32] from rfl]
    go_simp
  · have h0' : decide (size < 1) = false := by simp; omega
    have h1' : decide ((64 : Int) < size) = true := by simp; omega
    clear hs
    go_enter Tryz.func23, Tryz.ntmps23
    go_wp2_with fail
    refine (HB.out _).mono ?_
    rintro r w2 ⟨rfl, hb2⟩
    have hq2 := (HvAt.fresh w 0 0 32).below hb2 (by simp)
    have Hq2 := hide hq2
    have Hb2 := hide (((Below.refl w.heap.size w).alloc (Nat.le_refl _) (.cells #[.int .i64 0, .int .i64 0] 32)).trans (hb2.mono (by simp)))
    clear hb2
    obtain ⟨q0, q1, p0, p1, qlt⟩ := hq2
    go_wp2_with fail
    (try simp only [Exit.inBlock, Exit.then])
    refine bodyPost_ret (v := .agg #[.int .i64 2, .int .i64 (-1)]) ?_ rfl ⟨rfl, (Hb2.out.setCell (by simp) _).setCell (by simp) _⟩
    obtain ⟨x0, x1, _, _, _⟩ := Hq2.out.set 2 (-1)
    simp only [results, show Tryz.f23.results = #[.cell 4 32] from rfl]
    go_simp

set_option maxHeartbeats 2000000 in
set_option maxRecDepth 100000 in
theorem sfault_scan (v : Value) (l : List Blk) (size : Int) (w : World) (hv : RowIn w v l) (hs : 1 ≤ size ∧ size ≤ 64) (hl : l.length ≤ 1000000) :
    Calls Tryz.prog 23 #[v, .int .i64 size] w fun r w' => r = .returned (.agg #[.int .i64 (wrongOut (Go.Sign.scanW size l 0 0)).2, .int .i64 (wrongOut (Go.Sign.scanW size l 0 0)).1]) ∧ Below w.heap.size w w' := by
  obtain ⟨a, c, rfl, hv⟩ := hv
  have HV := hide hv
  have hl' : (l.length : Int) ≤ 1000000 := by omega
  have s1 := hs.1
  have s2 := hs.2
  have s1' : decide (size < 1) = false := by simp; omega
  have s2' : decide ((64 : Int) < size) = false := by simp; omega
  clear hv hs
  generalize hR : Go.Sign.scanW size l 0 0 = R
  have HR := hide hR
  clear hR
  go_enter Tryz.func23, Tryz.ntmps23
  go_wp2_with fail
  have Hq := hide (HvAt.fresh w 0 0 32)
  have Hb0 := hide ((Below.refl w.heap.size w).alloc (Nat.le_refl _) (.cells #[.int .i64 0, .int .i64 0] 32))
  go_loopw [5, 6] (fun t5 t6 wr => ∃ (j : Nat) (all : Int), t6 = .int .i64 j ∧ t5 = .int .i64 all ∧ 0 ≤ all ∧ all ≤ 4000 ∧ j ≤ l.length ∧ Hid (Go.Sign.scanW size (l.drop j) j all = R) ∧ Hid (HvAt w.heap.size wr 0 0) ∧ Hid (Below w.heap.size w wr)) (fun _ t6 _ => l.length - (intOf t6).toNat)
  case atStart => exact ⟨0, 0, rfl, rfl, by omega, by omega, by omega, HR.out, Hq.out, Hb0.out⟩
  case round =>
    clear HR Hq Hb0
    obtain ⟨j, all, rfl, rfl, a0, a1, hj, Hsc, Hq, Hb⟩ := hrel
    obtain ⟨q0, q1, p0, p1, qlt⟩ := Hq.out
    by_cases hlt : j < l.length
    · have hlt' : (j : Int) < l.length := by omega
      obtain ⟨b, o, rfl, hc⟩ := HV.out (by omega)
      obtain ⟨c0, c1, c2⟩ := hc j hlt
      have d0 := (Hb.out.cell (World.block_lt_of_cell? _ _ c0)).trans c0
      have d1 := (Hb.out.cell (World.block_lt_of_cell? _ _ c1)).trans c1
      clear hc c0 c1 c2
      have Hs := hide (scan_step size l j all hlt)
      rw [Hsc.out] at Hs
      have HI := hide (fun W => isWeak_ok l[j].weak W)
      generalize l[j] = bk at *
      clear Hsc HV
      by_cases hbad : 1 ≤ bk.n ∧ bk.n ≤ size ∧ (0 ≤ bk.weak ∧ bk.weak < 4294967296)
      · obtain ⟨n0, n1, hw⟩ := hbad
        rw [show decide (0 ≤ bk.weak ∧ bk.weak < 4294967296) = true from decide_eq_true hw] at HI
        have g0 : decide (bk.n < 1) = false := by simp; omega
        have g1 : decide (size < bk.n) = false := by simp; omega
        by_cases hshort : bk.n < size ∧ j + 1 < l.length
        · have g2 : decide (bk.n < size) = true := by simp; omega
          have g3 : decide ((j : Int) < (l.length : Int) - 1) = true := by simp; omega
          have hR : R = some (j, 2) := by
            rw [Hs.out, if_neg (by rw [fits_false (Or.inr ⟨hshort.1, by simp; omega⟩) s1]; simp)]
          subst hR
          clear Hs hshort hw
          go_wp2_with fail
          refine (HI.out _).mono ?_
          rintro r w2 ⟨rfl, rfl⟩
          go_wp2_with fail
          (try simp only [Exit.inBlock, Exit.then])
          refine bodyPost_ret (v := .agg #[.int .i64 2, .int .i64 j]) ?_ rfl ⟨rfl, (Hb.out.setCell (by simp) _).setCell (by simp) _⟩
          obtain ⟨x0, x1, _, _, _⟩ := Hq.out.set 2 j
          simp only [results, show Tryz.f23.results = #[.cell 4 32] from rfl]
          go_simp
        · have hfit : Go.Sign.fits size (decide (j + 1 = l.length)) bk = true := fits_true n0 n1 hw (fun h => by simp; omega)
          have hR := Hs.out
          rw [if_pos hfit] at hR
          have n64 : bk.n ≤ 64 := by omega
          by_cases h4 : 4000 < all + bk.n
          · rw [if_pos h4] at hR
            subst hR
            clear Hs hfit
            by_cases hn : bk.n < size
            · have g2 : decide (bk.n < size) = true := by simp; omega
              have g3 : decide ((j : Int) < (l.length : Int) - 1) = false := by simp; omega
              clear hshort hw
              go_wp2_with fail
              refine (HI.out _).mono ?_
              rintro r w2 ⟨rfl, rfl⟩
              go_wp2_with fail
              (try simp only [Exit.inBlock, Exit.then])
              refine bodyPost_ret (v := .agg #[.int .i64 8, .int .i64 j]) ?_ rfl ⟨rfl, (Hb.out.setCell (by simp) _).setCell (by simp) _⟩
              obtain ⟨x0, x1, _, _, _⟩ := Hq.out.set 8 j
              simp only [results, show Tryz.f23.results = #[.cell 4 32] from rfl]
              go_simp
            · have g2 : decide (bk.n < size) = false := by simp; omega
              clear hshort hw
              go_wp2_with fail
              refine (HI.out _).mono ?_
              rintro r w2 ⟨rfl, rfl⟩
              go_wp2_with fail
              (try simp only [Exit.inBlock, Exit.then])
              refine bodyPost_ret (v := .agg #[.int .i64 8, .int .i64 j]) ?_ rfl ⟨rfl, (Hb.out.setCell (by simp) _).setCell (by simp) _⟩
              obtain ⟨x0, x1, _, _, _⟩ := Hq.out.set 8 j
              simp only [results, show Tryz.f23.results = #[.cell 4 32] from rfl]
              go_simp
          · rw [if_neg h4] at hR
            have HR := hide hR
            have h4' : all + bk.n ≤ 4000 := by omega
            clear Hs hfit hR h4
            by_cases hn : bk.n < size
            · have g2 : decide (bk.n < size) = true := by simp; omega
              have g3 : decide ((j : Int) < (l.length : Int) - 1) = false := by simp; omega
              clear hshort hw
              go_wp2_with fail
              refine (HI.out _).mono ?_
              rintro r w2 ⟨rfl, rfl⟩
              go_wp2_with fail
              go_roundw
              case rel => exact ⟨j + 1, all + bk.n, by go_num, by go_num, by omega, by omega, by omega, HR.out.symm, Hq.out, Hb.out⟩
              case measure => simp [intOf]; omega
            · have g2 : decide (bk.n < size) = false := by simp; omega
              clear hshort hw
              go_wp2_with fail
              refine (HI.out _).mono ?_
              rintro r w2 ⟨rfl, rfl⟩
              go_wp2_with fail
              go_roundw
              case rel => exact ⟨j + 1, all + bk.n, by go_num, by go_num, by omega, by omega, by omega, HR.out.symm, Hq.out, Hb.out⟩
              case measure => simp [intOf]; omega
      · have hR : R = some (j, 2) := by
          rw [Hs.out, if_neg (by rw [fits_false (Or.inl hbad) s1]; simp)]
        subst hR
        clear Hs
        by_cases g0 : bk.n < 1
        · have g0' : decide (bk.n < 1) = true := by simp; omega
          generalize decide (0 ≤ bk.weak ∧ bk.weak < 4294967296) = y at *
          clear hbad
          go_wp2_with fail
          refine (HI.out _).mono ?_
          rintro r w2 ⟨rfl, rfl⟩
          go_wp2_with fail
          (try simp only [Exit.inBlock, Exit.then])
          refine bodyPost_ret (v := .agg #[.int .i64 2, .int .i64 j]) ?_ rfl ⟨rfl, (Hb.out.setCell (by simp) _).setCell (by simp) _⟩
          obtain ⟨x0, x1, _, _, _⟩ := Hq.out.set 2 j
          simp only [results, show Tryz.f23.results = #[.cell 4 32] from rfl]
          go_simp
        · have g0' : decide (bk.n < 1) = false := by simp; omega
          by_cases g1 : size < bk.n
          · have g1' : decide (size < bk.n) = true := by simp; omega
            generalize decide (0 ≤ bk.weak ∧ bk.weak < 4294967296) = y at *
            clear hbad
            go_wp2_with fail
            refine (HI.out _).mono ?_
            rintro r w2 ⟨rfl, rfl⟩
            go_wp2_with fail
            (try simp only [Exit.inBlock, Exit.then])
            refine bodyPost_ret (v := .agg #[.int .i64 2, .int .i64 j]) ?_ rfl ⟨rfl, (Hb.out.setCell (by simp) _).setCell (by simp) _⟩
            obtain ⟨x0, x1, _, _, _⟩ := Hq.out.set 2 j
            simp only [results, show Tryz.f23.results = #[.cell 4 32] from rfl]
            go_simp
          · have g1' : decide (size < bk.n) = false := by simp; omega
            rw [show decide (0 ≤ bk.weak ∧ bk.weak < 4294967296) = false from decide_eq_false (fun h => hbad ⟨by omega, by omega, h⟩)] at HI
            clear hbad
            go_wp2_with fail
            refine (HI.out _).mono ?_
            rintro r w2 ⟨rfl, rfl⟩
            go_wp2_with fail
            (try simp only [Exit.inBlock, Exit.then])
            refine bodyPost_ret (v := .agg #[.int .i64 2, .int .i64 j]) ?_ rfl ⟨rfl, (Hb.out.setCell (by simp) _).setCell (by simp) _⟩
            obtain ⟨x0, x1, _, _, _⟩ := Hq.out.set 2 j
            simp only [results, show Tryz.f23.results = #[.cell 4 32] from rfl]
            go_simp
    · have hle : (l.length : Int) ≤ (j : Int) := by omega
      have he : R = none := by rw [← Hsc.out, List.drop_eq_nil_of_le (by omega), Go.Sign.scanW]
      subst he
      have HF := hide (fun W => fine_ok W)
      go_wp2_with fail
      refine (HF.out _).mono ?_
      rintro r w2 ⟨rfl, hb2⟩
      have hq2 := Hq.out.below hb2 qlt
      have Hq2 := hide hq2
      have Hb2 := hide (bthen Hb.out hb2)
      clear hb2 q0 q1 p0 p1 qlt
      obtain ⟨q0, q1, p0, p1, qlt⟩ := hq2
      go_wp2_with fail
      (try simp only [Exit.inBlock, Exit.then])
      refine bodyPost_ret (v := .agg #[.int .i64 0, .int .i64 (-1)]) ?_ rfl ⟨rfl, (Hb2.out.setCell (by simp) _).setCell (by simp) _⟩
      obtain ⟨x0, x1, _, _, _⟩ := Hq2.out.set 0 (-1)
      simp only [results, show Tryz.f23.results = #[.cell 4 32] from rfl]
      go_simp

theorem sfault_ok (v : Value) (l : List Blk) (size : Int) (w : World) (hv : RowIn w v l) (hl : l.length ≤ 1000000) :
    Calls Tryz.prog 23 #[v, .int .i64 size] w fun r w' => r = .returned (fval (Go.Sign.fault l size)) ∧ Below w.heap.size w w' := by
  unfold Go.Sign.fault
  by_cases hs : 1 ≤ size ∧ size ≤ 64
  · rw [if_pos hs]
    refine (sfault_scan v l size w hv hs hl).mono ?_
    rintro r w' ⟨rfl, hb⟩
    refine ⟨?_, hb⟩
    cases Go.Sign.scanW size l 0 0 <;> rfl
  · rw [if_neg hs]
    obtain ⟨a, c, rfl, _⟩ := hv
    exact sfault_size a _ c size w hs
end Go.Proofs.YtgogjncamjbajacGreatDoor

namespace Go.Proofs.YtgogjncamjbajacGreatDoor
open Go.RowKit Go.Extern.Stop Go.Stop Go.Extern

theorem Tryz.typeOf29 (v : Value) (w : World) : (callFunc 72 #[.iface 63 v]).run Tryz.prog w = .ok (.value (.iface 140 (.agg #[.pointer (some ⟨13, 63, none⟩)]))) w := by kernel_rfl
theorem Tryz.assignable29 (w : World) : (callFunc 118 #[.agg #[.pointer (some ⟨13, 63, none⟩)], .iface 140 (.agg #[.pointer (some ⟨13, 63, none⟩)])]).run Tryz.prog w = .ok (.value (.bool true)) w := by kernel_rfl
theorem Tryz.valueOf29 (t : Addr) (w : World) : (callFunc 68 #[.iface 63 (.pointer (some t))]).run Tryz.prog w = .ok (.value (.agg #[.pointer (some ⟨13, 63, none⟩), .pointer (some ⟨w.heap.size, 0, none⟩), .int .u64 150])) (w.alloc (.cells #[.pointer (some t)] 63)) := by kernel_rfl
theorem Tryz.elemOf53 (w : World) : (Rtype.elem? 87).run Tryz.prog w = .ok (some 63) w := by kernel_rfl
theorem Tryz.mk29 (p : Addr) (w : World) : (ReflectliteValue.mk 63 p ReflectliteValue.flagAddr).run Tryz.prog w = .ok (.agg #[.pointer (some ⟨13, 63, none⟩), .pointer (some p), .int .u64 406]) w := by kernel_rfl
theorem Tryz.parts29a (a : Addr) (w : World) : (ReflectliteValue.parts (.agg #[.pointer (some ⟨13, 63, none⟩), .pointer (some a), .int .u64 406])).run Tryz.prog w = .ok (some (63, a, 406)) w := by kernel_rfl
theorem Tryz.parts29 (a : Addr) (w : World) : (ReflectliteValue.parts (.agg #[.pointer (some ⟨13, 63, none⟩), .pointer (some a), .int .u64 150])).run Tryz.prog w = .ok (some (63, a, 150)) w := by kernel_rfl
theorem Tryz.direct29 (w : World) : (Rtype.directlyAssignable 63 63).run Tryz.prog w = .ok true w := by kernel_rfl

/-- Value.Elem at the Value of a pointer that is not nil. -/
theorem Tryz.elemV53 (a p : Addr) (W : World) (ha : W.cell? a = some (.pointer (some p))) :
    (callFunc 88 #[.agg #[.pointer (some ⟨13, 87, none⟩), .pointer (some a), .int .u64 150]]).run Tryz.prog W = .ok (.value (.agg #[.pointer (some ⟨13, 63, none⟩), .pointer (some p), .int .u64 406])) W := by
  rw [@run_callFunc_extern Tryz.prog 88 _ (ReflectliteValue.method (ReflectliteValue.valueError "reflectlite.Value.Elem" 0) ReflectliteValue.elem) Tryz.func88 (by kernel_rfl) (by kernel_rfl) (by kernel_rfl) (by kernel_rfl)]
  obtain ⟨K, hK, hm⟩ := value_method (ReflectliteValue.valueError "reflectlite.Value.Elem" 0) ReflectliteValue.elem (.agg #[.pointer (some ⟨13, 87, none⟩), .pointer (some a), .int .u64 150])
  rw [hm]
  simp only [Sem.run_bind, Tryz.parts53, Result.andThen, hK]
  simp [ReflectliteValue.elem, loadVar, isAgg, underlying, Tryz.underlying87, ha, Result.andThen, Tryz.elemOf53, Tryz.mk29]

/-- Value.Set: the variable at ta gets what the Value's own variable b holds. -/
theorem Tryz.set29 (ta b e : Addr) (old : Value) (W : World) (hb : W.cell? b = some (.pointer (some e))) (ht : W.cell? ta = some old) (hf : W.frozen? ta = false) :
    (callFunc 89 #[.agg #[.pointer (some ⟨13, 63, none⟩), .pointer (some ta), .int .u64 406], .agg #[.pointer (some ⟨13, 63, none⟩), .pointer (some b), .int .u64 150]]).run Tryz.prog W = .ok (.value (.tuple #[])) (W.setCell ta (.pointer (some e))) := by
  rw [@run_callFunc_extern Tryz.prog 89 _ ReflectliteValue.set Tryz.func89 (by kernel_rfl) (by kernel_rfl) (by kernel_rfl) (by kernel_rfl)]
  change (Sem.run Tryz.prog (ReflectliteValue.parts (.agg #[.pointer (some ⟨13, 63, none⟩), .pointer (some ta), .int .u64 406]) >>= fun o1 => ReflectliteValue.parts (.agg #[.pointer (some ⟨13, 63, none⟩), .pointer (some b), .int .u64 150]) >>= _) W).andThen _ = _
  simp only [Sem.run_bind, Tryz.parts29a, Tryz.parts29, Result.andThen]
  simp [ReflectliteValue.flagAddr, loadVar, isAgg, underlying, Tryz.underlying63, hb, Result.andThen, Tryz.direct29, storeVar, Value.cells, storeCells, Addr.add]
  rw [run_store Tryz.prog W ta _ _ (by rfl)]
  simp [ht, hf]

theorem Tryz.noIsF (v : Value) (xT : TypeId) (w : World) : (Instr.typeAssert (.iface 63 v) xT 150 true).run Tryz.prog w = .ok (.tuple #[.nilIface, .bool false]) w := run_typeAssert_lacksB Tryz.underlying150 (by kernel_rfl) (by kernel_rfl) v xT w
theorem Tryz.hasUnwrapF (v : Value) (xT : TypeId) (w : World) : (Instr.typeAssert (.iface 63 v) xT 147 true).run Tryz.prog w = .ok (.tuple #[.iface 63 v, .bool true]) w := run_typeAssert_hasB Tryz.underlying147 (by kernel_rfl) v xT w

set_option maxHeartbeats 1000000 in
set_option maxRecDepth 100000 in
/-- errors.Is of a Fault that wraps the target. -/
theorem is_wrap_same (pb : Nat) (b : Addr) (w : World) (h1 : w.cell? ⟨pb, 1, none⟩ = some (.iface 157 (.pointer (some b)))) :
    Calls Tryz.prog 44 #[.iface 63 (.pointer (some ⟨pb, 0, none⟩)), .iface 157 (.pointer (some b))] w fun e w' => e = .returned (.bool true) ∧ w' = w := by
  obtain ⟨i, hi, hcmp⟩ := Option.map_eq_some_iff.1 Tryz.isComp
  obtain ⟨j, hj, hjs⟩ := Option.map_eq_some_iff.1 Tryz.isSize
  have tT := Tryz.typeOf55
  have cT := Tryz.comparable55
  have nE := Tryz.noIsE
  have uE := Tryz.noUnwrapE
  have vE := Tryz.noUnwrapsE
  have nW := Tryz.noIsF
  have uW := Tryz.hasUnwrapF
  have heq := run_eql_iface_ptr_same (P := Tryz.prog) w b Tryz.underlying27 Tryz.underlying157 hi hcmp hj
  have hty := run_eql_iface_types (P := Tryz.prog) 63 157 (.pointer (some ⟨pb, 0, none⟩)) (.pointer (some b)) Tryz.underlying27 (by decide) w
  go_enter Tryz.func44, Tryz.ntmps44
  go_wp2
  refine wp_loop_rounds 2 ?_
  rw [rounds_succ]
  go_wp2
  rw [rounds_succ]
  go_wp2
  go_ret
  exact ⟨rfl, rfl⟩

set_option maxHeartbeats 1000000 in
set_option maxRecDepth 100000 in
/-- errors.Is of a Fault that wraps another error of errors.New's make. -/
theorem is_wrap_other (pb : Nat) (a b : Addr) (ca cb : Array Value) (ta tb : TypeId) (w : World) (h1 : w.cell? ⟨pb, 1, none⟩ = some (.iface 157 (.pointer (some a)))) (hne : a ≠ b) (ha : w.heap[a.block]? = some (.cells ca ta (0, 0))) (hb : w.heap[b.block]? = some (.cells cb tb (0, 0))) :
    Calls Tryz.prog 44 #[.iface 63 (.pointer (some ⟨pb, 0, none⟩)), .iface 157 (.pointer (some b))] w fun e w' => e = .returned (.bool false) ∧ w' = w := by
  obtain ⟨i, hi, hcmp⟩ := Option.map_eq_some_iff.1 Tryz.isComp
  obtain ⟨j, hj, hjs⟩ := Option.map_eq_some_iff.1 Tryz.isSize
  have tT := Tryz.typeOf55
  have cT := Tryz.comparable55
  have nE := Tryz.noIsE
  have uE := Tryz.noUnwrapE
  have vE := Tryz.noUnwrapsE
  have nW := Tryz.noIsF
  have uW := Tryz.hasUnwrapF
  have heq := run_eql_iface_ptr_other (P := Tryz.prog) w Tryz.underlying27 Tryz.underlying157 hi hcmp hj (by rw [hjs]; decide) hne ha hb
  have hty := run_eql_iface_types (P := Tryz.prog) 63 157 (.pointer (some ⟨pb, 0, none⟩)) (.pointer (some b)) Tryz.underlying27 (by decide) w
  go_enter Tryz.func44, Tryz.ntmps44
  go_wp2
  refine wp_loop_rounds 2 ?_
  rw [rounds_succ]
  go_wp2
  rw [rounds_succ]
  go_wp2
  go_ret
  exact ⟨rfl, rfl⟩

set_option maxHeartbeats 4000000 in
set_option maxRecDepth 100000 in
/-- errors.As of a Fault, the target a variable of type *api.Fault of the caller's own: true, and the variable points to it. -/
theorem as_hit (e : Addr) (t : Nat) (w : World) (ht : t < w.heap.size) (hg : w.cell? ⟨12, 0, none⟩ = some (.iface 140 (.agg #[.pointer (some ⟨13, 27, none⟩)]))) (ht0 : w.cell? ⟨t, 0, none⟩ = some (.pointer none)) (hf0 : w.frozen? ⟨t, 0, none⟩ = false) :
    Calls Tryz.prog 43 #[.iface 63 (.pointer (some e)), .iface 87 (.pointer (some ⟨t, 0, none⟩))] w fun ev w' => ev = .returned (.bool true) ∧ Below t w w' ∧ w'.cell? ⟨t, 0, none⟩ = some (.pointer (some e)) ∧ (∀ k, k < w.heap.size → k ≠ t → w'.heap[k]? = w.heap[k]?) := by
  have f6 := Tryz.valueOf53
  have f7 := Tryz.type53
  have k27 := Tryz.kind53
  have k25 := Tryz.kind29
  have e27 := Tryz.elem53
  have i25 := Tryz.implements29
  have tO := Tryz.typeOf29
  have a25 := Tryz.assignable29
  have v25 := Tryz.valueOf29
  have n8 := Tryz.isNil53 ⟨w.heap.size, 0, none⟩ ⟨t, 0, none⟩ ((w.alloc (.cells #[.pointer (some ⟨t, 0, none⟩)] 87)).alloc (.cells #[.pointer (some ⟨13, 87, none⟩), .pointer (some ⟨w.heap.size, 0, none⟩), .int .u64 150] 114)) (by simp)
  have hlt : 12 < w.heap.size := World.block_lt_of_cell? _ _ hg
  have hg2 : ((w.alloc (.cells #[.pointer (some ⟨t, 0, none⟩)] 87)).alloc (.cells #[.pointer (some ⟨13, 87, none⟩), .pointer (some ⟨w.heap.size, 0, none⟩), .int .u64 150] 114)).cell? ⟨12, 0, none⟩ = some (.iface 140 (.agg #[.pointer (some ⟨13, 27, none⟩)])) := by
    rw [World.cell?_alloc_lt _ _ ⟨12, 0, none⟩ (by simp; omega), World.cell?_alloc_lt _ _ ⟨12, 0, none⟩ hlt]; exact hg
  have el := Tryz.elemV53 ⟨w.heap.size, 0, none⟩ ⟨t, 0, none⟩ (((w.alloc (.cells #[.pointer (some ⟨t, 0, none⟩)] 87)).alloc (.cells #[.pointer (some ⟨13, 87, none⟩), .pointer (some ⟨w.heap.size, 0, none⟩), .int .u64 150] 114)).alloc (.cells #[.pointer (some ⟨13, 87, none⟩), .pointer (some ⟨w.heap.size, 0, none⟩), .int .u64 150] 114)) (by rw [World.cell?_alloc_lt _ _ ⟨w.heap.size, 0, none⟩ (by simp; omega)]; simp)
  have st := Tryz.set29 ⟨t, 0, none⟩ ⟨w.heap.size + 1 + 1 + 1, 0, none⟩ e (.pointer none) ((((w.alloc (.cells #[.pointer (some ⟨t, 0, none⟩)] 87)).alloc (.cells #[.pointer (some ⟨13, 87, none⟩), .pointer (some ⟨w.heap.size, 0, none⟩), .int .u64 150] 114)).alloc (.cells #[.pointer (some ⟨13, 87, none⟩), .pointer (some ⟨w.heap.size, 0, none⟩), .int .u64 150] 114)).alloc (.cells #[.pointer (some e)] 63))
    (by rw [World.cell?_alloc_at _ _ _ _ (by simp)]; rfl)
    (by rw [World.cell?_alloc_lt _ _ ⟨t, 0, none⟩ (by simp; omega), World.cell?_alloc_lt _ _ ⟨t, 0, none⟩ (by simp; omega), World.cell?_alloc_lt _ _ ⟨t, 0, none⟩ (by simp; omega), World.cell?_alloc_lt _ _ ⟨t, 0, none⟩ ht]; exact ht0)
    (by rw [World.frozen?_alloc_old _ _ ⟨t, 0, none⟩ (by simp; omega), World.frozen?_alloc_old _ _ ⟨t, 0, none⟩ (by simp; omega), World.frozen?_alloc_old _ _ ⟨t, 0, none⟩ (by simp; omega), World.frozen?_alloc_old _ _ ⟨t, 0, none⟩ (Nat.ne_of_lt ht)]; exact hf0)
  have hb : Below w.heap.size w ((((w.alloc (.cells #[.pointer (some ⟨t, 0, none⟩)] 87)).alloc (.cells #[.pointer (some ⟨13, 87, none⟩), .pointer (some ⟨w.heap.size, 0, none⟩), .int .u64 150] 114)).alloc (.cells #[.pointer (some ⟨13, 87, none⟩), .pointer (some ⟨w.heap.size, 0, none⟩), .int .u64 150] 114)).alloc (.cells #[.pointer (some e)] 63)) := by go_grown
  have Hb := hide hb
  clear hb
  go_enter Tryz.func43, Tryz.ntmps43
  go_wp2
  refine wp_loop_rounds 1 ?_
  rw [rounds_succ]
  go_wp2
  go_ret
  refine ⟨rfl, (Hb.out.mono (by omega)).setCell (by simp) _, World.cell?_setCell_same _ _ _ ((Hb.out.cell (p := ⟨t, 0, none⟩) ht).trans ht0), fun k hk hkt => ?_⟩
  rw [Below.heap_setCell _ _ _ _ (by simpa using hkt)]
  exact Hb.out.block k hk
end Go.Proofs.YtgogjncamjbajacGreatDoor

namespace Go.Proofs.YtgogjncamjbajacGreatDoor
open Go.RowKit

set_option maxHeartbeats 2000000 in
set_option maxRecDepth 100000 in
/-- An error of errors.New's make that is none of the twelve. -/
theorem code_other (x : Addr) (a : Nat → Addr) (cx : Array Value) (tx : TypeId) (w : World) (h : Sents w a) (hx : w.heap[x.block]? = some (.cells cx tx (0, 0))) (hne : ∀ k, k < 12 → x ≠ a k) :
    Calls Tryz.prog 27 #[.iface 157 (.pointer (some x))] w fun r w' => r = .returned (.tuple #[.int .i64 (-1), .int .i64 (-1)]) ∧ Below w.heap.size w w' := by
  have H := hide h
  have HNE := hide hne
  clear h hne
  have hxl : x.block < w.heap.size := (Array.getElem?_eq_some_iff.1 hx).1
  have hb0 : Below w.heap.size w (w.alloc (.cells #[.pointer none] 63)) := (Below.refl _ _).alloc (Nat.le_refl _) _
  have HA := hide (H.out.below hb0)
  have Hb0 := hide hb0
  have HX := hide hx
  clear hb0 hx
  go_enter Tryz.func27, Tryz.ntmps27
  go_wp2_with fail
  refine (as_miss x _ _ HA.out.handle).mono ?_
  rintro e w1 ⟨rfl, hb1⟩
  have H1 := hide (HA.out.below hb1)
  have Hb1 := hide (Hb0.out.trans (hb1.mono (by simp)))
  have h0 := H1.out.c0
  have h1 := H1.out.c1
  have h2 := H1.out.c2
  have h3 := H1.out.c3
  have h4 := H1.out.c4
  have h5 := H1.out.c5
  have h6 := H1.out.c6
  have h7 := H1.out.c7
  have h8 := H1.out.c8
  have h9 := H1.out.c9
  have h10 := H1.out.c10
  have h11 := H1.out.c11
  clear hb1 HA Hb0
  go_wp2_with fail
  clear h0 h1 h2 h3 h4 h5 h6 h7 h8 h9 h10 h11
  have hb2 : Below w1.heap.size w1 (w1.alloc (.cells (errList a) 27)) := (Below.refl _ _).alloc (Nat.le_refl _) _
  have h2 := H1.out.below hb2
  have hcl := errList_cell a w1
  have hB2 := Hb1.out.trans (hb2.mono Hb1.out.size)
  unfold errList at h2 hcl hB2
  generalize hw2 : w1.alloc (.cells #[.iface 157 (.pointer (some (a 0))), .iface 157 (.pointer (some (a 1))), .iface 157 (.pointer (some (a 2))), .iface 157 (.pointer (some (a 3))), .iface 157 (.pointer (some (a 4))), .iface 157 (.pointer (some (a 5))), .iface 157 (.pointer (some (a 6))), .iface 157 (.pointer (some (a 7))), .iface 157 (.pointer (some (a 8))), .iface 157 (.pointer (some (a 9))), .iface 157 (.pointer (some (a 10))), .iface 157 (.pointer (some (a 11)))] 27) = w2 at *
  have H2 := hide h2
  have Hcl := hide hcl
  have HB2 := hide hB2
  clear hw2 h2 hcl hB2 hb2 H1 Hb1
  have HX2 := hide ((HB2.out.block _ hxl).trans HX.out)
  go_loop [3, 30] (fun v3 v30 => ∃ j : Nat, j ≤ 12 ∧ v3 = .int .i64 (-1) ∧ v30 = .int .i64 j) (fun _ v30 => 12 - (intOf v30).toNat)
  case atStart => exact ⟨0, Nat.zero_le _, rfl, rfl⟩
  case round =>
    obtain ⟨j, hj, rfl, rfl⟩ := hrel
    by_cases hjk : j < 12
    · have hj12 : (j : Int) < 12 := by omega
      have hc := Hcl.out j hjk
      obtain ⟨c2, t2, hr2⟩ := H2.out.row j hjk
      have hne := HNE.out j hjk
      have Hr2 := hide hr2
      have Hne := hide hne
      clear hr2 hne
      go_wp2_with fail
      refine (is_other x (a j) cx c2 tx t2 _ Hne.out HX2.out Hr2.out).mono ?_
      rintro e w3 ⟨rfl, rfl⟩
      go_wp2
      go_round
      case rel => exact ⟨j + 1, by omega, rfl, by go_num⟩
      case measure => simp [intOf]; omega
    · have hj12 : (12 : Int) ≤ (j : Int) := by omega
      go_wp2_with fail
      go_ret2
      exact ⟨rfl, HB2.out⟩

set_option maxHeartbeats 2000000 in
set_option maxRecDepth 100000 in
/-- A Fault with its place, which wraps one of the twelve. -/
theorem code_fault (k : Nat) (hk : k < 12) (pl : Int) (pb : Nat) (a : Nat → Addr) (w : World) (h : Sents w a) (hf0 : w.cell? ⟨pb, 0, none⟩ = some (.int .i64 pl)) (hf1 : w.cell? ⟨pb, 1, none⟩ = some (.iface 157 (.pointer (some (a k))))) :
    Calls Tryz.prog 27 #[.iface 63 (.pointer (some ⟨pb, 0, none⟩))] w fun r w' => r = .returned (.tuple #[.int .i64 ((k : Int) + 1), .int .i64 pl]) ∧ Below w.heap.size w w' := by
  have H := hide h
  clear h
  have hpl : pb < w.heap.size := World.block_lt_of_cell? _ _ hf0
  have hb0 : Below w.heap.size w (w.alloc (.cells #[.pointer none] 63)) := (Below.refl _ _).alloc (Nat.le_refl _) _
  have HA := hide (H.out.below hb0)
  have Hb0 := hide hb0
  have HF0 := hide hf0
  have HF1 := hide hf1
  clear hb0 hf0 hf1
  go_enter Tryz.func27, Tryz.ntmps27
  go_wp2_with fail
  refine (as_hit ⟨pb, 0, none⟩ w.heap.size _ (by simp) HA.out.handle (by simp) (by simp)).mono ?_
  rintro e w1 ⟨rfl, hb1, hcell, hoth⟩
  have hb01 : Below w.heap.size w w1 := Hb0.out.trans hb1
  have H1 := hide (H.out.below hb01)
  have Hb1 := hide hb01
  have hg0 := (hb01.cell (p := ⟨pb, 0, none⟩) hpl).trans HF0.out
  have hg1 := (hb01.cell (p := ⟨pb, 1, none⟩) hpl).trans HF1.out
  have h0 := H1.out.c0
  have h1 := H1.out.c1
  have h2 := H1.out.c2
  have h3 := H1.out.c3
  have h4 := H1.out.c4
  have h5 := H1.out.c5
  have h6 := H1.out.c6
  have h7 := H1.out.c7
  have h8 := H1.out.c8
  have h9 := H1.out.c9
  have h10 := H1.out.c10
  have h11 := H1.out.c11
  clear hb1 HA Hb0 hb01 hoth
  go_wp2_with fail
  clear h0 h1 h2 h3 h4 h5 h6 h7 h8 h9 h10 h11
  have hb2 : Below w1.heap.size w1 (w1.alloc (.cells (errList a) 27)) := (Below.refl _ _).alloc (Nat.le_refl _) _
  have h2 := H1.out.below hb2
  have hcl := errList_cell a w1
  have hB2 := Hb1.out.trans (hb2.mono Hb1.out.size)
  have hg2 := (hb2.cell (p := ⟨pb, 1, none⟩) (World.block_lt_of_cell? _ _ hg1)).trans hg1
  unfold errList at h2 hcl hB2 hg2
  generalize hw2 : w1.alloc (.cells #[.iface 157 (.pointer (some (a 0))), .iface 157 (.pointer (some (a 1))), .iface 157 (.pointer (some (a 2))), .iface 157 (.pointer (some (a 3))), .iface 157 (.pointer (some (a 4))), .iface 157 (.pointer (some (a 5))), .iface 157 (.pointer (some (a 6))), .iface 157 (.pointer (some (a 7))), .iface 157 (.pointer (some (a 8))), .iface 157 (.pointer (some (a 9))), .iface 157 (.pointer (some (a 10))), .iface 157 (.pointer (some (a 11)))] 27) = w2 at *
  have H2 := hide h2
  have Hcl := hide hcl
  have HB2 := hide hB2
  have HG2 := hide hg2
  clear hw2 h2 hcl hB2 hb2 H1 Hb1 hg2 hg0 hg1 hcell
  go_loop [3, 30] (fun v3 v30 => ∃ j : Nat, j ≤ k ∧ v3 = .int .i64 pl ∧ v30 = .int .i64 j) (fun _ v30 => 12 - (intOf v30).toNat)
  case atStart => exact ⟨0, Nat.zero_le _, rfl, rfl⟩
  case round =>
    obtain ⟨j, hj, rfl, rfl⟩ := hrel
    have hj12 : (j : Int) < 12 := by omega
    have hc := Hcl.out j (by omega)
    by_cases hjk : j = k
    · subst hjk
      go_wp2_with fail
      refine (is_wrap_same pb (a j) _ HG2.out).mono ?_
      rintro e w3 ⟨rfl, rfl⟩
      go_wp2
      go_ret2
      exact ⟨rfl, HB2.out⟩
    · obtain ⟨c1, t1, hr1⟩ := H2.out.row k hk
      obtain ⟨c2, t2, hr2⟩ := H2.out.row j (by omega)
      have hne := H2.out.ne k j hk (by omega) (fun e => hjk e.symm)
      have Hr1 := hide hr1
      have Hr2 := hide hr2
      have Hne := hide hne
      have Hjk := hide hjk
      clear hr1 hr2 hne hjk
      go_wp2_with fail
      refine (is_wrap_other pb (a k) (a j) c1 c2 t1 t2 _ HG2.out Hne.out Hr1.out Hr2.out).mono ?_
      rintro e w3 ⟨rfl, rfl⟩
      go_wp2
      go_round
      case rel => exact ⟨j + 1, by have := Hjk.out; omega, rfl, by go_num⟩
      case measure => simp [intOf]; omega
end Go.Proofs.YtgogjncamjbajacGreatDoor

namespace Go.Proofs.YtgogjncamjbajacGreatDoor
open Go.RowKit
open Go.Sign (Blk)

/-- The three errors among the twelve. -/
def evOf (a : Nat → Addr) : EV := ⟨157, .pointer (some (a 0)), 157, .pointer (some (a 1)), 157, .pointer (some (a 7))⟩
theorem Sents.er {w : World} {a : Nat → Addr} (h : Sents w a) : Er (evOf a) w := ⟨h.c0, h.c1, h.c7⟩
theorem errV_sent {a : Nat → Addr} {c : Nat} (h : c = 1 ∨ c = 2 ∨ c = 8) : ∃ k, k < 12 ∧ c = k + 1 ∧ errV (evOf a) c = .iface 157 (.pointer (some (a k))) := by
  rcases h with rfl | rfl | rfl
  · exact ⟨0, by decide, rfl, rfl⟩
  · exact ⟨1, by decide, rfl, rfl⟩
  · exact ⟨7, by decide, rfl, rfl⟩

theorem coded_errV (a : Nat → Addr) (c : Nat) (w : World) (h : Sents w a) (hc : c = 0 ∨ c = 1 ∨ c = 2 ∨ c = 8) :
    Calls Tryz.prog 18 #[errV (evOf a) c, .int .i64 c] w fun r w' => r = .returned (.bool true) ∧ Below w.heap.size w w' := by
  rcases hc with rfl | hc
  · refine (coded_nil 0 w).mono ?_
    rintro r w' ⟨rfl, rfl⟩
    exact ⟨rfl, Below.refl _ _⟩
  · obtain ⟨k, hk, rfl, e⟩ := errV_sent (a := a) hc
    rw [e]
    refine (coded_sent k hk a _ w h).mono ?_
    rintro r w' ⟨rfl, hb⟩
    exact ⟨ret_bool (by simp), hb⟩

set_option maxHeartbeats 1000000 in
set_option maxRecDepth 100000 in
theorem faulted_zero (x : Value) (at_ fa : Int) (w : World) (h : ∀ W, Below w.heap.size w W → Calls Tryz.prog 27 #[x] W fun r w' => r = .returned (.tuple #[.int .i64 0, .int .i64 at_]) ∧ Below W.heap.size W w') :
    Calls Tryz.prog 9 #[x, .agg #[.int .i64 0, .int .i64 fa]] w fun r w' => r = .returned (.bool true) ∧ Below w.heap.size w w' := by
  have HC := hide h
  clear h
  have hb0 : Below w.heap.size w (w.alloc (.cells #[.int .i64 0, .int .i64 fa] 32)) := (Below.refl _ _).alloc (Nat.le_refl _) _
  have Hb0 := hide hb0
  have Hq0 := hide (HvAt.fresh w 0 fa 32)
  clear hb0
  go_enter Tryz.func9, Tryz.ntmps9
  go_wp2_with fail
  refine (HC.out _ Hb0.out).mono ?_
  rintro r w1 ⟨rfl, hb1⟩
  have Hb1 := hide (Hb0.out.trans (hb1.mono (by simp)))
  have hq1 := Hq0.out.below hb1 Hq0.out.lt
  clear hb1 Hb0 Hq0
  obtain ⟨q0, q1, p0, p1, lt⟩ := hq1
  go_wp2
  go_ret
  exact ⟨rfl, Hb1.out⟩

set_option maxHeartbeats 1000000 in
set_option maxRecDepth 100000 in
theorem faulted_at (x : Value) (c at_ : Int) (w : World) (hc : c ≠ 0) (h : ∀ W, Below w.heap.size w W → Calls Tryz.prog 27 #[x] W fun r w' => r = .returned (.tuple #[.int .i64 c, .int .i64 at_]) ∧ Below W.heap.size W w') :
    Calls Tryz.prog 9 #[x, .agg #[.int .i64 c, .int .i64 at_]] w fun r w' => r = .returned (.bool true) ∧ Below w.heap.size w w' := by
  have HC := hide h
  clear h
  have hc' : (c == 0) = false := by simpa using hc
  clear hc
  have hb0 : Below w.heap.size w (w.alloc (.cells #[.int .i64 c, .int .i64 at_] 32)) := (Below.refl _ _).alloc (Nat.le_refl _) _
  have Hb0 := hide hb0
  have Hq0 := hide (HvAt.fresh w c at_ 32)
  clear hb0
  go_enter Tryz.func9, Tryz.ntmps9
  go_wp2_with fail
  refine (HC.out _ Hb0.out).mono ?_
  rintro r w1 ⟨rfl, hb1⟩
  have Hb1 := hide (Hb0.out.trans (hb1.mono (by simp)))
  have hq1 := Hq0.out.below hb1 Hq0.out.lt
  clear hb1 Hb0 Hq0
  obtain ⟨q0, q1, p0, p1, lt⟩ := hq1
  go_wp2
  go_ret
  exact ⟨rfl, Hb1.out⟩

theorem fault_code (l : List Blk) (k : Int) : (Go.Sign.fault l k).1 = 0 ∨ (Go.Sign.fault l k).1 = 2 ∨ (Go.Sign.fault l k).1 = 8 := by
  unfold Go.Sign.fault
  split
  · split
    · exact Or.inl rfl
    · rename_i i c h
      exact Or.inr (Go.Sign.scanW_code _ _ _ _ _ h).1
  · exact Or.inr (Or.inl rfl)

/-- Check's error is the document's fault. -/
theorem check_then (u : Value) (l : List Blk) (k : Int) (a : Nat → Addr) (w : World) (hu : RowIn w u l) (hl : l.length ≤ 1000000) (hS : Sents w a) :
    Calls Tryz.prog 21 #[u, .int .i64 k] w fun r w' => (∃ x, r = .returned x ∧ ∀ W, Below w'.heap.size w' W → Calls Tryz.prog 9 #[x, .agg #[.int .i64 (Go.Sign.fault l k).1, .int .i64 (Go.Sign.fault l k).2]] W fun r W' => r = .returned (.bool true) ∧ Below W.heap.size W W') ∧ Below w.heap.size w w' := by
  refine (check_ok u l k (evOf a) w hu hl hS.er).mono ?_
  rintro r w' ⟨hr, hb⟩
  refine ⟨?_, hb⟩
  have hcode := fault_code l k
  generalize Go.Sign.fault l k = f at *
  obtain ⟨c, at_⟩ := f
  simp only at hcode ⊢
  have hS' := hS.below hb
  unfold CheckRes at hr
  by_cases hc : c = 0
  · subst hc
    rw [if_pos (Or.inl rfl)] at hr
    refine ⟨_, hr, fun W hW => ?_⟩
    exact faulted_zero .nilIface (-1) at_ W (fun W' _ => (code_nil W').mono fun _ _ ⟨h1, h2⟩ => ⟨h1, by rw [h2]; exact Below.refl _ _⟩)
  · obtain ⟨j, hj, hcj, e⟩ := errV_sent (a := a) (c := c) (by omega)
    have hci : (c : Int) = (j : Int) + 1 := by omega
    by_cases ha : at_ = -1
    · subst ha
      rw [if_pos (Or.inr rfl)] at hr
      refine ⟨_, hr, fun W hW => ?_⟩
      simp only
      rw [e]
      refine faulted_at _ c (-1) W (by omega) (fun W' hW' => ?_)
      rw [hci]
      exact code_sent j hj a W' ((hS'.below hW).below hW')
    · rw [if_neg (by simp only [not_or]; exact ⟨hc, ha⟩)] at hr
      obtain ⟨p, hr, hp, c0, c1⟩ := hr
      refine ⟨_, hr, fun W hW => ?_⟩
      simp only at c0 c1
      rw [e] at c1
      refine faulted_at _ c at_ W (by omega) (fun W' hW' => ?_)
      rw [hci]
      have d0 := (hW.cell (World.block_lt_of_cell? _ _ c0)).trans c0
      have d1 := (hW.cell (World.block_lt_of_cell? _ _ c1)).trans c1
      exact code_fault j hj at_ p a W' ((hS'.below hW).below hW') ((hW'.cell (World.block_lt_of_cell? _ _ d0)).trans d0) ((hW'.cell (World.block_lt_of_cell? _ _ d1)).trans d1)

end Go.Proofs.YtgogjncamjbajacGreatDoor
