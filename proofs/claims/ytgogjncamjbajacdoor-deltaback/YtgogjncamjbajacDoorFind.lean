/-
  Contracts of slices.Index at blocks, and of sign.Find, over this dump.
-/
import Derived.Test.YtgogjncamjbajacDoorRowIn
namespace Go.Proofs.YtgogjncamjbajacDoor
open Go.RowKit
open Go.Sign (Blk)

/-- The place of the first one from place j on (-1: none). -/
def findFrom (b : Blk) : List Blk → Nat → Int
  | [], _ => -1
  | x :: r, j => if x = b then j else findFrom b r (j + 1)
def findOut (l : List Blk) (b : Blk) : Int := findFrom b l 0
theorem find_step (b : Blk) (l : List Blk) (j : Nat) (h : j < l.length) : findFrom b (l.drop j) j = if l[j] = b then (j : Int) else findFrom b (l.drop (j + 1)) (j + 1) := by
  rw [List.drop_eq_getElem_cons h, findFrom]
theorem bval_eq (a b : Blk) : a = b ↔ a.n = b.n ∧ a.weak = b.weak ∧ a.strong = b.strong := by
  cases a; cases b; simp

theorem Tryd.blkGuard : Tryd.prog.eqGuardType Tryd.prog.depth 43 = false := by kernel_rfl
theorem Tryd.blkHeld : Tryd.prog.stoodInHeld 43 = false := by kernel_rfl
set_option maxRecDepth 100000 in
/-- Blocks held against one another. -/
theorem blk_eql (a b : Blk) (w : World) : (binOp .eql 43 (.agg #[.int .i64 a.n, .int .i64 a.weak, .int .u32 a.strong]) (.agg #[.int .i64 b.n, .int .i64 b.weak, .int .u32 b.strong])).run Tryd.prog w = .ok (.bool (decide (a = b))) w := by
  have hf : Tryd.prog.fieldsOf 43 = (match Tryd.prog.underlying 43 with | some (.struct fs) => fs | _ => #[]) := rfl
  rw [Tryd.underlying43] at hf
  simp only at hf
  rw [run_eql_struct, run_equalIn_struct _ _ _ _ _ (by rw [hf]; exact Tryd.underlying43) Tryd.blkHeld, hf]
  have e : decide (a = b) = (a.n == b.n && (a.weak == b.weak && a.strong == b.strong)) := by
    rw [Bool.eq_iff_iff]; simp [bval_eq]
  rw [e]
  simp only [Op.eqFields]
  go_simp
  by_cases h1 : a.n = b.n
  · by_cases h2 : a.weak = b.weak
    · by_cases h3 : a.strong = b.strong
      · have h3' : (a.strong : Int) = b.strong := by omega
        simp [h1, h2, h3]
      · have h3' : ¬ (a.strong : Int) = b.strong := by omega
        simp [h1, h2, h3, h3']
    · simp [h1, h2]
  · simp [h1]

set_option maxHeartbeats 2000000 in
set_option maxRecDepth 100000 in
theorem index_ok (v : Value) (l : List Blk) (b : Blk) (w : World) (hv : RowIn w v l) (hl : l.length ≤ 1000000) :
    Calls Tryd.prog 25 #[v, bval b] w fun r w' => r = .returned (.int .i64 (findOut l b)) ∧ Below w.heap.size w w' := by
  obtain ⟨a, c, rfl, hv⟩ := hv
  have HV := hide hv
  have hl' : (l.length : Int) ≤ 1000000 := by omega
  clear hv
  unfold bval findOut
  generalize hR : findFrom b l 0 = R
  have HR := hide hR
  clear hR
  go_enter Tryd.func25, Tryd.ntmps25
  go_wp2_with fail
  have hb0 : Below w.heap.size w (w.alloc (.cells #[.int .i64 b.n, .int .i64 b.weak, .int .u32 b.strong] 43)) := (Below.refl _ _).alloc (Nat.le_refl _) _
  have Hq := hide (BkAt.fresh w b 43)
  have Hb := hide hb0
  clear hb0
  go_loopw [8] (fun t wr => ∃ j : Nat, t = .int .i64 j ∧ j ≤ l.length ∧ Hid (findFrom b (l.drop j) j = R) ∧ Hid (BkAt w.heap.size wr b) ∧ Hid (Below w.heap.size w wr)) (fun t _ => l.length - (intOf t).toNat)
  case atStart => exact ⟨0, rfl, by omega, HR.out, Hq.out, Hb.out⟩
  case round =>
    clear HR Hq Hb
    obtain ⟨j, rfl, hj, Hf, Hq, Hb⟩ := hrel
    by_cases hlt : j < l.length
    · have hlt' : (j : Int) < l.length := by omega
      obtain ⟨g, o, rfl, hc⟩ := HV.out (by omega)
      obtain ⟨c0, c1, c2⟩ := hc j hlt
      have d0 := (Hb.out.cell (World.block_lt_of_cell? _ _ c0)).trans c0
      have d1 := (Hb.out.cell (World.block_lt_of_cell? _ _ c1)).trans c1
      have d2 := (Hb.out.cell (World.block_lt_of_cell? _ _ c2)).trans c2
      have Hs := hide (find_step b l j hlt)
      rw [Hf.out] at Hs
      have Heq := hide (bval_eq l[j] b)
      clear hc c0 c1 c2
      generalize l[j] = x at *
      obtain ⟨q0, q1, q2, _, _, _, _⟩ := Hq.out
      have hE := blk_eql b x
      have hG := Tryd.blkGuard
      by_cases hx : b = x
      · have hR : R = (j : Int) := by rw [Hs.out, if_pos hx.symm]
        rw [show decide (b = x) = true from decide_eq_true hx] at hE
        clear hx Hs
        subst hR
        go_wp2_with fail
        go_quiet (fail)
        go_wp2
        go_ret
        exact ⟨rfl, Hb.out.trans ⟨rfl, rfl, rfl, Nat.le_refl _, fun _ _ => rfl⟩⟩
      · have Hn : Hid (findFrom b (l.drop (j + 1)) (j + 1) = R) := by rw [Hs.out, if_neg (fun e => hx e.symm)]; exact rfl
        rw [show decide (b = x) = false from decide_eq_false hx] at hE
        clear hx Hs
        go_wp2_with fail
        go_quiet (fail)
        go_wp2
        go_roundw
        case rel => exact ⟨j + 1, by go_num, by omega, Hn.out, ⟨Hq.out.c0, Hq.out.c1, Hq.out.c2, Hq.out.f0, Hq.out.f1, Hq.out.f2, Hq.out.lt⟩, Hb.out.trans ⟨rfl, rfl, rfl, Nat.le_refl _, fun _ _ => rfl⟩⟩
        case measure => simp [intOf]; omega
    · have hle : (l.length : Int) ≤ (j : Int) := by omega
      have hR : R = -1 := by rw [← Hf.out, List.drop_eq_nil_of_le (by omega), findFrom]
      subst hR
      go_wp2_with fail
      go_ret
      exact ⟨rfl, Hb.out⟩

set_option maxHeartbeats 1000000 in
set_option maxRecDepth 100000 in
theorem find_ok (v : Value) (l : List Blk) (s : ByteArray) (w : World) (hv : RowIn w v l) (hl : l.length ≤ 1000000) (hs : s.size ≤ 1000000) :
    Calls Tryd.prog 17 #[v, .string s] w fun r w' => r = .returned (.int .i64 (findOut l (blk s.data.toList))) ∧ Below w.heap.size w w' := by
  have HB := hide (fun W => blockOf_ok s W hs)
  have HI := hide (fun W (h : Below w.heap.size w W) => index_ok v l (blk s.data.toList) W (hv.below h) hl)
  obtain ⟨a, c, rfl, _⟩ := hv
  unfold bval at HB HI
  generalize blk s.data.toList = b at *
  go_enter Tryd.func17, Tryd.ntmps17
  go_wp2_with fail
  refine (HB.out _).mono ?_
  rintro r w1 ⟨rfl, hb1⟩
  have Hb1 := hide hb1
  clear hb1
  go_wp2_with fail
  refine (HI.out _ Hb1.out).mono ?_
  rintro r w2 ⟨rfl, hb2⟩
  have Hb2 := hide (bthen Hb1.out hb2)
  clear hb2
  go_wp2
  go_ret
  exact ⟨rfl, Hb2.out⟩
end Go.Proofs.YtgogjncamjbajacDoor
