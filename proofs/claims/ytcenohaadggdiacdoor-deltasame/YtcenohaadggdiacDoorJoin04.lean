/-
  What the row's condition on the two errors' variables gives the walk; the door's own heap meets it.
  Contract of delta.weakSums over this dump: the set of the blocks' weak sums.
  Contracts of slices.Index at blocks, and of sign.Find, over this dump.
  Contracts of isLength, drop and roll of the halves of a sum that rolls (package weak) over this dump.
  The halves of a sum that rolls, slid by one.
-/
import Derived.Test.YtcenohaadggdiacDoorJoin01
import Derived.Test.YtcenohaadggdiacDoorJoin03
import Derived.Maps.OwnSet
import Derived.Test.YtcenohaadggdiacDoorJoin02
import Derived.Deep.RegionHeld3
import Derived.Deep.RegionWith
namespace Go.Proofs.YtcenohaadggdiacDoor
open Go.ChangeShapes Go.WideShapes Go.ChangeAt Go.RowKit

theorem Tryd.gFull : Tryd.prog.globalNamed "packhorse/api.ErrFull" = some 3 := by kernel_rfl
theorem Tryd.tFull : (Tryd.prog.globals[3]?).map (·.type) = some 26 := by kernel_rfl
abbrev laid2 : List (String × DataW Unit) := [("packhorse/api.ErrBound", Rows.laid_packhorse_api_ErrBound), ("packhorse/api.ErrFull", Rows.laid_packhorse_api_ErrFull)]

theorem er2_of_laid {W : World} (h : laidMetH Tryd.prog laid2 W) : ∃ e, Er2 e W := by
  rw [MakeChecks.laidMetH_plain _ _ _ (by kernel_rfl)] at h
  obtain ⟨a1, _, hv1, _⟩ := laid_sentinel h Tryd.gBound Tryd.tBound Tryd.underlying26 Tryd.row161 Tryd.underlying161 Tryd.underlying179 rfl rfl Tryd.underlying9 Tryd.cells179 Tryd.cells9
  obtain ⟨a2, _, hv2, _⟩ := laid_sentinel h.tail Tryd.gFull Tryd.tFull Tryd.underlying26 Tryd.row161 Tryd.underlying161 Tryd.underlying179 rfl rfl Tryd.underlying9 Tryd.cells179 Tryd.cells9
  exact ⟨⟨0, .nilIface, _, _, _, _⟩, by simpa using World.var?_cell Tryd.gBound hv1 0, by simpa using World.var?_cell Tryd.gFull hv2 0⟩

theorem door_met2 (os : Os) (args : Array Value) : laidMetH Tryd.prog laid2 ((World.doorLaid Tryd.prog 400 os).forCall (fun _ _ => 0) ⟨#[], args, []⟩).memory :=
  laidMetH_of_parts3 (fuel := 8) (laidMet_of_run' 8 (by kernel_rfl) (by kernel_rfl)) (by kernel_rfl) (by kernel_rfl)
end Go.Proofs.YtcenohaadggdiacDoor

namespace Go.Proofs.YtcenohaadggdiacDoor
open Go.RowKit Go.Maps
open Go.Sign (Blk)

/-- The set of the weak sums of these blocks. -/
def wset (l : List Blk) : DataW Unit := setOf (.agg []) (l.map fun b => Lit.int .i64 b.weak)
theorem wset_snoc (l : List Blk) (b : Blk) : wset (l ++ [b]) = (wset l).put (.int .i64 b.weak) (.agg []) := by
  unfold wset
  rw [List.map_append, List.map_singleton, setOf_snoc]
theorem any_weak (x : Int) : ∀ l : List Blk, l.any ((fun y : Lit => y.sameKey (.int .i64 x)) ∘ fun b => Lit.int .i64 b.weak) = l.any fun b => b.weak == x
  | [] => rfl
  | a :: r => by
    rw [List.any_cons, List.any_cons, any_weak x r]
    congr 1
    show decide (IntKind.i64 = IntKind.i64 ∧ a.weak = x) = (a.weak == x)
    by_cases e : a.weak = x
    · simp [e]
    · simp [e]
/-- A sum is known just if a block has it. -/
theorem has_wset (l : List Blk) (x : Int) : Maps.has (wset l) (.int .i64 x) = l.any fun b => b.weak == x := by
  unfold wset
  rw [has_setOf _ _ _ (fun y hy => by obtain ⟨_, _, rfl⟩ := List.mem_map.1 hy; trivial), List.any_map]
  exact any_weak x _

theorem Tryd.keyInt : Keyed Tryd.prog 3 := int_keyed Tryd.underlying3
theorem Tryd.zeroUnit (w : World) : (zeroValue 121).run Tryd.prog w = .ok (.agg #[]) w := by kernel_rfl

theorem makeMap_hint (n : Int) (w : World) : (Instr.makeMap 119 (some (.int .i64 n))).run Tryd.prog w = .ok (.map (some w.heap.size)) (w.alloc (.map #[] 0)) := by
  simp [Instr.makeMap, run_underlying Tryd.underlying119, asInt, asIntOf, Result.andThen]

set_option maxHeartbeats 1000000 in
set_option maxRecDepth 100000 in
theorem weakSums_ok (v : Value) (l : List Blk) (w : World) (hv : RowIn w v l) (hl : l.length ≤ 1000000) (hw : ∀ b ∈ l, 0 ≤ b.weak ∧ b.weak < 4294967296) :
    Calls Tryd.prog 77 #[v] w fun r w' => r = .returned (.map (some w.heap.size)) ∧ w'.ownsMap Tryd.prog 3 unitElem w.heap.size l.length (wset l) ∧ Below w.heap.size w w' := by
  obtain ⟨a, c, rfl, hv⟩ := hv
  have HV := hide hv
  have HW := hide hw
  have hl' : (l.length : Int) ≤ 1000000 := by omega
  clear hv hw
  have hmm := makeMap_hint
  go_enter Tryd.func77, Tryd.ntmps77
  go_wp2_with fail
  go_loopw [11] (fun t wr => ∃ j : Nat, t = .int .i64 j ∧ j ≤ l.length ∧ Hid (wr.ownsMap Tryd.prog 3 unitElem w.heap.size j (wset (l.take j))) ∧ Hid (Below w.heap.size w wr)) (fun t _ => l.length - (intOf t).toNat)
  case atStart => exact ⟨0, rfl, by omega, World.ownsMap_made _ _ _ _, (Below.refl _ _).alloc (Nat.le_refl _) _⟩
  case round =>
    obtain ⟨j, rfl, hj, Hm, Hb⟩ := hrel
    by_cases hlt : j < l.length
    · have hlt' : (j : Int) < l.length := by omega
      obtain ⟨b, o, rfl, hc⟩ := HV.out (by omega)
      obtain ⟨c0, c1, c2⟩ := hc j hlt
      have d0 := (Hb.out.cell (World.block_lt_of_cell? _ _ c0)).trans c0
      have d1 := (Hb.out.cell (World.block_lt_of_cell? _ _ c1)).trans c1
      have d2 := (Hb.out.cell (World.block_lt_of_cell? _ _ c2)).trans c2
      have hwb := HW.out l[j] (List.getElem_mem hlt)
      have Hsn := hide (List.take_succ_eq_append_getElem hlt)
      have hkey : keyOf Tryd.prog 3 (.int .i64 l[j].weak) = some (.int .i64 l[j].weak) := keyOf_int_mk Tryd.underlying3 (WalkArith.wf_i64 (by omega))
      have Hkey := hide hkey
      clear hc c0 c1 c2 hkey
      generalize l[j] = bk at *
      have h0 := hwb.1
      have h1 := hwb.2
      clear hwb
      have Hma := hide (Hm.out.alloc (.cells #[.int .i64 bk.n, .int .i64 bk.weak, .int .u32 bk.strong] 55))
      go_wp2_with (first
        | (at_mapUpdate; refine wpList_mapUpdate_own _ rfl _ _ _ 119 rfl 3 121 Tryd.keyInt Tryd.underlying119 (unitElem (H := Unit)) w.heap.size j _ rfl Hma.out (by unfold maxLen; omega) _ _ _ rfl rfl Hkey.out _ [] unitElem_mk ?_; intro w1 hown1 hgrow1; have Hown1 := hide hown1; have Hg1 := hide hgrow1; clear hown1 hgrow1))
      all_goals
        go_roundw
        case rel =>
          refine ⟨j + 1, by go_num, by omega, ?_, ?_⟩
          · rw [Hsn.out, wset_snoc]; exact Hown1.out
          · exact (Hb.out.alloc Hb.out.size _).grown Hg1.out (by have := Hb.out.size; simp; omega) (fun k hk => by cases hk; exact Nat.le_refl _)
        case measure => simp [intOf]; omega
    · have hle : (l.length : Int) ≤ (j : Int) := by omega
      have he : j = l.length := by omega
      go_wp2_with fail
      go_ret
      refine ⟨rfl, ?_, Hb.out⟩
      have h := Hm.out
      rw [List.take_of_length_le (by omega), he] at h
      exact h
end Go.Proofs.YtcenohaadggdiacDoor

namespace Go.Proofs.YtcenohaadggdiacDoor
open Go.RowKit
open Go.Sign (Blk)

/-- The place of the first one from place j on (-1: none). -/
def findFrom (b : Blk) : List Blk → Nat → Int
  | [], _ => -1
  | x :: r, j => if x = b then j else findFrom b r (j + 1)
def findOut (l : List Blk) (b : Blk) : Int := findFrom b l 0
theorem find_step (b : Blk) (l : List Blk) (j : Nat) (h : j < l.length) : findFrom b (l.drop j) j = if l[j] = b then (j : Int) else findFrom b (l.drop (j + 1)) (j + 1) := by
  rw [List.drop_eq_getElem_cons h, findFrom]
theorem bval_eq (a b : Blk) : a = b ↔ a.n = b.n ∧ a.weak = b.weak ∧ a.strong = b.strong := by
  cases a; cases b; simp

theorem Tryd.blkGuard : Tryd.prog.eqGuardType Tryd.prog.depth 55 = false := by kernel_rfl
theorem Tryd.blkHeld : Tryd.prog.stoodInHeld 55 = false := by kernel_rfl
set_option maxRecDepth 100000 in
/-- Blocks held against one another. -/
theorem blk_eql (a b : Blk) (w : World) : (binOp .eql 55 (.agg #[.int .i64 a.n, .int .i64 a.weak, .int .u32 a.strong]) (.agg #[.int .i64 b.n, .int .i64 b.weak, .int .u32 b.strong])).run Tryd.prog w = .ok (.bool (decide (a = b))) w := by
  have hf : Tryd.prog.fieldsOf 55 = (match Tryd.prog.underlying 55 with | some (.struct fs) => fs | _ => #[]) := rfl
  rw [Tryd.underlying55] at hf
  simp only at hf
  rw [run_eql_struct, run_equalIn_struct _ _ _ _ _ (by rw [hf]; exact Tryd.underlying55) Tryd.blkHeld, hf]
  have e : decide (a = b) = (a.n == b.n && (a.weak == b.weak && a.strong == b.strong)) := by
    rw [Bool.eq_iff_iff]; simp [bval_eq]
  rw [e]
  simp only [Op.eqFields]
  go_simp
  by_cases h1 : a.n = b.n
  · by_cases h2 : a.weak = b.weak
    · by_cases h3 : a.strong = b.strong
      · have h3' : (a.strong : Int) = b.strong := by omega
        simp [h1, h2, h3]
      · have h3' : ¬ (a.strong : Int) = b.strong := by omega
        simp [h1, h2, h3, h3']
    · simp [h1, h2]
  · simp [h1]

set_option maxHeartbeats 2000000 in
set_option maxRecDepth 100000 in
theorem index_ok (v : Value) (l : List Blk) (b : Blk) (w : World) (hv : RowIn w v l) (hl : l.length ≤ 1000000) :
    Calls Tryd.prog 48 #[v, bval b] w fun r w' => r = .returned (.int .i64 (findOut l b)) ∧ Below w.heap.size w w' := by
  obtain ⟨a, c, rfl, hv⟩ := hv
  have HV := hide hv
  have hl' : (l.length : Int) ≤ 1000000 := by omega
  clear hv
  unfold bval findOut
  generalize hR : findFrom b l 0 = R
  have HR := hide hR
  clear hR
  go_enter Tryd.func48, Tryd.ntmps48
  go_wp2_with fail
  have hb0 : Below w.heap.size w (w.alloc (.cells #[.int .i64 b.n, .int .i64 b.weak, .int .u32 b.strong] 55)) := (Below.refl _ _).alloc (Nat.le_refl _) _
  have Hq := hide (BkAt.fresh w b 55)
  have Hb := hide hb0
  clear hb0
  go_loopw [8] (fun t wr => ∃ j : Nat, t = .int .i64 j ∧ j ≤ l.length ∧ Hid (findFrom b (l.drop j) j = R) ∧ Hid (BkAt w.heap.size wr b) ∧ Hid (Below w.heap.size w wr)) (fun t _ => l.length - (intOf t).toNat)
  case atStart => exact ⟨0, rfl, by omega, HR.out, Hq.out, Hb.out⟩
  case round =>
    clear HR Hq Hb
    obtain ⟨j, rfl, hj, Hf, Hq, Hb⟩ := hrel
    by_cases hlt : j < l.length
    · have hlt' : (j : Int) < l.length := by omega
      obtain ⟨g, o, rfl, hc⟩ := HV.out (by omega)
      obtain ⟨c0, c1, c2⟩ := hc j hlt
      have d0 := (Hb.out.cell (World.block_lt_of_cell? _ _ c0)).trans c0
      have d1 := (Hb.out.cell (World.block_lt_of_cell? _ _ c1)).trans c1
      have d2 := (Hb.out.cell (World.block_lt_of_cell? _ _ c2)).trans c2
      have Hs := hide (find_step b l j hlt)
      rw [Hf.out] at Hs
      have Heq := hide (bval_eq l[j] b)
      clear hc c0 c1 c2
      generalize l[j] = x at *
      obtain ⟨q0, q1, q2, _, _, _, _⟩ := Hq.out
      have hE := blk_eql b x
      have hG := Tryd.blkGuard
      by_cases hx : b = x
      · have hR : R = (j : Int) := by rw [Hs.out, if_pos hx.symm]
        rw [show decide (b = x) = true from decide_eq_true hx] at hE
        clear hx Hs
        subst hR
        go_wp2_with fail
        go_quiet (fail)
        go_wp2
        go_ret
        exact ⟨rfl, Hb.out.trans ⟨rfl, rfl, rfl, Nat.le_refl _, fun _ _ => rfl⟩⟩
      · have Hn : Hid (findFrom b (l.drop (j + 1)) (j + 1) = R) := by rw [Hs.out, if_neg (fun e => hx e.symm)]; exact rfl
        rw [show decide (b = x) = false from decide_eq_false hx] at hE
        clear hx Hs
        go_wp2_with fail
        go_quiet (fail)
        go_wp2
        go_roundw
        case rel => exact ⟨j + 1, by go_num, by omega, Hn.out, ⟨Hq.out.c0, Hq.out.c1, Hq.out.c2, Hq.out.f0, Hq.out.f1, Hq.out.f2, Hq.out.lt⟩, Hb.out.trans ⟨rfl, rfl, rfl, Nat.le_refl _, fun _ _ => rfl⟩⟩
        case measure => simp [intOf]; omega
    · have hle : (l.length : Int) ≤ (j : Int) := by omega
      have hR : R = -1 := by rw [← Hf.out, List.drop_eq_nil_of_le (by omega), findFrom]
      subst hR
      go_wp2_with fail
      go_ret
      exact ⟨rfl, Hb.out⟩

set_option maxHeartbeats 1000000 in
set_option maxRecDepth 100000 in
theorem find_ok (v : Value) (l : List Blk) (s : ByteArray) (w : World) (hv : RowIn w v l) (hl : l.length ≤ 1000000) (hs : s.size ≤ 1000000) :
    Calls Tryd.prog 30 #[v, .string s] w fun r w' => r = .returned (.int .i64 (findOut l (blk s.data.toList))) ∧ Below w.heap.size w w' := by
  have HB := hide (fun W => blockOf_ok s W hs)
  have HI := hide (fun W (h : Below w.heap.size w W) => index_ok v l (blk s.data.toList) W (hv.below h) hl)
  obtain ⟨a, c, rfl, _⟩ := hv
  unfold bval at HB HI
  generalize blk s.data.toList = b at *
  go_enter Tryd.func30, Tryd.ntmps30
  go_wp2_with fail
  refine (HB.out _).mono ?_
  rintro r w1 ⟨rfl, hb1⟩
  have Hb1 := hide hb1
  clear hb1
  go_wp2_with fail
  refine (HI.out _ Hb1.out).mono ?_
  rintro r w2 ⟨rfl, hb2⟩
  have Hb2 := hide (bthen Hb1.out hb2)
  clear hb2
  go_wp2
  go_ret
  exact ⟨rfl, Hb2.out⟩
end Go.Proofs.YtcenohaadggdiacDoor

namespace Go.Proofs.YtcenohaadggdiacDoor
open Go.RowKit

theorem isLength_ok (n : Int) (w : World) : Calls Tryd.prog 94 #[.int .i64 n] w fun r w' => r = .returned (.bool (decide (1 ≤ n ∧ n ≤ 4000))) ∧ w' = w := by
  by_cases h0 : 1 ≤ n
  · go_enter Tryd.func94, Tryd.ntmps94
    go_wp2
    go_ret
    exact ⟨ret_bool (by simp [h0]), rfl⟩
  · have h0' : decide (1 ≤ n) = false := by simp; omega
    go_enter Tryd.func94, Tryd.ntmps94
    go_wp2
    go_ret
    exact ⟨ret_bool (by simp), rfl⟩

set_option maxHeartbeats 1000000 in
theorem hdrop_ok (a b n x : Int) (w : World) (a0 : 0 ≤ a) (a1 : a < 65536) (b0 : 0 ≤ b) (b1 : b < 65536) (n0 : 0 ≤ n) (n1 : n ≤ 4000) (x0 : 0 ≤ x) (x1 : x < 256) : Calls Tryd.prog 100 #[hv a b, .int .i64 n, .int .u8 x] w fun r w' => r = .returned (hv ((a - x) % 65536) ((b - n * x) % 65536)) ∧ Below w.heap.size w w' := by
  have hm0 : 0 ≤ n * x := Int.mul_nonneg n0 x0
  have hm1 : n * x ≤ 4000 * 256 := Int.mul_le_mul n1 (by omega) x0 (by omega)
  have e1 : IntKind.i64.wrap x = x := iwrap_id _ (by omega) (by omega)
  have e2 : IntKind.i64.wrap (a - x) = a - x := iwrap_id _ (by omega) (by omega)
  have e3 : IntKind.i64.wrap (n * x) = n * x := iwrap_id _ (by omega) (by omega)
  have e4 : IntKind.i64.wrap (b - n * x) = b - n * x := iwrap_id _ (by omega) (by omega)
  have E := hide (And.intro e1 (And.intro e2 (And.intro e3 e4)))
  clear e1 e2 e3 e4 hm0 hm1
  unfold hv
  go_enter Tryd.func100, Tryd.ntmps100
  go_wp2_with fail
  go_region_held3 (fun w' => w'.cell? ⟨w.heap.size, 0, none⟩ = some (.int .i64 a) ∧ w'.cell? ⟨w.heap.size, 1, none⟩ = some (.int .i64 b)) (go_keep)
        (first | (go_at_call 93; refine (hmod_ok _ _).mono ?_; rintro e w' ⟨rfl, rfl⟩))
  obtain ⟨e1, e2, e3, e4⟩ := E.out
  simp only [e1, e2, e3, e4]
  go_wp2_with fail
  (try simp only [Exit.inBlock, Exit.then])
  refine bodyPost_ret (v := hv ((a - x) % 65536) ((b - n * x) % 65536)) ?_ rfl ⟨rfl, (((Below.refl _ _).alloc (Nat.le_refl _) _).alloc (by simp) _).drew⟩
  simp only [results, show Tryd.f100.results = #[.cell 6 84] from rfl]
  go_simp
  rfl

/-- What a roll makes of the halves. -/
def rollA (a x y : Int) : Int := ((a - x) % 65536 + y) % 65536

def rollB (a b n x y : Int) : Int := ((b - n * x) % 65536 + ((a - x) % 65536 + y) % 65536) % 65536

set_option maxHeartbeats 1000000 in
theorem hroll_ok (a b n x y : Int) (w : World) (a0 : 0 ≤ a) (a1 : a < 65536) (b0 : 0 ≤ b) (b1 : b < 65536) (n0 : 0 ≤ n) (n1 : n ≤ 4000) (x0 : 0 ≤ x) (x1 : x < 256) (y0 : 0 ≤ y) (y1 : y < 256) : Calls Tryd.prog 95 #[hv a b, .int .i64 n, .int .u8 x, .int .u8 y] w fun r w' => r = .returned (hv (rollA a x y) (rollB a b n x y)) ∧ Below w.heap.size w w' := by
  have H1 := hide (fun W => hdrop_ok a b n x W a0 a1 b0 b1 n0 n1 x0 x1)
  have H2 := hide (fun W => hadd_ok ((a - x) % 65536) ((b - n * x) % 65536) y W (ge_mod _) (lt_mod _) (ge_mod _) (lt_mod _) y0 y1)
  unfold hv at *
  unfold rollA rollB
  generalize (a - x) % 65536 = a1 at *
  generalize (b - n * x) % 65536 = b1 at *
  go_enter Tryd.func95, Tryd.ntmps95
  go_wp2_with fail
  refine (H1.out _).mono ?_
  rintro e w1 ⟨rfl, hb1⟩
  have Hb1 := hide hb1
  clear hb1
  go_wp2_with fail
  refine (H2.out _).mono ?_
  rintro e w2 ⟨rfl, hb2⟩
  have Hb2 := hide hb2
  clear hb2
  have hr : HvAt (w.heap.size + 1) w2 0 0 := by
    have h := HvAt.fresh (w.alloc (.cells #[.int .i64 a, .int .i64 b] 84)) 0 0 84
    rw [show (w.alloc (.cells #[.int .i64 a, .int .i64 b] 84)).heap.size = w.heap.size + 1 by simp] at h
    exact (h.below Hb1.out (by simp)).below Hb2.out (Nat.lt_of_lt_of_le (by simp) Hb1.out.size)
  have Hb : Hid (Below w.heap.size w w2) := ((((Below.refl _ _).alloc (Nat.le_refl _) _).alloc (by simp) _).trans (Hb1.out.mono (by simp; omega))).trans (Hb2.out.mono (Nat.le_trans (by simp; omega) Hb1.out.size))
  have Hr := hide hr
  clear Hb1 Hb2
  obtain ⟨r0, r1, q0, q1, _⟩ := hr
  go_wp2_with fail
  (try simp only [Exit.inBlock, Exit.then])
  refine bodyPost_ret (v := hv ((a1 + y) % 65536) ((b1 + (a1 + y) % 65536) % 65536)) ?_ rfl ⟨rfl, (Hb.out.setCell (by simp) _).setCell (by simp) _⟩
  obtain ⟨s0, s1, _, _, _⟩ := Hr.out.set ((a1 + y) % 65536) ((b1 + (a1 + y) % 65536) % 65536)
  simp only [results, show Tryd.f95.results = #[.cell 8 84] from rfl]
  go_simp
  rfl
end Go.Proofs.YtcenohaadggdiacDoor

namespace Go.Proofs.YtcenohaadggdiacDoor
open Go.RowKit

/-- The halves, rolled. -/
theorem rollA_eq (x y : UInt8) (r : List UInt8) : rollA (hA (x :: r)) x.toNat y.toNat = hA (r ++ [y]) := by
  have ra := Go.Weak.roll_a x y r
  unfold rollA hA; omega
theorem rollB_eq (x y : UInt8) (r : List UInt8) : rollB (hA (x :: r)) (hB (x :: r)) ((r.length + 1 : Nat) : Int) x.toNat y.toNat = hB (r ++ [y]) := by
  have rb := Go.Weak.roll_b x y r
  have e1 : ((hA (x :: r) - x.toNat) % 65536 + y.toNat) % 65536 = hA (r ++ [y]) := rollA_eq x y r
  unfold rollB
  rw [e1]
  unfold hA hB
  generalize ((r.length + 1 : Nat) : Int) * (x.toNat : Int) = m at *
  omega

/-- The part of n bytes from i on, slid by one: its halves. -/
theorem slideAB (l : List UInt8) (i n : Nat) (hn : 0 < n) (h : i + n < l.length) :
    rollA (hA (Go.Weak.part l i n)) (l[i].toNat : Int) (l[i + n].toNat : Int) = hA (Go.Weak.part l (i + 1) n) ∧
    rollB (hA (Go.Weak.part l i n)) (hB (Go.Weak.part l i n)) (n : Int) (l[i].toNat : Int) (l[i + n].toNat : Int) = hB (Go.Weak.part l (i + 1) n) := by
  obtain ⟨r, e1, e2, hr⟩ := Go.Weak.part_slide l i n hn h
  rw [e1, e2]
  have hc : (n : Int) = ((r.length + 1 : Nat) : Int) := by rw [hr]
  exact ⟨rollA_eq _ _ _, by rw [hc]; exact rollB_eq _ _ _⟩
end Go.Proofs.YtcenohaadggdiacDoor
