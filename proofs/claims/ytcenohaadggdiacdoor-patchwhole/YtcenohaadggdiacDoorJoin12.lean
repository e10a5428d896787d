/-
  What the row's condition on the six errors' variables that Whole meets gives the walk; the door's own heap meets it.
  Contract of delta.weakSums over this dump: the set of the blocks' weak sums.
  Contracts of isLength, drop and roll of the halves of a sum that rolls (package weak) over this dump.
  The halves of a sum that rolls, slid by one.
-/
import Derived.Test.YtcenohaadggdiacDoorJoin03
import Derived.Test.YtcenohaadggdiacDoorJoin11
import Derived.Test.YtcenohaadggdiacDoorJoin06
import Derived.Maps.OwnSet
import Derived.Test.YtcenohaadggdiacDoorJoin04
import Derived.Deep.RegionHeld3
import Derived.Test.YtcenohaadggdiacDoorJoin05
import Derived.Deep.RegionWith
namespace Go.Proofs.YtcenohaadggdiacDoor
open Go.ChangeShapes Go.WideShapes Go.ChangeAt Go.RowKit

theorem Tryd.pSum : Tryd.prog.globalNamed "packhorse/api.ErrSum" = some 1 := by kernel_rfl
theorem Tryd.qSum : (Tryd.prog.globals[1]?).map (·.type) = some 26 := by kernel_rfl
abbrev laidP6 : List (String × DataW Unit) := [("packhorse/api.ErrBound", Rows.laid_packhorse_api_ErrBound), ("packhorse/api.ErrShape", Rows.laid_packhorse_api_ErrShape), ("packhorse/api.ErrKind", Rows.laid_packhorse_api_ErrKind), ("packhorse/api.ErrNone", Rows.laid_packhorse_api_ErrNone), ("packhorse/api.ErrFull", Rows.laid_packhorse_api_ErrFull), ("packhorse/api.ErrSum", Rows.laid_packhorse_api_ErrSum)]
theorem pes_of_laid {W : World} (h : laidMetH Tryd.prog laidP6 W) : ∃ e tM xM, PEs e tM xM W := by
  rw [MakeChecks.laidMetH_plain _ _ _ (by kernel_rfl)] at h
  obtain ⟨aBound, _, hvBound, _⟩ := laid_sentinel h Tryd.pBound Tryd.qBound Tryd.underlying26 Tryd.row161 Tryd.underlying161 Tryd.underlying179 rfl rfl Tryd.underlying9 Tryd.cells179 Tryd.cells9
  obtain ⟨aShape, _, hvShape, _⟩ := laid_sentinel h.tail Tryd.pShape Tryd.qShape Tryd.underlying26 Tryd.row161 Tryd.underlying161 Tryd.underlying179 rfl rfl Tryd.underlying9 Tryd.cells179 Tryd.cells9
  obtain ⟨aKind, _, hvKind, _⟩ := laid_sentinel h.tail.tail Tryd.pKind Tryd.qKind Tryd.underlying26 Tryd.row161 Tryd.underlying161 Tryd.underlying179 rfl rfl Tryd.underlying9 Tryd.cells179 Tryd.cells9
  obtain ⟨aNone, _, hvNone, _⟩ := laid_sentinel h.tail.tail.tail Tryd.pNone Tryd.qNone Tryd.underlying26 Tryd.row161 Tryd.underlying161 Tryd.underlying179 rfl rfl Tryd.underlying9 Tryd.cells179 Tryd.cells9
  obtain ⟨aFull, _, hvFull, _⟩ := laid_sentinel h.tail.tail.tail.tail Tryd.pFull Tryd.qFull Tryd.underlying26 Tryd.row161 Tryd.underlying161 Tryd.underlying179 rfl rfl Tryd.underlying9 Tryd.cells179 Tryd.cells9
  obtain ⟨aSum, _, hvSum, _⟩ := laid_sentinel h.tail.tail.tail.tail.tail Tryd.pSum Tryd.qSum Tryd.underlying26 Tryd.row161 Tryd.underlying161 Tryd.underlying179 rfl rfl Tryd.underlying9 Tryd.cells179 Tryd.cells9
  exact ⟨⟨⟨⟨0, .nilIface, _, _, _, _⟩, _, _, _, _⟩, _, _⟩, _, _, ⟨⟨by simpa using World.var?_cell Tryd.pBound hvBound 0, by simpa using World.var?_cell Tryd.pShape hvShape 0, by simpa using World.var?_cell Tryd.pKind hvKind 0⟩, by simpa using World.var?_cell Tryd.pFull hvFull 0, by simpa using World.var?_cell Tryd.pNone hvNone 0⟩, by simpa using World.var?_cell Tryd.pSum hvSum 0⟩
theorem door_metP6 (os : Os) (args : Array Value) : laidMetH Tryd.prog laidP6 ((World.doorLaid Tryd.prog 400 os).forCall (fun _ _ => 0) ⟨#[], args, []⟩).memory :=
  laidMetH_of_parts3 (fuel := 8) (laidMet_of_run' 8 (by kernel_rfl) (by kernel_rfl)) (by kernel_rfl) (by kernel_rfl)
end Go.Proofs.YtcenohaadggdiacDoor

namespace Go.Proofs.YtcenohaadggdiacDoor
open Go.RowKit Go.Maps
open Go.Sign (Blk)

/-- The set of the weak sums of these blocks. -/
def wset (l : List Blk) : DataW Unit := setOf (.agg []) (l.map fun b => Lit.int .i64 b.weak)
theorem wset_snoc (l : List Blk) (b : Blk) : wset (l ++ [b]) = (wset l).put (.int .i64 b.weak) (.agg []) := by
  unfold wset
  rw [List.map_append, List.map_singleton, setOf_snoc]
theorem any_weak (x : Int) : ∀ l : List Blk, l.any ((fun y : Lit => y.sameKey (.int .i64 x)) ∘ fun b => Lit.int .i64 b.weak) = l.any fun b => b.weak == x
  | [] => rfl
  | a :: r => by
    rw [List.any_cons, List.any_cons, any_weak x r]
    congr 1
    show decide (IntKind.i64 = IntKind.i64 ∧ a.weak = x) = (a.weak == x)
    by_cases e : a.weak = x
    · simp [e]
    · simp [e]
/-- A sum is known just if a block has it. -/
theorem has_wset (l : List Blk) (x : Int) : Maps.has (wset l) (.int .i64 x) = l.any fun b => b.weak == x := by
  unfold wset
  rw [has_setOf _ _ _ (fun y hy => by obtain ⟨_, _, rfl⟩ := List.mem_map.1 hy; trivial), List.any_map]
  exact any_weak x _

theorem Tryd.keyInt : Keyed Tryd.prog 3 := int_keyed Tryd.underlying3
theorem Tryd.zeroUnit (w : World) : (zeroValue 121).run Tryd.prog w = .ok (.agg #[]) w := by kernel_rfl

theorem makeMap_hint (n : Int) (w : World) : (Instr.makeMap 119 (some (.int .i64 n))).run Tryd.prog w = .ok (.map (some w.heap.size)) (w.alloc (.map #[] 0)) := by
  simp [Instr.makeMap, run_underlying Tryd.underlying119, asInt, asIntOf, Result.andThen]

set_option maxHeartbeats 1000000 in
set_option maxRecDepth 100000 in
theorem weakSums_ok (v : Value) (l : List Blk) (w : World) (hv : RowIn w v l) (hl : l.length ≤ 1000000) (hw : ∀ b ∈ l, 0 ≤ b.weak ∧ b.weak < 4294967296) :
    Calls Tryd.prog 77 #[v] w fun r w' => r = .returned (.map (some w.heap.size)) ∧ w'.ownsMap Tryd.prog 3 unitElem w.heap.size l.length (wset l) ∧ Below w.heap.size w w' := by
  obtain ⟨a, c, rfl, hv⟩ := hv
  have HV := hide hv
  have HW := hide hw
  have hl' : (l.length : Int) ≤ 1000000 := by omega
  clear hv hw
  have hmm := makeMap_hint
  go_enter Tryd.func77, Tryd.ntmps77
  go_wp2_with fail
  go_loopw [11] (fun t wr => ∃ j : Nat, t = .int .i64 j ∧ j ≤ l.length ∧ Hid (wr.ownsMap Tryd.prog 3 unitElem w.heap.size j (wset (l.take j))) ∧ Hid (Below w.heap.size w wr)) (fun t _ => l.length - (intOf t).toNat)
  case atStart => exact ⟨0, rfl, by omega, World.ownsMap_made _ _ _ _, (Below.refl _ _).alloc (Nat.le_refl _) _⟩
  case round =>
    obtain ⟨j, rfl, hj, Hm, Hb⟩ := hrel
    by_cases hlt : j < l.length
    · have hlt' : (j : Int) < l.length := by omega
      obtain ⟨b, o, rfl, hc⟩ := HV.out (by omega)
      obtain ⟨c0, c1, c2⟩ := hc j hlt
      have d0 := (Hb.out.cell (World.block_lt_of_cell? _ _ c0)).trans c0
      have d1 := (Hb.out.cell (World.block_lt_of_cell? _ _ c1)).trans c1
      have d2 := (Hb.out.cell (World.block_lt_of_cell? _ _ c2)).trans c2
      have hwb := HW.out l[j] (List.getElem_mem hlt)
      have Hsn := hide (List.take_succ_eq_append_getElem hlt)
      have hkey : keyOf Tryd.prog 3 (.int .i64 l[j].weak) = some (.int .i64 l[j].weak) := keyOf_int_mk Tryd.underlying3 (WalkArith.wf_i64 (by omega))
      have Hkey := hide hkey
      clear hc c0 c1 c2 hkey
      generalize l[j] = bk at *
      have h0 := hwb.1
      have h1 := hwb.2
      clear hwb
      have Hma := hide (Hm.out.alloc (.cells #[.int .i64 bk.n, .int .i64 bk.weak, .int .u32 bk.strong] 55))
      go_wp2_with (first
        | (at_mapUpdate; refine wpList_mapUpdate_own _ rfl _ _ _ 119 rfl 3 121 Tryd.keyInt Tryd.underlying119 (unitElem (H := Unit)) w.heap.size j _ rfl Hma.out (by unfold maxLen; omega) _ _ _ rfl rfl Hkey.out _ [] unitElem_mk ?_; intro w1 hown1 hgrow1; have Hown1 := hide hown1; have Hg1 := hide hgrow1; clear hown1 hgrow1))
      all_goals
        go_roundw
        case rel =>
          refine ⟨j + 1, by go_num, by omega, ?_, ?_⟩
          · rw [Hsn.out, wset_snoc]; exact Hown1.out
          · exact (Hb.out.alloc Hb.out.size _).grown Hg1.out (by have := Hb.out.size; simp; omega) (fun k hk => by cases hk; exact Nat.le_refl _)
        case measure => simp [intOf]; omega
    · have hle : (l.length : Int) ≤ (j : Int) := by omega
      have he : j = l.length := by omega
      go_wp2_with fail
      go_ret
      refine ⟨rfl, ?_, Hb.out⟩
      have h := Hm.out
      rw [List.take_of_length_le (by omega), he] at h
      exact h
end Go.Proofs.YtcenohaadggdiacDoor

namespace Go.Proofs.YtcenohaadggdiacDoor
open Go.RowKit

theorem isLength_ok (n : Int) (w : World) : Calls Tryd.prog 94 #[.int .i64 n] w fun r w' => r = .returned (.bool (decide (1 ≤ n ∧ n ≤ 4000))) ∧ w' = w := by
  by_cases h0 : 1 ≤ n
  · go_enter Tryd.func94, Tryd.ntmps94
    go_wp2
    go_ret
    exact ⟨ret_bool (by simp [h0]), rfl⟩
  · have h0' : decide (1 ≤ n) = false := by simp; omega
    go_enter Tryd.func94, Tryd.ntmps94
    go_wp2
    go_ret
    exact ⟨ret_bool (by simp), rfl⟩

set_option maxHeartbeats 1000000 in
theorem hdrop_ok (a b n x : Int) (w : World) (a0 : 0 ≤ a) (a1 : a < 65536) (b0 : 0 ≤ b) (b1 : b < 65536) (n0 : 0 ≤ n) (n1 : n ≤ 4000) (x0 : 0 ≤ x) (x1 : x < 256) : Calls Tryd.prog 100 #[hv a b, .int .i64 n, .int .u8 x] w fun r w' => r = .returned (hv ((a - x) % 65536) ((b - n * x) % 65536)) ∧ Below w.heap.size w w' := by
  have hm0 : 0 ≤ n * x := Int.mul_nonneg n0 x0
  have hm1 : n * x ≤ 4000 * 256 := Int.mul_le_mul n1 (by omega) x0 (by omega)
  have e1 : IntKind.i64.wrap x = x := iwrap_id _ (by omega) (by omega)
  have e2 : IntKind.i64.wrap (a - x) = a - x := iwrap_id _ (by omega) (by omega)
  have e3 : IntKind.i64.wrap (n * x) = n * x := iwrap_id _ (by omega) (by omega)
  have e4 : IntKind.i64.wrap (b - n * x) = b - n * x := iwrap_id _ (by omega) (by omega)
  have E := hide (And.intro e1 (And.intro e2 (And.intro e3 e4)))
  clear e1 e2 e3 e4 hm0 hm1
  unfold hv
  go_enter Tryd.func100, Tryd.ntmps100
  go_wp2_with fail
  go_region_held3 (fun w' => w'.cell? ⟨w.heap.size, 0, none⟩ = some (.int .i64 a) ∧ w'.cell? ⟨w.heap.size, 1, none⟩ = some (.int .i64 b)) (go_keep)
        (first | (go_at_call 93; refine (hmod_ok _ _).mono ?_; rintro e w' ⟨rfl, rfl⟩))
  obtain ⟨e1, e2, e3, e4⟩ := E.out
  simp only [e1, e2, e3, e4]
  go_wp2_with fail
  (try simp only [Exit.inBlock, Exit.then])
  refine bodyPost_ret (v := hv ((a - x) % 65536) ((b - n * x) % 65536)) ?_ rfl ⟨rfl, (((Below.refl _ _).alloc (Nat.le_refl _) _).alloc (by simp) _).drew⟩
  simp only [results, show Tryd.f100.results = #[.cell 6 84] from rfl]
  go_simp
  rfl

/-- What a roll makes of the halves. -/
def rollA (a x y : Int) : Int := ((a - x) % 65536 + y) % 65536

def rollB (a b n x y : Int) : Int := ((b - n * x) % 65536 + ((a - x) % 65536 + y) % 65536) % 65536

set_option maxHeartbeats 1000000 in
theorem hroll_ok (a b n x y : Int) (w : World) (a0 : 0 ≤ a) (a1 : a < 65536) (b0 : 0 ≤ b) (b1 : b < 65536) (n0 : 0 ≤ n) (n1 : n ≤ 4000) (x0 : 0 ≤ x) (x1 : x < 256) (y0 : 0 ≤ y) (y1 : y < 256) : Calls Tryd.prog 95 #[hv a b, .int .i64 n, .int .u8 x, .int .u8 y] w fun r w' => r = .returned (hv (rollA a x y) (rollB a b n x y)) ∧ Below w.heap.size w w' := by
  have H1 := hide (fun W => hdrop_ok a b n x W a0 a1 b0 b1 n0 n1 x0 x1)
  have H2 := hide (fun W => hadd_ok ((a - x) % 65536) ((b - n * x) % 65536) y W (ge_mod _) (lt_mod _) (ge_mod _) (lt_mod _) y0 y1)
  unfold hv at *
  unfold rollA rollB
  generalize (a - x) % 65536 = a1 at *
  generalize (b - n * x) % 65536 = b1 at *
  go_enter Tryd.func95, Tryd.ntmps95
  go_wp2_with fail
  refine (H1.out _).mono ?_
  rintro e w1 ⟨rfl, hb1⟩
  have Hb1 := hide hb1
  clear hb1
  go_wp2_with fail
  refine (H2.out _).mono ?_
  rintro e w2 ⟨rfl, hb2⟩
  have Hb2 := hide hb2
  clear hb2
  have hr : HvAt (w.heap.size + 1) w2 0 0 := by
    have h := HvAt.fresh (w.alloc (.cells #[.int .i64 a, .int .i64 b] 84)) 0 0 84
    rw [show (w.alloc (.cells #[.int .i64 a, .int .i64 b] 84)).heap.size = w.heap.size + 1 by simp] at h
    exact (h.below Hb1.out (by simp)).below Hb2.out (Nat.lt_of_lt_of_le (by simp) Hb1.out.size)
  have Hb : Hid (Below w.heap.size w w2) := ((((Below.refl _ _).alloc (Nat.le_refl _) _).alloc (by simp) _).trans (Hb1.out.mono (by simp; omega))).trans (Hb2.out.mono (Nat.le_trans (by simp; omega) Hb1.out.size))
  have Hr := hide hr
  clear Hb1 Hb2
  obtain ⟨r0, r1, q0, q1, _⟩ := hr
  go_wp2_with fail
  (try simp only [Exit.inBlock, Exit.then])
  refine bodyPost_ret (v := hv ((a1 + y) % 65536) ((b1 + (a1 + y) % 65536) % 65536)) ?_ rfl ⟨rfl, (Hb.out.setCell (by simp) _).setCell (by simp) _⟩
  obtain ⟨s0, s1, _, _, _⟩ := Hr.out.set ((a1 + y) % 65536) ((b1 + (a1 + y) % 65536) % 65536)
  simp only [results, show Tryd.f95.results = #[.cell 8 84] from rfl]
  go_simp
  rfl
end Go.Proofs.YtcenohaadggdiacDoor

namespace Go.Proofs.YtcenohaadggdiacDoor
open Go.RowKit

/-- The halves, rolled. -/
theorem rollA_eq (x y : UInt8) (r : List UInt8) : rollA (hA (x :: r)) x.toNat y.toNat = hA (r ++ [y]) := by
  have ra := Go.Weak.roll_a x y r
  unfold rollA hA; omega
theorem rollB_eq (x y : UInt8) (r : List UInt8) : rollB (hA (x :: r)) (hB (x :: r)) ((r.length + 1 : Nat) : Int) x.toNat y.toNat = hB (r ++ [y]) := by
  have rb := Go.Weak.roll_b x y r
  have e1 : ((hA (x :: r) - x.toNat) % 65536 + y.toNat) % 65536 = hA (r ++ [y]) := rollA_eq x y r
  unfold rollB
  rw [e1]
  unfold hA hB
  generalize ((r.length + 1 : Nat) : Int) * (x.toNat : Int) = m at *
  omega

/-- The part of n bytes from i on, slid by one: its halves. -/
theorem slideAB (l : List UInt8) (i n : Nat) (hn : 0 < n) (h : i + n < l.length) :
    rollA (hA (Go.Weak.part l i n)) (l[i].toNat : Int) (l[i + n].toNat : Int) = hA (Go.Weak.part l (i + 1) n) ∧
    rollB (hA (Go.Weak.part l i n)) (hB (Go.Weak.part l i n)) (n : Int) (l[i].toNat : Int) (l[i + n].toNat : Int) = hB (Go.Weak.part l (i + 1) n) := by
  obtain ⟨r, e1, e2, hr⟩ := Go.Weak.part_slide l i n hn h
  rw [e1, e2]
  have hc : (n : Int) = ((r.length + 1 : Nat) : Int) := by rw [hr]
  exact ⟨rollA_eq _ _ _, by rw [hc]; exact rollB_eq _ _ _⟩
end Go.Proofs.YtcenohaadggdiacDoor
