/-
  The five errors that package delta meets, in a world.
  An error that is a fault, behind whatever happens; what package delta's Check answers is the fault of its ops.
  Contract of delta.weakSums over this dump: the set of the blocks' weak sums.
  Contracts of isLength, drop and roll of the halves of a sum that rolls (package weak) over this dump.
  The halves of a sum that rolls, slid by one.
-/
import Derived.Test.YtcenohaadggdiacGreatDoorJoin06
import Derived.Test.YtcenohaadggdiacGreatDoorJoin05
import Derived.Test.YtcenohaadggdiacGreatDoorJoin04
import Derived.Maps.OwnSet
import Derived.Test.YtcenohaadggdiacGreatDoorJoin02
import Derived.Deep.RegionHeld3
import Derived.Test.YtcenohaadggdiacGreatDoorJoin03
import Derived.Deep.RegionWith
namespace Go.Proofs.YtcenohaadggdiacGreatDoor
open Go.RowKit

structure OEr (e : OV) (w : World) : Prop where
  er : Er e.e w
  shape : w.cell? ⟨2, 0, none⟩ = some (.iface e.tS e.xS)
  kind : w.cell? ⟨3, 0, none⟩ = some (.iface e.tK e.xK)
theorem OEr.below {e : OV} {w w' : World} (h : OEr e w) (hb : Below w.heap.size w w') : OEr e w' :=
  ⟨h.er.below hb, (hb.cell (World.block_lt_of_cell? _ _ h.shape)).trans h.shape, (hb.cell (World.block_lt_of_cell? _ _ h.kind)).trans h.kind⟩
theorem OEr.three {e : OV} {w : World} (h : OEr e w) : OEr3 e w := ⟨h.er.bound, h.shape, h.kind⟩
instance (e : OV) (w : World) : Coe (OEr e w) (OEr3 e w) := ⟨OEr.three⟩
end Go.Proofs.YtcenohaadggdiacGreatDoor

namespace Go.Proofs.YtcenohaadggdiacGreatDoor
open Go.RowKit
open Go.Delta (Opx)

/-- The five errors among the twelve. -/
def ovOf (a : Nat → Addr) : OV := ⟨evOf a, 157, .pointer (some (a 2)), 157, .pointer (some (a 3))⟩
theorem Sents.oer {w : World} {a : Nat → Addr} (h : Sents w a) : OEr (ovOf a) w := ⟨h.er, h.c2, h.c3⟩
theorem errO_sent {a : Nat → Addr} {c : Nat} (h : c = 1 ∨ c = 2 ∨ c = 3 ∨ c = 4) : ∃ k, k < 12 ∧ c = k + 1 ∧ errO (ovOf a) c = .iface 157 (.pointer (some (a k))) := by
  rcases h with rfl | rfl | rfl | rfl
  · exact ⟨0, by decide, rfl, rfl⟩
  · exact ⟨1, by decide, rfl, rfl⟩
  · exact ⟨2, by decide, rfl, rfl⟩
  · exact ⟨3, by decide, rfl, rfl⟩
theorem coded_errO (a : Nat → Addr) (c : Nat) (w : World) (h : Sents w a) (hc : c = 0 ∨ c = 1 ∨ c = 2 ∨ c = 3 ∨ c = 4) :
    Calls Tryz.prog 18 #[errO (ovOf a) c, .int .i64 c] w fun r w' => r = .returned (.bool true) ∧ Below w.heap.size w w' := by
  rcases hc with rfl | hc
  · refine (coded_nil 0 w).mono ?_
    rintro r w' ⟨rfl, rfl⟩
    exact ⟨rfl, Below.refl _ _⟩
  · obtain ⟨k, hk, rfl, e⟩ := errO_sent (a := a) hc
    rw [e]
    refine (coded_sent k hk a _ w h).mono ?_
    rintro r w' ⟨rfl, hb⟩
    exact ⟨ret_bool (by simp), hb⟩

/-- An error that is the fault (c, at), behind whatever happens. -/
def Tells (w' : World) (x : Value) (c : Nat) (at_ : Int) : Prop :=
  ∀ W, Below w'.heap.size w' W → Calls Tryz.prog 9 #[x, .agg #[.int .i64 c, .int .i64 at_]] W fun r W' => r = .returned (.bool true) ∧ Below W.heap.size W W'
theorem Tells.below {w w' : World} {x : Value} {c : Nat} {at_ : Int} (h : Tells w x c at_) (hb : Below w.heap.size w w') : Tells w' x c at_ := fun W hW => h W (bthen hb hW)
theorem tells_nil (w : World) (at_ : Int) : Tells w .nilIface 0 at_ := fun W _ =>
  faulted_zero .nilIface (-1) at_ W (fun W' _ => (code_nil W').mono fun _ _ ⟨h1, h2⟩ => ⟨h1, by rw [h2]; exact Below.refl _ _⟩)
theorem tells_bare (w : World) (a : Nat → Addr) (hS : Sents w a) (j : Nat) (hj : j < 12) : Tells w (.iface 157 (.pointer (some (a j)))) (j + 1) (-1) := fun W hW => by
  refine faulted_at _ _ (-1) W (by omega) (fun W' hW' => ?_)
  rw [show ((j + 1 : Nat) : Int) = (j : Int) + 1 by omega]
  exact code_sent j hj a W' ((hS.below hW).below hW')
theorem tells_at (w : World) (a : Nat → Addr) (hS : Sents w a) (j : Nat) (hj : j < 12) (p : Nat) (at_ : Int) (c0 : w.cell? ⟨p, 0, none⟩ = some (.int .i64 at_)) (c1 : w.cell? ⟨p, 1, none⟩ = some (.iface 157 (.pointer (some (a j))))) :
    Tells w (.iface 63 (.pointer (some ⟨p, 0, none⟩))) (j + 1) at_ := fun W hW => by
  refine faulted_at _ _ at_ W (by omega) (fun W' hW' => ?_)
  rw [show ((j + 1 : Nat) : Int) = (j : Int) + 1 by omega]
  have d0 := (hW.cell (World.block_lt_of_cell? _ _ c0)).trans c0
  have d1 := (hW.cell (World.block_lt_of_cell? _ _ c1)).trans c1
  exact code_fault j hj at_ p a W' ((hS.below hW).below hW') ((hW'.cell (World.block_lt_of_cell? _ _ d0)).trans d0) ((hW'.cell (World.block_lt_of_cell? _ _ d1)).trans d1)

theorem tells_ocheck {a : Nat → Addr} {base : Nat} {l : List Opx} {w' : World} {x : Value} (hS : Sents w' a) (h : OCheckRes (ovOf a) base (Go.Delta.faultO l) w' (.returned x)) : Tells w' x (Go.Delta.faultO l).1 (Go.Delta.faultO l).2 := by
  have hcode := faultO_code l
  generalize Go.Delta.faultO l = f at *
  obtain ⟨c, at_⟩ := f
  simp only at hcode ⊢
  unfold OCheckRes at h
  by_cases hc : c = 0
  · subst hc
    rw [if_pos rfl] at h
    obtain rfl : x = .nilIface := by injection h
    exact tells_nil _ _
  · rw [if_neg hc] at h
    obtain ⟨j, hj, hcj, e⟩ := errO_sent (a := a) (c := c) (by omega)
    subst hcj
    obtain ⟨p, hr, _, c0, c1⟩ := h
    have hx : x = .iface 63 (.pointer (some ⟨p, 0, none⟩)) := by injection hr
    simp only at c0 c1
    rw [e] at c1
    rw [hx]
    exact tells_at _ a hS j hj p at_ c0 c1
theorem ocheck_uni (v : Value) (l : List Opx) (a : Nat → Addr) (w : World) (hv : ORow w v l) (hl : l.length ≤ 1000000) (hs : Short l) (hS : Sents w a) :
    Calls Tryz.prog 14 #[v] w fun r w' => (∃ x, r = .returned x ∧ Tells w' x (Go.Delta.faultO l).1 (Go.Delta.faultO l).2) ∧ Below w.heap.size w w' := by
  refine (ocheck_ok v l (ovOf a) w hv hl hs hS.oer).mono ?_
  rintro r w' ⟨hr, hb⟩
  refine ⟨?_, hb⟩
  have hx : ∃ x, r = .returned x := by
    unfold OCheckRes at hr
    split at hr
    · exact ⟨_, hr⟩
    · obtain ⟨p, hr, _⟩ := hr; exact ⟨_, hr⟩
  obtain ⟨x, rfl⟩ := hx
  exact ⟨x, rfl, tells_ocheck (hS.below hb) hr⟩
end Go.Proofs.YtcenohaadggdiacGreatDoor

namespace Go.Proofs.YtcenohaadggdiacGreatDoor
open Go.RowKit Go.Maps
open Go.Sign (Blk)

/-- The set of the weak sums of these blocks. -/
def wset (l : List Blk) : DataW Unit := setOf (.agg []) (l.map fun b => Lit.int .i64 b.weak)
theorem wset_snoc (l : List Blk) (b : Blk) : wset (l ++ [b]) = (wset l).put (.int .i64 b.weak) (.agg []) := by
  unfold wset
  rw [List.map_append, List.map_singleton, setOf_snoc]
theorem any_weak (x : Int) : ∀ l : List Blk, l.any ((fun y : Lit => y.sameKey (.int .i64 x)) ∘ fun b => Lit.int .i64 b.weak) = l.any fun b => b.weak == x
  | [] => rfl
  | a :: r => by
    rw [List.any_cons, List.any_cons, any_weak x r]
    congr 1
    show decide (IntKind.i64 = IntKind.i64 ∧ a.weak = x) = (a.weak == x)
    by_cases e : a.weak = x
    · simp [e]
    · simp [e]
/-- A sum is known just if a block has it. -/
theorem has_wset (l : List Blk) (x : Int) : Maps.has (wset l) (.int .i64 x) = l.any fun b => b.weak == x := by
  unfold wset
  rw [has_setOf _ _ _ (fun y hy => by obtain ⟨_, _, rfl⟩ := List.mem_map.1 hy; trivial), List.any_map]
  exact any_weak x _

theorem Tryz.keyInt : Keyed Tryz.prog 3 := int_keyed Tryz.underlying3
theorem Tryz.zeroUnit (w : World) : (zeroValue 108).run Tryz.prog w = .ok (.agg #[]) w := by kernel_rfl

theorem makeMap_hint (n : Int) (w : World) : (Instr.makeMap 106 (some (.int .i64 n))).run Tryz.prog w = .ok (.map (some w.heap.size)) (w.alloc (.map #[] 0)) := by
  simp [Instr.makeMap, run_underlying Tryz.underlying106, asInt, asIntOf, Result.andThen]

set_option maxHeartbeats 1000000 in
set_option maxRecDepth 100000 in
theorem weakSums_ok (v : Value) (l : List Blk) (w : World) (hv : RowIn w v l) (hl : l.length ≤ 1000000) (hw : ∀ b ∈ l, 0 ≤ b.weak ∧ b.weak < 4294967296) :
    Calls Tryz.prog 64 #[v] w fun r w' => r = .returned (.map (some w.heap.size)) ∧ w'.ownsMap Tryz.prog 3 unitElem w.heap.size l.length (wset l) ∧ Below w.heap.size w w' := by
  obtain ⟨a, c, rfl, hv⟩ := hv
  have HV := hide hv
  have HW := hide hw
  have hl' : (l.length : Int) ≤ 1000000 := by omega
  clear hv hw
  have hmm := makeMap_hint
  go_enter Tryz.func64, Tryz.ntmps64
  go_wp2_with fail
  go_loopw [11] (fun t wr => ∃ j : Nat, t = .int .i64 j ∧ j ≤ l.length ∧ Hid (wr.ownsMap Tryz.prog 3 unitElem w.heap.size j (wset (l.take j))) ∧ Hid (Below w.heap.size w wr)) (fun t _ => l.length - (intOf t).toNat)
  case atStart => exact ⟨0, rfl, by omega, World.ownsMap_made _ _ _ _, (Below.refl _ _).alloc (Nat.le_refl _) _⟩
  case round =>
    obtain ⟨j, rfl, hj, Hm, Hb⟩ := hrel
    by_cases hlt : j < l.length
    · have hlt' : (j : Int) < l.length := by omega
      obtain ⟨b, o, rfl, hc⟩ := HV.out (by omega)
      obtain ⟨c0, c1, c2⟩ := hc j hlt
      have d0 := (Hb.out.cell (World.block_lt_of_cell? _ _ c0)).trans c0
      have d1 := (Hb.out.cell (World.block_lt_of_cell? _ _ c1)).trans c1
      have d2 := (Hb.out.cell (World.block_lt_of_cell? _ _ c2)).trans c2
      have hwb := HW.out l[j] (List.getElem_mem hlt)
      have Hsn := hide (List.take_succ_eq_append_getElem hlt)
      have hkey : keyOf Tryz.prog 3 (.int .i64 l[j].weak) = some (.int .i64 l[j].weak) := keyOf_int_mk Tryz.underlying3 (WalkArith.wf_i64 (by omega))
      have Hkey := hide hkey
      clear hc c0 c1 c2 hkey
      generalize l[j] = bk at *
      have h0 := hwb.1
      have h1 := hwb.2
      clear hwb
      have Hma := hide (Hm.out.alloc (.cells #[.int .i64 bk.n, .int .i64 bk.weak, .int .u32 bk.strong] 75))
      go_wp2_with (first
        | (at_mapUpdate; refine wpList_mapUpdate_own _ rfl _ _ _ 106 rfl 3 108 Tryz.keyInt Tryz.underlying106 (unitElem (H := Unit)) w.heap.size j _ rfl Hma.out (by unfold maxLen; omega) _ _ _ rfl rfl Hkey.out _ [] unitElem_mk ?_; intro w1 hown1 hgrow1; have Hown1 := hide hown1; have Hg1 := hide hgrow1; clear hown1 hgrow1))
      all_goals
        go_roundw
        case rel =>
          refine ⟨j + 1, by go_num, by omega, ?_, ?_⟩
          · rw [Hsn.out, wset_snoc]; exact Hown1.out
          · exact (Hb.out.alloc Hb.out.size _).grown Hg1.out (by have := Hb.out.size; simp; omega) (fun k hk => by cases hk; exact Nat.le_refl _)
        case measure => simp [intOf]; omega
    · have hle : (l.length : Int) ≤ (j : Int) := by omega
      have he : j = l.length := by omega
      go_wp2_with fail
      go_ret
      refine ⟨rfl, ?_, Hb.out⟩
      have h := Hm.out
      rw [List.take_of_length_le (by omega), he] at h
      exact h
end Go.Proofs.YtcenohaadggdiacGreatDoor

namespace Go.Proofs.YtcenohaadggdiacGreatDoor
open Go.RowKit

theorem isLength_ok (n : Int) (w : World) : Calls Tryz.prog 84 #[.int .i64 n] w fun r w' => r = .returned (.bool (decide (1 ≤ n ∧ n ≤ 4000))) ∧ w' = w := by
  by_cases h0 : 1 ≤ n
  · go_enter Tryz.func84, Tryz.ntmps84
    go_wp2
    go_ret
    exact ⟨ret_bool (by simp [h0]), rfl⟩
  · have h0' : decide (1 ≤ n) = false := by simp; omega
    go_enter Tryz.func84, Tryz.ntmps84
    go_wp2
    go_ret
    exact ⟨ret_bool (by simp), rfl⟩

set_option maxHeartbeats 1000000 in
theorem hdrop_ok (a b n x : Int) (w : World) (a0 : 0 ≤ a) (a1 : a < 65536) (b0 : 0 ≤ b) (b1 : b < 65536) (n0 : 0 ≤ n) (n1 : n ≤ 4000) (x0 : 0 ≤ x) (x1 : x < 256) : Calls Tryz.prog 93 #[hv a b, .int .i64 n, .int .u8 x] w fun r w' => r = .returned (hv ((a - x) % 65536) ((b - n * x) % 65536)) ∧ Below w.heap.size w w' := by
  have hm0 : 0 ≤ n * x := Int.mul_nonneg n0 x0
  have hm1 : n * x ≤ 4000 * 256 := Int.mul_le_mul n1 (by omega) x0 (by omega)
  have e1 : IntKind.i64.wrap x = x := iwrap_id _ (by omega) (by omega)
  have e2 : IntKind.i64.wrap (a - x) = a - x := iwrap_id _ (by omega) (by omega)
  have e3 : IntKind.i64.wrap (n * x) = n * x := iwrap_id _ (by omega) (by omega)
  have e4 : IntKind.i64.wrap (b - n * x) = b - n * x := iwrap_id _ (by omega) (by omega)
  have E := hide (And.intro e1 (And.intro e2 (And.intro e3 e4)))
  clear e1 e2 e3 e4 hm0 hm1
  unfold hv
  go_enter Tryz.func93, Tryz.ntmps93
  go_wp2_with fail
  go_region_held3 (fun w' => w'.cell? ⟨w.heap.size, 0, none⟩ = some (.int .i64 a) ∧ w'.cell? ⟨w.heap.size, 1, none⟩ = some (.int .i64 b)) (go_keep)
        (first | (go_at_call 94; refine (hmod_ok _ _).mono ?_; rintro e w' ⟨rfl, rfl⟩))
  obtain ⟨e1, e2, e3, e4⟩ := E.out
  simp only [e1, e2, e3, e4]
  go_wp2_with fail
  (try simp only [Exit.inBlock, Exit.then])
  refine bodyPost_ret (v := hv ((a - x) % 65536) ((b - n * x) % 65536)) ?_ rfl ⟨rfl, (((Below.refl _ _).alloc (Nat.le_refl _) _).alloc (by simp) _).drew⟩
  simp only [results, show Tryz.f93.results = #[.cell 6 134] from rfl]
  go_simp
  rfl

/-- What a roll makes of the halves. -/
def rollA (a x y : Int) : Int := ((a - x) % 65536 + y) % 65536

def rollB (a b n x y : Int) : Int := ((b - n * x) % 65536 + ((a - x) % 65536 + y) % 65536) % 65536

set_option maxHeartbeats 1000000 in
theorem hroll_ok (a b n x y : Int) (w : World) (a0 : 0 ≤ a) (a1 : a < 65536) (b0 : 0 ≤ b) (b1 : b < 65536) (n0 : 0 ≤ n) (n1 : n ≤ 4000) (x0 : 0 ≤ x) (x1 : x < 256) (y0 : 0 ≤ y) (y1 : y < 256) : Calls Tryz.prog 85 #[hv a b, .int .i64 n, .int .u8 x, .int .u8 y] w fun r w' => r = .returned (hv (rollA a x y) (rollB a b n x y)) ∧ Below w.heap.size w w' := by
  have H1 := hide (fun W => hdrop_ok a b n x W a0 a1 b0 b1 n0 n1 x0 x1)
  have H2 := hide (fun W => hadd_ok ((a - x) % 65536) ((b - n * x) % 65536) y W (ge_mod _) (lt_mod _) (ge_mod _) (lt_mod _) y0 y1)
  unfold hv at *
  unfold rollA rollB
  generalize (a - x) % 65536 = a1 at *
  generalize (b - n * x) % 65536 = b1 at *
  go_enter Tryz.func85, Tryz.ntmps85
  go_wp2_with fail
  refine (H1.out _).mono ?_
  rintro e w1 ⟨rfl, hb1⟩
  have Hb1 := hide hb1
  clear hb1
  go_wp2_with fail
  refine (H2.out _).mono ?_
  rintro e w2 ⟨rfl, hb2⟩
  have Hb2 := hide hb2
  clear hb2
  have hr : HvAt (w.heap.size + 1) w2 0 0 := by
    have h := HvAt.fresh (w.alloc (.cells #[.int .i64 a, .int .i64 b] 134)) 0 0 134
    rw [show (w.alloc (.cells #[.int .i64 a, .int .i64 b] 134)).heap.size = w.heap.size + 1 by simp] at h
    exact (h.below Hb1.out (by simp)).below Hb2.out (Nat.lt_of_lt_of_le (by simp) Hb1.out.size)
  have Hb : Hid (Below w.heap.size w w2) := ((((Below.refl _ _).alloc (Nat.le_refl _) _).alloc (by simp) _).trans (Hb1.out.mono (by simp; omega))).trans (Hb2.out.mono (Nat.le_trans (by simp; omega) Hb1.out.size))
  have Hr := hide hr
  clear Hb1 Hb2
  obtain ⟨r0, r1, q0, q1, _⟩ := hr
  go_wp2_with fail
  (try simp only [Exit.inBlock, Exit.then])
  refine bodyPost_ret (v := hv ((a1 + y) % 65536) ((b1 + (a1 + y) % 65536) % 65536)) ?_ rfl ⟨rfl, (Hb.out.setCell (by simp) _).setCell (by simp) _⟩
  obtain ⟨s0, s1, _, _, _⟩ := Hr.out.set ((a1 + y) % 65536) ((b1 + (a1 + y) % 65536) % 65536)
  simp only [results, show Tryz.f85.results = #[.cell 8 134] from rfl]
  go_simp
  rfl
end Go.Proofs.YtcenohaadggdiacGreatDoor

namespace Go.Proofs.YtcenohaadggdiacGreatDoor
open Go.RowKit

/-- The halves, rolled. -/
theorem rollA_eq (x y : UInt8) (r : List UInt8) : rollA (hA (x :: r)) x.toNat y.toNat = hA (r ++ [y]) := by
  have ra := Go.Weak.roll_a x y r
  unfold rollA hA; omega
theorem rollB_eq (x y : UInt8) (r : List UInt8) : rollB (hA (x :: r)) (hB (x :: r)) ((r.length + 1 : Nat) : Int) x.toNat y.toNat = hB (r ++ [y]) := by
  have rb := Go.Weak.roll_b x y r
  have e1 : ((hA (x :: r) - x.toNat) % 65536 + y.toNat) % 65536 = hA (r ++ [y]) := rollA_eq x y r
  unfold rollB
  rw [e1]
  unfold hA hB
  generalize ((r.length + 1 : Nat) : Int) * (x.toNat : Int) = m at *
  omega

/-- The part of n bytes from i on, slid by one: its halves. -/
theorem slideAB (l : List UInt8) (i n : Nat) (hn : 0 < n) (h : i + n < l.length) :
    rollA (hA (Go.Weak.part l i n)) (l[i].toNat : Int) (l[i + n].toNat : Int) = hA (Go.Weak.part l (i + 1) n) ∧
    rollB (hA (Go.Weak.part l i n)) (hB (Go.Weak.part l i n)) (n : Int) (l[i].toNat : Int) (l[i + n].toNat : Int) = hB (Go.Weak.part l (i + 1) n) := by
  obtain ⟨r, e1, e2, hr⟩ := Go.Weak.part_slide l i n hn h
  rw [e1, e2]
  have hc : (n : Int) = ((r.length + 1 : Nat) : Int) := by rw [hr]
  exact ⟨rollA_eq _ _ _, by rw [hc]; exact rollB_eq _ _ _⟩
end Go.Proofs.YtcenohaadggdiacGreatDoor
