/-
  Contracts of errors.As and errors.Is at an *api.Fault, over this dump.
  Contracts of plain.Code at an *api.Fault and at an error of another make, over this dump.
  An error and its number, a fault and its place, as the laws ask for them.
  Contracts of delta.isMany, wrongCopy, wrongData, wrong over this dump.
  Contracts of delta.firstWrong, Check, Cost over this dump, at any list of ops.
-/
import Derived.Test.YtcenohaadggdiacGreatDoorJoin01
import Derived.Test.YtcenohaadggdiacGreatDoorJoin05
import Derived.Test.YtcenohaadggdiacGreatDoorJoin04
namespace Go.Proofs.YtcenohaadggdiacGreatDoor
open Go.RowKit Go.Extern.Stop Go.Stop Go.Extern

theorem Tryz.typeOf29 (v : Value) (w : World) : (callFunc 72 #[.iface 63 v]).run Tryz.prog w = .ok (.value (.iface 140 (.agg #[.pointer (some ⟨13, 63, none⟩)]))) w := by kernel_rfl
theorem Tryz.assignable29 (w : World) : (callFunc 118 #[.agg #[.pointer (some ⟨13, 63, none⟩)], .iface 140 (.agg #[.pointer (some ⟨13, 63, none⟩)])]).run Tryz.prog w = .ok (.value (.bool true)) w := by kernel_rfl
theorem Tryz.valueOf29 (t : Addr) (w : World) : (callFunc 68 #[.iface 63 (.pointer (some t))]).run Tryz.prog w = .ok (.value (.agg #[.pointer (some ⟨13, 63, none⟩), .pointer (some ⟨w.heap.size, 0, none⟩), .int .u64 150])) (w.alloc (.cells #[.pointer (some t)] 63)) := by kernel_rfl
theorem Tryz.elemOf53 (w : World) : (Rtype.elem? 87).run Tryz.prog w = .ok (some 63) w := by kernel_rfl
theorem Tryz.mk29 (p : Addr) (w : World) : (ReflectliteValue.mk 63 p ReflectliteValue.flagAddr).run Tryz.prog w = .ok (.agg #[.pointer (some ⟨13, 63, none⟩), .pointer (some p), .int .u64 406]) w := by kernel_rfl
theorem Tryz.parts29a (a : Addr) (w : World) : (ReflectliteValue.parts (.agg #[.pointer (some ⟨13, 63, none⟩), .pointer (some a), .int .u64 406])).run Tryz.prog w = .ok (some (63, a, 406)) w := by kernel_rfl
theorem Tryz.parts29 (a : Addr) (w : World) : (ReflectliteValue.parts (.agg #[.pointer (some ⟨13, 63, none⟩), .pointer (some a), .int .u64 150])).run Tryz.prog w = .ok (some (63, a, 150)) w := by kernel_rfl
theorem Tryz.direct29 (w : World) : (Rtype.directlyAssignable 63 63).run Tryz.prog w = .ok true w := by kernel_rfl

/-- Value.Elem at the Value of a pointer that is not nil. -/
theorem Tryz.elemV53 (a p : Addr) (W : World) (ha : W.cell? a = some (.pointer (some p))) :
    (callFunc 88 #[.agg #[.pointer (some ⟨13, 87, none⟩), .pointer (some a), .int .u64 150]]).run Tryz.prog W = .ok (.value (.agg #[.pointer (some ⟨13, 63, none⟩), .pointer (some p), .int .u64 406])) W := by
  rw [@run_callFunc_extern Tryz.prog 88 _ (ReflectliteValue.method (ReflectliteValue.valueError "reflectlite.Value.Elem" 0) ReflectliteValue.elem) Tryz.func88 (by kernel_rfl) (by kernel_rfl) (by kernel_rfl) (by kernel_rfl)]
  obtain ⟨K, hK, hm⟩ := value_method (ReflectliteValue.valueError "reflectlite.Value.Elem" 0) ReflectliteValue.elem (.agg #[.pointer (some ⟨13, 87, none⟩), .pointer (some a), .int .u64 150])
  rw [hm]
  simp only [Sem.run_bind, Tryz.parts53, Result.andThen, hK]
  simp [ReflectliteValue.elem, loadVar, isAgg, underlying, Tryz.underlying87, ha, Result.andThen, Tryz.elemOf53, Tryz.mk29]

/-- Value.Set: the variable at ta gets what the Value's own variable b holds. -/
theorem Tryz.set29 (ta b e : Addr) (old : Value) (W : World) (hb : W.cell? b = some (.pointer (some e))) (ht : W.cell? ta = some old) (hf : W.frozen? ta = false) :
    (callFunc 89 #[.agg #[.pointer (some ⟨13, 63, none⟩), .pointer (some ta), .int .u64 406], .agg #[.pointer (some ⟨13, 63, none⟩), .pointer (some b), .int .u64 150]]).run Tryz.prog W = .ok (.value (.tuple #[])) (W.setCell ta (.pointer (some e))) := by
  rw [@run_callFunc_extern Tryz.prog 89 _ ReflectliteValue.set Tryz.func89 (by kernel_rfl) (by kernel_rfl) (by kernel_rfl) (by kernel_rfl)]
  change (Sem.run Tryz.prog (ReflectliteValue.parts (.agg #[.pointer (some ⟨13, 63, none⟩), .pointer (some ta), .int .u64 406]) >>= fun o1 => ReflectliteValue.parts (.agg #[.pointer (some ⟨13, 63, none⟩), .pointer (some b), .int .u64 150]) >>= _) W).andThen _ = _
  simp only [Sem.run_bind, Tryz.parts29a, Tryz.parts29, Result.andThen]
  simp [ReflectliteValue.flagAddr, loadVar, isAgg, underlying, Tryz.underlying63, hb, Result.andThen, Tryz.direct29, storeVar, Value.cells, storeCells, Addr.add]
  rw [run_store Tryz.prog W ta _ _ (by rfl)]
  simp [ht, hf]

theorem Tryz.noIsF (v : Value) (xT : TypeId) (w : World) : (Instr.typeAssert (.iface 63 v) xT 150 true).run Tryz.prog w = .ok (.tuple #[.nilIface, .bool false]) w := run_typeAssert_lacksB Tryz.underlying150 (by kernel_rfl) (by kernel_rfl) v xT w
theorem Tryz.hasUnwrapF (v : Value) (xT : TypeId) (w : World) : (Instr.typeAssert (.iface 63 v) xT 147 true).run Tryz.prog w = .ok (.tuple #[.iface 63 v, .bool true]) w := run_typeAssert_hasB Tryz.underlying147 (by kernel_rfl) v xT w

set_option maxHeartbeats 1000000 in
set_option maxRecDepth 100000 in
/-- errors.Is of a Fault that wraps the target. -/
theorem is_wrap_same (pb : Nat) (b : Addr) (w : World) (h1 : w.cell? ⟨pb, 1, none⟩ = some (.iface 157 (.pointer (some b)))) :
    Calls Tryz.prog 44 #[.iface 63 (.pointer (some ⟨pb, 0, none⟩)), .iface 157 (.pointer (some b))] w fun e w' => e = .returned (.bool true) ∧ w' = w := by
  obtain ⟨i, hi, hcmp⟩ := Option.map_eq_some_iff.1 Tryz.isComp
  obtain ⟨j, hj, hjs⟩ := Option.map_eq_some_iff.1 Tryz.isSize
  have tT := Tryz.typeOf55
  have cT := Tryz.comparable55
  have nE := Tryz.noIsE
  have uE := Tryz.noUnwrapE
  have vE := Tryz.noUnwrapsE
  have nW := Tryz.noIsF
  have uW := Tryz.hasUnwrapF
  have heq := run_eql_iface_ptr_same (P := Tryz.prog) w b Tryz.underlying27 Tryz.underlying157 hi hcmp hj
  have hty := run_eql_iface_types (P := Tryz.prog) 63 157 (.pointer (some ⟨pb, 0, none⟩)) (.pointer (some b)) Tryz.underlying27 (by decide) w
  go_enter Tryz.func44, Tryz.ntmps44
  go_wp2
  refine wp_loop_rounds 2 ?_
  rw [rounds_succ]
  go_wp2
  rw [rounds_succ]
  go_wp2
  go_ret
  exact ⟨rfl, rfl⟩

set_option maxHeartbeats 1000000 in
set_option maxRecDepth 100000 in
/-- errors.Is of a Fault that wraps another error of errors.New's make. -/
theorem is_wrap_other (pb : Nat) (a b : Addr) (ca cb : Array Value) (ta tb : TypeId) (w : World) (h1 : w.cell? ⟨pb, 1, none⟩ = some (.iface 157 (.pointer (some a)))) (hne : a ≠ b) (ha : w.heap[a.block]? = some (.cells ca ta (0, 0))) (hb : w.heap[b.block]? = some (.cells cb tb (0, 0))) :
    Calls Tryz.prog 44 #[.iface 63 (.pointer (some ⟨pb, 0, none⟩)), .iface 157 (.pointer (some b))] w fun e w' => e = .returned (.bool false) ∧ w' = w := by
  obtain ⟨i, hi, hcmp⟩ := Option.map_eq_some_iff.1 Tryz.isComp
  obtain ⟨j, hj, hjs⟩ := Option.map_eq_some_iff.1 Tryz.isSize
  have tT := Tryz.typeOf55
  have cT := Tryz.comparable55
  have nE := Tryz.noIsE
  have uE := Tryz.noUnwrapE
  have vE := Tryz.noUnwrapsE
  have nW := Tryz.noIsF
  have uW := Tryz.hasUnwrapF
  have heq := run_eql_iface_ptr_other (P := Tryz.prog) w Tryz.underlying27 Tryz.underlying157 hi hcmp hj (by rw [hjs]; decide) hne ha hb
  have hty := run_eql_iface_types (P := Tryz.prog) 63 157 (.pointer (some ⟨pb, 0, none⟩)) (.pointer (some b)) Tryz.underlying27 (by decide) w
  go_enter Tryz.func44, Tryz.ntmps44
  go_wp2
  refine wp_loop_rounds 2 ?_
  rw [rounds_succ]
  go_wp2
  rw [rounds_succ]
  go_wp2
  go_ret
  exact ⟨rfl, rfl⟩

set_option maxHeartbeats 4000000 in
set_option maxRecDepth 100000 in
/-- errors.As of a Fault, the target a variable of type *api.Fault of the caller's own: true, and the variable points to it. -/
theorem as_hit (e : Addr) (t : Nat) (w : World) (ht : t < w.heap.size) (hg : w.cell? ⟨12, 0, none⟩ = some (.iface 140 (.agg #[.pointer (some ⟨13, 27, none⟩)]))) (ht0 : w.cell? ⟨t, 0, none⟩ = some (.pointer none)) (hf0 : w.frozen? ⟨t, 0, none⟩ = false) :
    Calls Tryz.prog 43 #[.iface 63 (.pointer (some e)), .iface 87 (.pointer (some ⟨t, 0, none⟩))] w fun ev w' => ev = .returned (.bool true) ∧ Below t w w' ∧ w'.cell? ⟨t, 0, none⟩ = some (.pointer (some e)) ∧ (∀ k, k < w.heap.size → k ≠ t → w'.heap[k]? = w.heap[k]?) := by
  have f6 := Tryz.valueOf53
  have f7 := Tryz.type53
  have k27 := Tryz.kind53
  have k25 := Tryz.kind29
  have e27 := Tryz.elem53
  have i25 := Tryz.implements29
  have tO := Tryz.typeOf29
  have a25 := Tryz.assignable29
  have v25 := Tryz.valueOf29
  have n8 := Tryz.isNil53 ⟨w.heap.size, 0, none⟩ ⟨t, 0, none⟩ ((w.alloc (.cells #[.pointer (some ⟨t, 0, none⟩)] 87)).alloc (.cells #[.pointer (some ⟨13, 87, none⟩), .pointer (some ⟨w.heap.size, 0, none⟩), .int .u64 150] 114)) (by simp)
  have hlt : 12 < w.heap.size := World.block_lt_of_cell? _ _ hg
  have hg2 : ((w.alloc (.cells #[.pointer (some ⟨t, 0, none⟩)] 87)).alloc (.cells #[.pointer (some ⟨13, 87, none⟩), .pointer (some ⟨w.heap.size, 0, none⟩), .int .u64 150] 114)).cell? ⟨12, 0, none⟩ = some (.iface 140 (.agg #[.pointer (some ⟨13, 27, none⟩)])) := by
    rw [World.cell?_alloc_lt _ _ ⟨12, 0, none⟩ (by simp; omega), World.cell?_alloc_lt _ _ ⟨12, 0, none⟩ hlt]; exact hg
  have el := Tryz.elemV53 ⟨w.heap.size, 0, none⟩ ⟨t, 0, none⟩ (((w.alloc (.cells #[.pointer (some ⟨t, 0, none⟩)] 87)).alloc (.cells #[.pointer (some ⟨13, 87, none⟩), .pointer (some ⟨w.heap.size, 0, none⟩), .int .u64 150] 114)).alloc (.cells #[.pointer (some ⟨13, 87, none⟩), .pointer (some ⟨w.heap.size, 0, none⟩), .int .u64 150] 114)) (by rw [World.cell?_alloc_lt _ _ ⟨w.heap.size, 0, none⟩ (by simp; omega)]; simp)
  have st := Tryz.set29 ⟨t, 0, none⟩ ⟨w.heap.size + 1 + 1 + 1, 0, none⟩ e (.pointer none) ((((w.alloc (.cells #[.pointer (some ⟨t, 0, none⟩)] 87)).alloc (.cells #[.pointer (some ⟨13, 87, none⟩), .pointer (some ⟨w.heap.size, 0, none⟩), .int .u64 150] 114)).alloc (.cells #[.pointer (some ⟨13, 87, none⟩), .pointer (some ⟨w.heap.size, 0, none⟩), .int .u64 150] 114)).alloc (.cells #[.pointer (some e)] 63))
    (by rw [World.cell?_alloc_at _ _ _ _ (by simp)]; rfl)
    (by rw [World.cell?_alloc_lt _ _ ⟨t, 0, none⟩ (by simp; omega), World.cell?_alloc_lt _ _ ⟨t, 0, none⟩ (by simp; omega), World.cell?_alloc_lt _ _ ⟨t, 0, none⟩ (by simp; omega), World.cell?_alloc_lt _ _ ⟨t, 0, none⟩ ht]; exact ht0)
    (by rw [World.frozen?_alloc_old _ _ ⟨t, 0, none⟩ (by simp; omega), World.frozen?_alloc_old _ _ ⟨t, 0, none⟩ (by simp; omega), World.frozen?_alloc_old _ _ ⟨t, 0, none⟩ (by simp; omega), World.frozen?_alloc_old _ _ ⟨t, 0, none⟩ (Nat.ne_of_lt ht)]; exact hf0)
  have hb : Below w.heap.size w ((((w.alloc (.cells #[.pointer (some ⟨t, 0, none⟩)] 87)).alloc (.cells #[.pointer (some ⟨13, 87, none⟩), .pointer (some ⟨w.heap.size, 0, none⟩), .int .u64 150] 114)).alloc (.cells #[.pointer (some ⟨13, 87, none⟩), .pointer (some ⟨w.heap.size, 0, none⟩), .int .u64 150] 114)).alloc (.cells #[.pointer (some e)] 63)) := by go_grown
  have Hb := hide hb
  clear hb
  go_enter Tryz.func43, Tryz.ntmps43
  go_wp2
  refine wp_loop_rounds 1 ?_
  rw [rounds_succ]
  go_wp2
  go_ret
  refine ⟨rfl, (Hb.out.mono (by omega)).setCell (by simp) _, World.cell?_setCell_same _ _ _ ((Hb.out.cell (p := ⟨t, 0, none⟩) ht).trans ht0), fun k hk hkt => ?_⟩
  rw [Below.heap_setCell _ _ _ _ (by simpa using hkt)]
  exact Hb.out.block k hk
end Go.Proofs.YtcenohaadggdiacGreatDoor

namespace Go.Proofs.YtcenohaadggdiacGreatDoor
open Go.RowKit

set_option maxHeartbeats 2000000 in
set_option maxRecDepth 100000 in
/-- An error of errors.New's make that is none of the twelve. -/
theorem code_other (x : Addr) (a : Nat → Addr) (cx : Array Value) (tx : TypeId) (w : World) (h : Sents w a) (hx : w.heap[x.block]? = some (.cells cx tx (0, 0))) (hne : ∀ k, k < 12 → x ≠ a k) :
    Calls Tryz.prog 27 #[.iface 157 (.pointer (some x))] w fun r w' => r = .returned (.tuple #[.int .i64 (-1), .int .i64 (-1)]) ∧ Below w.heap.size w w' := by
  have H := hide h
  have HNE := hide hne
  clear h hne
  have hxl : x.block < w.heap.size := (Array.getElem?_eq_some_iff.1 hx).1
  have hb0 : Below w.heap.size w (w.alloc (.cells #[.pointer none] 63)) := (Below.refl _ _).alloc (Nat.le_refl _) _
  have HA := hide (H.out.below hb0)
  have Hb0 := hide hb0
  have HX := hide hx
  clear hb0 hx
  go_enter Tryz.func27, Tryz.ntmps27
  go_wp2_with fail
  refine (as_miss x _ _ HA.out.handle).mono ?_
  rintro e w1 ⟨rfl, hb1⟩
  have H1 := hide (HA.out.below hb1)
  have Hb1 := hide (Hb0.out.trans (hb1.mono (by simp)))
  have h0 := H1.out.c0
  have h1 := H1.out.c1
  have h2 := H1.out.c2
  have h3 := H1.out.c3
  have h4 := H1.out.c4
  have h5 := H1.out.c5
  have h6 := H1.out.c6
  have h7 := H1.out.c7
  have h8 := H1.out.c8
  have h9 := H1.out.c9
  have h10 := H1.out.c10
  have h11 := H1.out.c11
  clear hb1 HA Hb0
  go_wp2_with fail
  clear h0 h1 h2 h3 h4 h5 h6 h7 h8 h9 h10 h11
  have hb2 : Below w1.heap.size w1 (w1.alloc (.cells (errList a) 27)) := (Below.refl _ _).alloc (Nat.le_refl _) _
  have h2 := H1.out.below hb2
  have hcl := errList_cell a w1
  have hB2 := Hb1.out.trans (hb2.mono Hb1.out.size)
  unfold errList at h2 hcl hB2
  generalize hw2 : w1.alloc (.cells #[.iface 157 (.pointer (some (a 0))), .iface 157 (.pointer (some (a 1))), .iface 157 (.pointer (some (a 2))), .iface 157 (.pointer (some (a 3))), .iface 157 (.pointer (some (a 4))), .iface 157 (.pointer (some (a 5))), .iface 157 (.pointer (some (a 6))), .iface 157 (.pointer (some (a 7))), .iface 157 (.pointer (some (a 8))), .iface 157 (.pointer (some (a 9))), .iface 157 (.pointer (some (a 10))), .iface 157 (.pointer (some (a 11)))] 27) = w2 at *
  have H2 := hide h2
  have Hcl := hide hcl
  have HB2 := hide hB2
  clear hw2 h2 hcl hB2 hb2 H1 Hb1
  have HX2 := hide ((HB2.out.block _ hxl).trans HX.out)
  go_loop [3, 30] (fun v3 v30 => ∃ j : Nat, j ≤ 12 ∧ v3 = .int .i64 (-1) ∧ v30 = .int .i64 j) (fun _ v30 => 12 - (intOf v30).toNat)
  case atStart => exact ⟨0, Nat.zero_le _, rfl, rfl⟩
  case round =>
    obtain ⟨j, hj, rfl, rfl⟩ := hrel
    by_cases hjk : j < 12
    · have hj12 : (j : Int) < 12 := by omega
      have hc := Hcl.out j hjk
      obtain ⟨c2, t2, hr2⟩ := H2.out.row j hjk
      have hne := HNE.out j hjk
      have Hr2 := hide hr2
      have Hne := hide hne
      clear hr2 hne
      go_wp2_with fail
      refine (is_other x (a j) cx c2 tx t2 _ Hne.out HX2.out Hr2.out).mono ?_
      rintro e w3 ⟨rfl, rfl⟩
      go_wp2
      go_round
      case rel => exact ⟨j + 1, by omega, rfl, by go_num⟩
      case measure => simp [intOf]; omega
    · have hj12 : (12 : Int) ≤ (j : Int) := by omega
      go_wp2_with fail
      go_ret2
      exact ⟨rfl, HB2.out⟩

set_option maxHeartbeats 2000000 in
set_option maxRecDepth 100000 in
/-- A Fault with its place, which wraps one of the twelve. -/
theorem code_fault (k : Nat) (hk : k < 12) (pl : Int) (pb : Nat) (a : Nat → Addr) (w : World) (h : Sents w a) (hf0 : w.cell? ⟨pb, 0, none⟩ = some (.int .i64 pl)) (hf1 : w.cell? ⟨pb, 1, none⟩ = some (.iface 157 (.pointer (some (a k))))) :
    Calls Tryz.prog 27 #[.iface 63 (.pointer (some ⟨pb, 0, none⟩))] w fun r w' => r = .returned (.tuple #[.int .i64 ((k : Int) + 1), .int .i64 pl]) ∧ Below w.heap.size w w' := by
  have H := hide h
  clear h
  have hpl : pb < w.heap.size := World.block_lt_of_cell? _ _ hf0
  have hb0 : Below w.heap.size w (w.alloc (.cells #[.pointer none] 63)) := (Below.refl _ _).alloc (Nat.le_refl _) _
  have HA := hide (H.out.below hb0)
  have Hb0 := hide hb0
  have HF0 := hide hf0
  have HF1 := hide hf1
  clear hb0 hf0 hf1
  go_enter Tryz.func27, Tryz.ntmps27
  go_wp2_with fail
  refine (as_hit ⟨pb, 0, none⟩ w.heap.size _ (by simp) HA.out.handle (by simp) (by simp)).mono ?_
  rintro e w1 ⟨rfl, hb1, hcell, hoth⟩
  have hb01 : Below w.heap.size w w1 := Hb0.out.trans hb1
  have H1 := hide (H.out.below hb01)
  have Hb1 := hide hb01
  have hg0 := (hb01.cell (p := ⟨pb, 0, none⟩) hpl).trans HF0.out
  have hg1 := (hb01.cell (p := ⟨pb, 1, none⟩) hpl).trans HF1.out
  have h0 := H1.out.c0
  have h1 := H1.out.c1
  have h2 := H1.out.c2
  have h3 := H1.out.c3
  have h4 := H1.out.c4
  have h5 := H1.out.c5
  have h6 := H1.out.c6
  have h7 := H1.out.c7
  have h8 := H1.out.c8
  have h9 := H1.out.c9
  have h10 := H1.out.c10
  have h11 := H1.out.c11
  clear hb1 HA Hb0 hb01 hoth
  go_wp2_with fail
  clear h0 h1 h2 h3 h4 h5 h6 h7 h8 h9 h10 h11
  have hb2 : Below w1.heap.size w1 (w1.alloc (.cells (errList a) 27)) := (Below.refl _ _).alloc (Nat.le_refl _) _
  have h2 := H1.out.below hb2
  have hcl := errList_cell a w1
  have hB2 := Hb1.out.trans (hb2.mono Hb1.out.size)
  have hg2 := (hb2.cell (p := ⟨pb, 1, none⟩) (World.block_lt_of_cell? _ _ hg1)).trans hg1
  unfold errList at h2 hcl hB2 hg2
  generalize hw2 : w1.alloc (.cells #[.iface 157 (.pointer (some (a 0))), .iface 157 (.pointer (some (a 1))), .iface 157 (.pointer (some (a 2))), .iface 157 (.pointer (some (a 3))), .iface 157 (.pointer (some (a 4))), .iface 157 (.pointer (some (a 5))), .iface 157 (.pointer (some (a 6))), .iface 157 (.pointer (some (a 7))), .iface 157 (.pointer (some (a 8))), .iface 157 (.pointer (some (a 9))), .iface 157 (.pointer (some (a 10))), .iface 157 (.pointer (some (a 11)))] 27) = w2 at *
  have H2 := hide h2
  have Hcl := hide hcl
  have HB2 := hide hB2
  have HG2 := hide hg2
  clear hw2 h2 hcl hB2 hb2 H1 Hb1 hg2 hg0 hg1 hcell
  go_loop [3, 30] (fun v3 v30 => ∃ j : Nat, j ≤ k ∧ v3 = .int .i64 pl ∧ v30 = .int .i64 j) (fun _ v30 => 12 - (intOf v30).toNat)
  case atStart => exact ⟨0, Nat.zero_le _, rfl, rfl⟩
  case round =>
    obtain ⟨j, hj, rfl, rfl⟩ := hrel
    have hj12 : (j : Int) < 12 := by omega
    have hc := Hcl.out j (by omega)
    by_cases hjk : j = k
    · subst hjk
      go_wp2_with fail
      refine (is_wrap_same pb (a j) _ HG2.out).mono ?_
      rintro e w3 ⟨rfl, rfl⟩
      go_wp2
      go_ret2
      exact ⟨rfl, HB2.out⟩
    · obtain ⟨c1, t1, hr1⟩ := H2.out.row k hk
      obtain ⟨c2, t2, hr2⟩ := H2.out.row j (by omega)
      have hne := H2.out.ne k j hk (by omega) (fun e => hjk e.symm)
      have Hr1 := hide hr1
      have Hr2 := hide hr2
      have Hne := hide hne
      have Hjk := hide hjk
      clear hr1 hr2 hne hjk
      go_wp2_with fail
      refine (is_wrap_other pb (a k) (a j) c1 c2 t1 t2 _ HG2.out Hne.out Hr1.out Hr2.out).mono ?_
      rintro e w3 ⟨rfl, rfl⟩
      go_wp2
      go_round
      case rel => exact ⟨j + 1, by have := Hjk.out; omega, rfl, by go_num⟩
      case measure => simp [intOf]; omega
end Go.Proofs.YtcenohaadggdiacGreatDoor

namespace Go.Proofs.YtcenohaadggdiacGreatDoor
open Go.RowKit
open Go.Sign (Blk)

/-- The three errors among the twelve. -/
def evOf (a : Nat → Addr) : EV := ⟨157, .pointer (some (a 0)), 157, .pointer (some (a 1)), 157, .pointer (some (a 7))⟩
theorem Sents.er {w : World} {a : Nat → Addr} (h : Sents w a) : Er (evOf a) w := ⟨h.c0, h.c1, h.c7⟩
theorem errV_sent {a : Nat → Addr} {c : Nat} (h : c = 1 ∨ c = 2 ∨ c = 8) : ∃ k, k < 12 ∧ c = k + 1 ∧ errV (evOf a) c = .iface 157 (.pointer (some (a k))) := by
  rcases h with rfl | rfl | rfl
  · exact ⟨0, by decide, rfl, rfl⟩
  · exact ⟨1, by decide, rfl, rfl⟩
  · exact ⟨7, by decide, rfl, rfl⟩

theorem coded_errV (a : Nat → Addr) (c : Nat) (w : World) (h : Sents w a) (hc : c = 0 ∨ c = 1 ∨ c = 2 ∨ c = 8) :
    Calls Tryz.prog 18 #[errV (evOf a) c, .int .i64 c] w fun r w' => r = .returned (.bool true) ∧ Below w.heap.size w w' := by
  rcases hc with rfl | hc
  · refine (coded_nil 0 w).mono ?_
    rintro r w' ⟨rfl, rfl⟩
    exact ⟨rfl, Below.refl _ _⟩
  · obtain ⟨k, hk, rfl, e⟩ := errV_sent (a := a) hc
    rw [e]
    refine (coded_sent k hk a _ w h).mono ?_
    rintro r w' ⟨rfl, hb⟩
    exact ⟨ret_bool (by simp), hb⟩

set_option maxHeartbeats 1000000 in
set_option maxRecDepth 100000 in
theorem faulted_zero (x : Value) (at_ fa : Int) (w : World) (h : ∀ W, Below w.heap.size w W → Calls Tryz.prog 27 #[x] W fun r w' => r = .returned (.tuple #[.int .i64 0, .int .i64 at_]) ∧ Below W.heap.size W w') :
    Calls Tryz.prog 9 #[x, .agg #[.int .i64 0, .int .i64 fa]] w fun r w' => r = .returned (.bool true) ∧ Below w.heap.size w w' := by
  have HC := hide h
  clear h
  have hb0 : Below w.heap.size w (w.alloc (.cells #[.int .i64 0, .int .i64 fa] 32)) := (Below.refl _ _).alloc (Nat.le_refl _) _
  have Hb0 := hide hb0
  have Hq0 := hide (HvAt.fresh w 0 fa 32)
  clear hb0
  go_enter Tryz.func9, Tryz.ntmps9
  go_wp2_with fail
  refine (HC.out _ Hb0.out).mono ?_
  rintro r w1 ⟨rfl, hb1⟩
  have Hb1 := hide (Hb0.out.trans (hb1.mono (by simp)))
  have hq1 := Hq0.out.below hb1 Hq0.out.lt
  clear hb1 Hb0 Hq0
  obtain ⟨q0, q1, p0, p1, lt⟩ := hq1
  go_wp2
  go_ret
  exact ⟨rfl, Hb1.out⟩

set_option maxHeartbeats 1000000 in
set_option maxRecDepth 100000 in
theorem faulted_at (x : Value) (c at_ : Int) (w : World) (hc : c ≠ 0) (h : ∀ W, Below w.heap.size w W → Calls Tryz.prog 27 #[x] W fun r w' => r = .returned (.tuple #[.int .i64 c, .int .i64 at_]) ∧ Below W.heap.size W w') :
    Calls Tryz.prog 9 #[x, .agg #[.int .i64 c, .int .i64 at_]] w fun r w' => r = .returned (.bool true) ∧ Below w.heap.size w w' := by
  have HC := hide h
  clear h
  have hc' : (c == 0) = false := by simpa using hc
  clear hc
  have hb0 : Below w.heap.size w (w.alloc (.cells #[.int .i64 c, .int .i64 at_] 32)) := (Below.refl _ _).alloc (Nat.le_refl _) _
  have Hb0 := hide hb0
  have Hq0 := hide (HvAt.fresh w c at_ 32)
  clear hb0
  go_enter Tryz.func9, Tryz.ntmps9
  go_wp2_with fail
  refine (HC.out _ Hb0.out).mono ?_
  rintro r w1 ⟨rfl, hb1⟩
  have Hb1 := hide (Hb0.out.trans (hb1.mono (by simp)))
  have hq1 := Hq0.out.below hb1 Hq0.out.lt
  clear hb1 Hb0 Hq0
  obtain ⟨q0, q1, p0, p1, lt⟩ := hq1
  go_wp2
  go_ret
  exact ⟨rfl, Hb1.out⟩

theorem fault_code (l : List Blk) (k : Int) : (Go.Sign.fault l k).1 = 0 ∨ (Go.Sign.fault l k).1 = 2 ∨ (Go.Sign.fault l k).1 = 8 := by
  unfold Go.Sign.fault
  split
  · split
    · exact Or.inl rfl
    · rename_i i c h
      exact Or.inr (Go.Sign.scanW_code _ _ _ _ _ h).1
  · exact Or.inr (Or.inl rfl)

/-- Check's error is the document's fault. -/
theorem check_then (u : Value) (l : List Blk) (k : Int) (a : Nat → Addr) (w : World) (hu : RowIn w u l) (hl : l.length ≤ 1000000) (hS : Sents w a) :
    Calls Tryz.prog 21 #[u, .int .i64 k] w fun r w' => (∃ x, r = .returned x ∧ ∀ W, Below w'.heap.size w' W → Calls Tryz.prog 9 #[x, .agg #[.int .i64 (Go.Sign.fault l k).1, .int .i64 (Go.Sign.fault l k).2]] W fun r W' => r = .returned (.bool true) ∧ Below W.heap.size W W') ∧ Below w.heap.size w w' := by
  refine (check_ok u l k (evOf a) w hu hl hS.er).mono ?_
  rintro r w' ⟨hr, hb⟩
  refine ⟨?_, hb⟩
  have hcode := fault_code l k
  generalize Go.Sign.fault l k = f at *
  obtain ⟨c, at_⟩ := f
  simp only at hcode ⊢
  have hS' := hS.below hb
  unfold CheckRes at hr
  by_cases hc : c = 0
  · subst hc
    rw [if_pos (Or.inl rfl)] at hr
    refine ⟨_, hr, fun W hW => ?_⟩
    exact faulted_zero .nilIface (-1) at_ W (fun W' _ => (code_nil W').mono fun _ _ ⟨h1, h2⟩ => ⟨h1, by rw [h2]; exact Below.refl _ _⟩)
  · obtain ⟨j, hj, hcj, e⟩ := errV_sent (a := a) (c := c) (by omega)
    have hci : (c : Int) = (j : Int) + 1 := by omega
    by_cases ha : at_ = -1
    · subst ha
      rw [if_pos (Or.inr rfl)] at hr
      refine ⟨_, hr, fun W hW => ?_⟩
      simp only
      rw [e]
      refine faulted_at _ c (-1) W (by omega) (fun W' hW' => ?_)
      rw [hci]
      exact code_sent j hj a W' ((hS'.below hW).below hW')
    · rw [if_neg (by simp only [not_or]; exact ⟨hc, ha⟩)] at hr
      obtain ⟨p, hr, hp, c0, c1⟩ := hr
      refine ⟨_, hr, fun W hW => ?_⟩
      simp only at c0 c1
      rw [e] at c1
      refine faulted_at _ c at_ W (by omega) (fun W' hW' => ?_)
      rw [hci]
      have d0 := (hW.cell (World.block_lt_of_cell? _ _ c0)).trans c0
      have d1 := (hW.cell (World.block_lt_of_cell? _ _ c1)).trans c1
      exact code_fault j hj at_ p a W' ((hS'.below hW).below hW') ((hW'.cell (World.block_lt_of_cell? _ _ d0)).trans d0) ((hW'.cell (World.block_lt_of_cell? _ _ d1)).trans d1)

end Go.Proofs.YtcenohaadggdiacGreatDoor

namespace Go.Proofs.YtcenohaadggdiacGreatDoor
open Go.RowKit
open Go.Delta (Opx kCopy kData noBytes)

/-- The five errors that are met: what their variables hold. -/
structure OV where
  e : EV
  tS : TypeId
  xS : Value
  tK : TypeId
  xK : Value
/-- The three of them that a check meets. -/
structure OEr3 (e : OV) (w : World) : Prop where
  bound : w.cell? ⟨0, 0, none⟩ = some (.iface e.e.tB e.e.xB)
  shape : w.cell? ⟨2, 0, none⟩ = some (.iface e.tS e.xS)
  kind : w.cell? ⟨3, 0, none⟩ = some (.iface e.tK e.xK)
theorem OEr3.below {e : OV} {w w' : World} (h : OEr3 e w) (hb : Below w.heap.size w w') : OEr3 e w' :=
  ⟨(hb.cell (World.block_lt_of_cell? _ _ h.bound)).trans h.bound, (hb.cell (World.block_lt_of_cell? _ _ h.shape)).trans h.shape, (hb.cell (World.block_lt_of_cell? _ _ h.kind)).trans h.kind⟩
/-- An error by its number. -/
def errO (e : OV) : Nat → Value
  | 3 => .iface e.tS e.xS
  | 4 => .iface e.tK e.xK
  | c => errV e.e c
theorem errO_form (e : OV) (c : Nat) (h : c ≠ 0) : ∃ t x, errO e c = .iface t x := by
  match c, h with
  | 1, _ => exact ⟨_, _, rfl⟩
  | 2, _ => exact ⟨_, _, rfl⟩
  | 3, _ => exact ⟨_, _, rfl⟩
  | 4, _ => exact ⟨_, _, rfl⟩
  | c + 5, _ => exact ⟨_, _, rfl⟩

theorem isMany_ok (n : Int) (w : World) : Calls Tryz.prog 90 #[.int .i64 n] w fun r w' => r = .returned (.bool (decide (1 ≤ n ∧ n ≤ 4000))) ∧ w' = w := by
  by_cases h0 : 1 ≤ n
  · go_enter Tryz.func90, Tryz.ntmps90
    go_wp2
    go_ret
    exact ⟨ret_bool (by simp [h0]), rfl⟩
  · have h0' : decide (1 ≤ n) = false := by simp; omega
    go_enter Tryz.func90, Tryz.ntmps90
    go_wp2
    go_ret
    exact ⟨ret_bool (by simp), rfl⟩

/-- Kinds that are none, as a test tells it. -/
theorem kind_copy {k : ByteArray} (h : k ≠ kCopy) : (k.toList == [99, 111, 112, 121]) = false := by
  rw [beq_eq_false_iff_ne]
  exact fun e => h (bytes_ext (by rw [e, ByteArray.toList_eq]; rfl))
theorem kind_data {k : ByteArray} (h : k ≠ kData) : (k.toList == [100, 97, 116, 97]) = false := by
  rw [beq_eq_false_iff_ne]
  exact fun e => h (bytes_ext (by rw [e, ByteArray.toList_eq]; rfl))
/-- What is wrong with a copy, and with data. -/
def copyFault (o : Opx) : Nat := if o.data ≠ noBytes then 3 else if 0 ≤ o.at_ ∧ o.at_ ≤ 4000 ∧ 1 ≤ o.n ∧ o.n ≤ 4000 then 0 else 2
def dataFault (o : Opx) : Nat := if o.at_ = 0 ∧ o.n = 0 then (if 1 ≤ o.data.size ∧ o.data.size ≤ 4000 then 0 else 2) else 3

set_option maxHeartbeats 1000000 in
set_option maxRecDepth 100000 in
theorem wrongCopy_ok (o : Opx) (e : OV) (w : World) (he : OEr3 e w) : Calls Tryz.prog 76 #[oval o] w fun r w' => r = .returned (errO e (copyFault o)) ∧ Below w.heap.size w w' := by
  obtain ⟨k, a, n, d⟩ := o
  have hB := he.bound
  have hS := he.shape
  have lB := World.block_lt_of_cell? _ _ hB
  have lS := World.block_lt_of_cell? _ _ hS
  have I := hide (fun W => isMany_ok n W)
  unfold oval copyFault
  simp only
  clear he
  by_cases hd : d = noBytes
  · subst hd
    unfold noBytes
    rw [if_neg (by simp)]
    by_cases h0 : a < 0
    · rw [if_neg (by omega)]
      have h0' : decide (a < 0) = true := by simp; omega
      go_enter Tryz.func76, Tryz.ntmps76
      go_wp2
      go_ret
      exact ⟨rfl, (Below.refl _ _).alloc (Nat.le_refl _) _⟩
    · have h0' : decide (a < 0) = false := by simp; omega
      by_cases h1 : 4000 < a
      · rw [if_neg (by omega)]
        have h1' : decide (4000 < a) = true := by simp; omega
        go_enter Tryz.func76, Tryz.ntmps76
        go_wp2
        go_ret
        exact ⟨rfl, (Below.refl _ _).alloc (Nat.le_refl _) _⟩
      · have h1' : decide (4000 < a) = false := by simp; omega
        by_cases h2 : 1 ≤ n ∧ n ≤ 4000
        · rw [if_pos ⟨by omega, by omega, h2⟩]
          rw [show decide (1 ≤ n ∧ n ≤ 4000) = true from decide_eq_true h2] at I
          clear h2
          go_enter Tryz.func76, Tryz.ntmps76
          go_wp2_with fail
          refine (I.out _).mono ?_
          rintro r w1 ⟨rfl, rfl⟩
          go_wp2
          go_ret
          exact ⟨rfl, (Below.refl _ _).alloc (Nat.le_refl _) _⟩
        · rw [if_neg (fun h => h2 h.2.2)]
          rw [show decide (1 ≤ n ∧ n ≤ 4000) = false from decide_eq_false h2] at I
          clear h2
          go_enter Tryz.func76, Tryz.ntmps76
          go_wp2_with fail
          refine (I.out _).mono ?_
          rintro r w1 ⟨rfl, rfl⟩
          go_wp2
          go_ret
          exact ⟨rfl, (Below.refl _ _).alloc (Nat.le_refl _) _⟩
  · rw [if_pos hd]
    have hne : d.toList.isEmpty = false := by
      cases hx : d.toList.isEmpty with
      | false => rfl
      | true => exact absurd (bytes_ext (by rw [List.isEmpty_iff.1 hx, ByteArray.toList_eq]; rfl)) hd
    clear hd
    go_enter Tryz.func76, Tryz.ntmps76
    go_wp2
    go_ret
    exact ⟨rfl, (Below.refl _ _).alloc (Nat.le_refl _) _⟩

set_option maxHeartbeats 1000000 in
set_option maxRecDepth 100000 in
theorem wrongData_ok (o : Opx) (e : OV) (w : World) (he : OEr3 e w) (hs : o.data.size ≤ 1000000) : Calls Tryz.prog 77 #[oval o] w fun r w' => r = .returned (errO e (dataFault o)) ∧ Below w.heap.size w w' := by
  obtain ⟨k, a, n, d⟩ := o
  have hB := he.bound
  have hS := he.shape
  have lB := World.block_lt_of_cell? _ _ hB
  have lS := World.block_lt_of_cell? _ _ hS
  have I := hide (fun W => isMany_ok (d.size : Int) W)
  unfold oval dataFault
  simp only at hs ⊢
  clear he
  by_cases h0 : a = 0
  · subst h0
    by_cases h1 : n = 0
    · subst h1
      rw [if_pos ⟨rfl, rfl⟩]
      by_cases h2 : 1 ≤ d.size ∧ d.size ≤ 4000
      · rw [if_pos h2]
        rw [show decide (1 ≤ (d.size : Int) ∧ (d.size : Int) ≤ 4000) = true from decide_eq_true (by omega)] at I
        clear h2
        go_enter Tryz.func77, Tryz.ntmps77
        go_wp2_with fail
        refine (I.out _).mono ?_
        rintro r w1 ⟨rfl, rfl⟩
        go_wp2
        go_ret
        exact ⟨rfl, (Below.refl _ _).alloc (Nat.le_refl _) _⟩
      · rw [if_neg h2]
        rw [show decide (1 ≤ (d.size : Int) ∧ (d.size : Int) ≤ 4000) = false from decide_eq_false (by omega)] at I
        clear h2
        go_enter Tryz.func77, Tryz.ntmps77
        go_wp2_with fail
        refine (I.out _).mono ?_
        rintro r w1 ⟨rfl, rfl⟩
        go_wp2
        go_ret
        exact ⟨rfl, (Below.refl _ _).alloc (Nat.le_refl _) _⟩
    · rw [if_neg (fun h => h1 h.2)]
      have h1' : (n != 0) = true := by simpa using h1
      clear h1
      go_enter Tryz.func77, Tryz.ntmps77
      go_wp2
      go_ret
      exact ⟨rfl, (Below.refl _ _).alloc (Nat.le_refl _) _⟩
  · rw [if_neg (fun h => h0 h.1)]
    have h0' : (a != 0) = true := by simpa using h0
    clear h0
    go_enter Tryz.func77, Tryz.ntmps77
    go_wp2
    go_ret
    exact ⟨rfl, (Below.refl _ _).alloc (Nat.le_refl _) _⟩

set_option maxHeartbeats 1000000 in
set_option maxRecDepth 100000 in
theorem wrongOp_ok (o : Opx) (e : OV) (w : World) (he : OEr3 e w) (hs : o.data.size ≤ 1000000) : Calls Tryz.prog 49 #[oval o] w fun r w' => r = .returned (errO e (Go.Delta.opFault o)) ∧ Below w.heap.size w w' := by
  have HC := hide (fun W (h : Below w.heap.size w W) => wrongCopy_ok o e W (he.below h))
  have HD := hide (fun W (h : Below w.heap.size w W) => wrongData_ok o e W (he.below h) hs)
  have hK := he.kind
  have lK := World.block_lt_of_cell? _ _ hK
  have ef : Go.Delta.opFault o = if o.kind = kCopy then copyFault o else if o.kind = kData then dataFault o else 4 := rfl
  rw [ef]
  clear ef he
  obtain ⟨k, a, n, d⟩ := o
  unfold oval at HC HD ⊢
  simp only at HC HD ⊢
  generalize copyFault ⟨k, a, n, d⟩ = cf at *
  generalize dataFault ⟨k, a, n, d⟩ = df at *
  by_cases h1 : k = kCopy
  · subst h1
    rw [if_pos rfl]
    unfold kCopy at *
    generalize errO e cf = v at *
    go_enter Tryz.func49, Tryz.ntmps49
    go_wp2_with fail
    refine (HC.out _ ((Below.refl _ _).alloc (Nat.le_refl _) _)).mono ?_
    rintro r w1 ⟨rfl, hb1⟩
    have Hb1 := hide (((Below.refl w.heap.size w).alloc (Nat.le_refl _) (.cells #[.string ⟨#[99, 111, 112, 121]⟩, .int .i64 a, .int .i64 n, .string d] 44)).trans (hb1.mono (by simp)))
    clear hb1
    go_wp2
    go_ret
    exact ⟨rfl, Hb1.out⟩
  · rw [if_neg h1]
    by_cases h2 : k = kData
    · subst h2
      rw [if_pos rfl]
      unfold kData at *
      clear h1
      generalize errO e df = v at *
      go_enter Tryz.func49, Tryz.ntmps49
      go_wp2_with fail
      refine (HD.out _ ((Below.refl _ _).alloc (Nat.le_refl _) _)).mono ?_
      rintro r w1 ⟨rfl, hb1⟩
      have Hb1 := hide (((Below.refl w.heap.size w).alloc (Nat.le_refl _) (.cells #[.string ⟨#[100, 97, 116, 97]⟩, .int .i64 a, .int .i64 n, .string d] 44)).trans (hb1.mono (by simp)))
      clear hb1
      go_wp2
      go_ret
      exact ⟨rfl, Hb1.out⟩
    · rw [if_neg h2]
      have e1 := kind_copy h1
      have e2 := kind_data h2
      clear h1 h2
      go_enter Tryz.func49, Tryz.ntmps49
      go_wp2_with fail
      go_ret
      exact ⟨rfl, (Below.refl _ _).alloc (Nat.le_refl _) _⟩
end Go.Proofs.YtcenohaadggdiacGreatDoor

namespace Go.Proofs.YtcenohaadggdiacGreatDoor
open Go.RowKit
open Go.Delta (Opx)

/-- What the scan comes to, as firstWrong tells it. -/
def owrongOut : Option (Nat × Nat) → Int × Nat
  | none => (0, 0)
  | some (i, c) => (i, c)

/-- No op is too long for a machine. -/
def Short (l : List Opx) : Prop := ∀ o ∈ l, o.data.size ≤ 1000000

set_option maxHeartbeats 1000000 in
set_option maxRecDepth 100000 in
theorem owrong_ok (v : Value) (l : List Opx) (e : OV) (w : World) (hv : ORow w v l) (hl : l.length ≤ 1000000) (hs : Short l) (he : OEr3 e w) :
    Calls Tryz.prog 29 #[v] w fun r w' => r = .returned (.tuple #[.int .i64 (owrongOut (Go.Delta.scanO l 0)).1, errO e (owrongOut (Go.Delta.scanO l 0)).2]) ∧ Below w.heap.size w w' := by
  obtain ⟨a, c, rfl, hv⟩ := hv
  have HV := hide hv
  have HE := hide he
  have HS := hide hs
  have hl' : (l.length : Int) ≤ 1000000 := by omega
  clear he hv hs
  generalize hR : Go.Delta.scanO l 0 = R
  have HR := hide hR
  clear hR
  go_enter Tryz.func29, Tryz.ntmps29
  go_wp2_with fail
  go_loopw [9] (fun t wr => ∃ j : Nat, t = .int .i64 j ∧ j ≤ l.length ∧ Hid (Go.Delta.scanO (l.drop j) j = R) ∧ Hid (Below w.heap.size w wr)) (fun t _ => l.length - (intOf t).toNat)
  case atStart => exact ⟨0, rfl, by omega, HR.out, Below.refl _ _⟩
  case round =>
    clear HR
    obtain ⟨j, rfl, hj, Hsc, Hb⟩ := hrel
    by_cases hlt : j < l.length
    · have hlt' : (j : Int) < l.length := by omega
      obtain ⟨b, o, rfl, hc⟩ := HV.out (by omega)
      obtain ⟨c0, c1, c2, c3⟩ := hc j hlt
      have d0 := (Hb.out.cell (World.block_lt_of_cell? _ _ c0)).trans c0
      have d1 := (Hb.out.cell (World.block_lt_of_cell? _ _ c1)).trans c1
      have d2 := (Hb.out.cell (World.block_lt_of_cell? _ _ c2)).trans c2
      have d3 := (Hb.out.cell (World.block_lt_of_cell? _ _ c3)).trans c3
      have Hs := hide (Go.Delta.scanO_step l j hlt)
      rw [Hsc.out] at Hs
      have HW := hide (fun W (k : Below w.heap.size w W) => wrongOp_ok l[j] e W (HE.out.below k) (HS.out _ (List.getElem_mem hlt)))
      unfold oval at HW
      clear hc c0 c1 c2 c3 Hsc HV HS
      generalize l[j] = op at *
      generalize Go.Delta.opFault op = f at *
      have hba : Below w.heap.size w (wr.alloc (.cells #[.string op.kind, .int .i64 op.at_, .int .i64 op.n, .string op.data] 44)) := Hb.out.alloc Hb.out.size _
      have Hba := hide hba
      clear hba
      by_cases hf : f = 0
      · subst hf
        have hR := Hs.out
        rw [if_pos rfl] at hR
        have HR := hide hR
        clear hR Hs
        rw [show errO e 0 = .nilIface from rfl] at HW
        go_wp2_with fail
        refine (HW.out _ Hba.out).mono ?_
        rintro r w1 ⟨rfl, hb1⟩
        have Hb1 := hide (bthen Hba.out hb1)
        clear hb1
        go_wp2_with fail
        go_roundw
        case rel => exact ⟨j + 1, by go_num, by omega, HR.out.symm, Hb1.out⟩
        case measure => simp [intOf]; omega
      · have hR := Hs.out
        rw [if_neg hf] at hR
        subst hR
        obtain ⟨t, x, ev⟩ := errO_form e f hf
        rw [ev] at HW
        have Hev := hide ev
        clear ev Hs hf
        go_wp2_with fail
        refine (HW.out _ Hba.out).mono ?_
        rintro r w1 ⟨rfl, hb1⟩
        have Hb1 := hide (bthen Hba.out hb1)
        clear hb1
        go_wp2_with fail
        go_ret2
        exact ⟨by unfold owrongOut; simp only; rw [Hev.out]; rfl, Hb1.out⟩
    · have hle : (l.length : Int) ≤ (j : Int) := by omega
      have hR : R = none := by rw [← Hsc.out, List.drop_eq_nil_of_le (by omega), Go.Delta.scanO]
      subst hR
      go_wp2_with fail
      go_ret2
      exact ⟨rfl, Hb.out⟩

theorem faultO_code (l : List Opx) : (Go.Delta.faultO l).1 = 0 ∨ (Go.Delta.faultO l).1 = 2 ∨ (Go.Delta.faultO l).1 = 3 ∨ (Go.Delta.faultO l).1 = 4 := by
  unfold Go.Delta.faultO
  split
  · exact Or.inl rfl
  · rename_i i c h
    exact Or.inr (Go.Delta.scanO_code _ _ _ _ h).1
/-- What Check answers. -/
def OCheckRes (e : OV) (base : Nat) (f : Nat × Int) (w' : World) (r : Ending) : Prop :=
  if f.1 = 0 then r = .returned .nilIface else
    ∃ p, r = .returned (.iface 63 (.pointer (some ⟨p, 0, none⟩))) ∧ base ≤ p ∧ w'.cell? ⟨p, 0, none⟩ = some (.int .i64 f.2) ∧ w'.cell? ⟨p, 1, none⟩ = some (errO e f.1)

section
variable (a : Option Addr) (n cap : Nat) (at_ : Int) (t : TypeId) (x : Value) (w : World)
set_option maxHeartbeats 1000000 in
set_option maxRecDepth 100000 in
theorem ocheck_nil (h : Calls Tryz.prog 29 #[.slice a n cap] w fun r w' => r = .returned (.tuple #[.int .i64 at_, .nilIface]) ∧ Below w.heap.size w w') :
    Calls Tryz.prog 14 #[.slice a n cap] w fun r w' => r = .returned .nilIface ∧ Below w.heap.size w w' := by
  have HW := hide h
  clear h
  go_enter Tryz.func14, Tryz.ntmps14
  go_wp2_with fail
  refine HW.out.mono ?_
  rintro e1 w1 ⟨rfl, hb1⟩
  have Hb1 := hide hb1
  clear hb1
  go_wp2
  go_ret
  exact ⟨rfl, Hb1.out⟩
set_option maxHeartbeats 1000000 in
set_option maxRecDepth 100000 in
theorem ocheck_at (h : Calls Tryz.prog 29 #[.slice a n cap] w fun r w' => r = .returned (.tuple #[.int .i64 at_, .iface t x]) ∧ Below w.heap.size w w') :
    Calls Tryz.prog 14 #[.slice a n cap] w fun r w' => (∃ p, r = .returned (.iface 63 (.pointer (some ⟨p, 0, none⟩))) ∧ w.heap.size ≤ p ∧ w'.cell? ⟨p, 0, none⟩ = some (.int .i64 at_) ∧ w'.cell? ⟨p, 1, none⟩ = some (.iface t x)) ∧ Below w.heap.size w w' := by
  have HW := hide h
  clear h
  go_enter Tryz.func14, Tryz.ntmps14
  go_wp2_with fail
  refine HW.out.mono ?_
  rintro e1 w1 ⟨rfl, hb1⟩
  have Hb1 := hide hb1
  clear hb1
  go_wp2
  go_ret
  exact ⟨⟨w1.heap.size, rfl, Hb1.out.size, by simp, by simp⟩, Hb1.out.alloc Hb1.out.size _⟩
end

theorem ocheck_ok (v : Value) (l : List Opx) (e : OV) (w : World) (hv : ORow w v l) (hl : l.length ≤ 1000000) (hs : Short l) (he : OEr3 e w) :
    Calls Tryz.prog 14 #[v] w fun r w' => OCheckRes e w.heap.size (Go.Delta.faultO l) w' r ∧ Below w.heap.size w w' := by
  have HW := owrong_ok v l e w hv hl hs he
  obtain ⟨a, cap, rfl, _⟩ := hv
  unfold Go.Delta.faultO
  cases hx : Go.Delta.scanO l 0 with
  | none =>
    rw [hx] at HW
    refine (ocheck_nil _ _ _ _ _ HW).mono ?_
    rintro r w' ⟨rfl, hb⟩
    exact ⟨by rw [OCheckRes, if_pos rfl], hb⟩
  | some p =>
    obtain ⟨i, c⟩ := p
    have hc := (Go.Delta.scanO_code _ _ _ _ hx).1
    rw [hx] at HW
    obtain ⟨t, x, ev⟩ := errO_form e c (by omega)
    simp only [owrongOut, ev] at HW
    refine (ocheck_at _ _ _ _ _ _ _ HW).mono ?_
    rintro r w' ⟨hr, hb⟩
    refine ⟨?_, hb⟩
    rw [OCheckRes, if_neg (by simp only; omega)]
    simp only [ev]
    exact hr

set_option maxHeartbeats 1000000 in
set_option maxRecDepth 100000 in
theorem cost_ok (v : Value) (l : List Opx) (w : World) (hv : ORow w v l) (hl : l.length ≤ 1000000) (hs : Short l) :
    Calls Tryz.prog 19 #[v] w fun r w' => r = .returned (.int .i64 (Go.Delta.cost l)) ∧ Below w.heap.size w w' := by
  obtain ⟨a, c, rfl, hv⟩ := hv
  have HV := hide hv
  have HS := hide hs
  have hl' : (l.length : Int) ≤ 1000000 := by omega
  clear hv hs
  go_enter Tryz.func19, Tryz.ntmps19
  go_wp2_with fail
  go_loopw [3, 8] (fun t3 t wr => ∃ j n : Nat, t = .int .i64 j ∧ t3 = .int .i64 n ∧ j ≤ l.length ∧ n ≤ j * 1000000 ∧ Hid (n = Go.Delta.cost (l.take j)) ∧ Hid (Below w.heap.size w wr)) (fun _ t _ => l.length - (intOf t).toNat)
  case atStart => exact ⟨0, 0, rfl, rfl, by omega, by omega, by simp [Hid, Go.Delta.cost], Below.refl _ _⟩
  case round =>
    obtain ⟨j, n, rfl, rfl, hj, hn, Hn, Hb⟩ := hrel
    by_cases hlt : j < l.length
    · have hlt' : (j : Int) < l.length := by omega
      obtain ⟨b, o, rfl, hc⟩ := HV.out (by omega)
      obtain ⟨c0, c1, c2, c3⟩ := hc j hlt
      have d0 := (Hb.out.cell (World.block_lt_of_cell? _ _ c0)).trans c0
      have d1 := (Hb.out.cell (World.block_lt_of_cell? _ _ c1)).trans c1
      have d2 := (Hb.out.cell (World.block_lt_of_cell? _ _ c2)).trans c2
      have d3 := (Hb.out.cell (World.block_lt_of_cell? _ _ c3)).trans c3
      have Hsn := hide (List.take_succ_eq_append_getElem hlt)
      have hsz := HS.out _ (List.getElem_mem hlt)
      clear hc c0 c1 c2 c3
      generalize l[j] = op at *
      have hn' : (n : Int) + (op.data.size : Int) ≤ 1000000000000000 := by
        have : j * 1000000 ≤ 1000000 * 1000000 := Nat.mul_le_mul_right _ (by omega)
        omega
      go_wp2_with fail
      go_roundw
      case rel => exact ⟨j + 1, n + op.data.size, by go_num, by go_num, by omega, by omega, by rw [Hsn.out, Go.Delta.cost_snoc, ← Hn.out]; exact rfl, Hb.out.alloc Hb.out.size _⟩
      case measure => simp [intOf]; omega
    · have hle : (l.length : Int) ≤ (j : Int) := by omega
      have hN := Hn.out
      rw [List.take_of_length_le (by omega)] at hN
      have HN := hide hN
      clear hN
      go_wp2_with fail
      go_ret
      exact ⟨by rw [HN.out]; rfl, Hb.out⟩
end Go.Proofs.YtcenohaadggdiacGreatDoor
