/-
  Contracts of errors.As and errors.Is at an *api.Fault, over this dump.
  Contracts of plain.Code at an *api.Fault and at an error of another make, over this dump.
  Two numbers that lie in a block of their own.
  Contract of the laws' faulted over this dump: an error's number and its place, by what plain.Code tells.
  An error that is a fault, behind whatever happens.
  An error that is a fault, nil where there is none.
-/
import Derived.Test.YtogpjblikphpcaaGreatDoorCode
import Derived.Test.YtogpjblikphpcaaGreatDoorBase
namespace Go.Proofs.YtogpjblikphpcaaGreatDoor
open Go.RowKit Go.Extern.Stop Go.Stop Go.Extern

theorem Tryz.typeOf29 (v : Value) (w : World) : (callFunc 83 #[.iface 86 v]).run Tryz.prog w = .ok (.value (.iface 162 (.agg #[.pointer (some ⟨21, 86, none⟩)]))) w := by kernel_rfl
theorem Tryz.assignable29 (w : World) : (callFunc 196 #[.agg #[.pointer (some ⟨21, 86, none⟩)], .iface 162 (.agg #[.pointer (some ⟨21, 86, none⟩)])]).run Tryz.prog w = .ok (.value (.bool true)) w := by kernel_rfl
theorem Tryz.valueOf29 (t : Addr) (w : World) : (callFunc 79 #[.iface 86 (.pointer (some t))]).run Tryz.prog w = .ok (.value (.agg #[.pointer (some ⟨21, 86, none⟩), .pointer (some ⟨w.heap.size, 0, none⟩), .int .u64 150])) (w.alloc (.cells #[.pointer (some t)] 86)) := by kernel_rfl
theorem Tryz.elemOf53 (w : World) : (Rtype.elem? 117).run Tryz.prog w = .ok (some 86) w := by kernel_rfl
theorem Tryz.mk29 (p : Addr) (w : World) : (ReflectliteValue.mk 86 p ReflectliteValue.flagAddr).run Tryz.prog w = .ok (.agg #[.pointer (some ⟨21, 86, none⟩), .pointer (some p), .int .u64 406]) w := by kernel_rfl
theorem Tryz.parts29a (a : Addr) (w : World) : (ReflectliteValue.parts (.agg #[.pointer (some ⟨21, 86, none⟩), .pointer (some a), .int .u64 406])).run Tryz.prog w = .ok (some (86, a, 406)) w := by kernel_rfl
theorem Tryz.parts29 (a : Addr) (w : World) : (ReflectliteValue.parts (.agg #[.pointer (some ⟨21, 86, none⟩), .pointer (some a), .int .u64 150])).run Tryz.prog w = .ok (some (86, a, 150)) w := by kernel_rfl
theorem Tryz.direct29 (w : World) : (Rtype.directlyAssignable 86 86).run Tryz.prog w = .ok true w := by kernel_rfl

/-- Value.Elem at the Value of a pointer that is not nil. -/
theorem Tryz.elemV53 (a p : Addr) (W : World) (ha : W.cell? a = some (.pointer (some p))) :
    (callFunc 101 #[.agg #[.pointer (some ⟨21, 117, none⟩), .pointer (some a), .int .u64 150]]).run Tryz.prog W = .ok (.value (.agg #[.pointer (some ⟨21, 86, none⟩), .pointer (some p), .int .u64 406])) W := by
  rw [@run_callFunc_extern Tryz.prog 101 _ (ReflectliteValue.method (ReflectliteValue.valueError "reflectlite.Value.Elem" 0) ReflectliteValue.elem) Tryz.func101 (by kernel_rfl) (by kernel_rfl) (by kernel_rfl) (by kernel_rfl)]
  obtain ⟨K, hK, hm⟩ := value_method (ReflectliteValue.valueError "reflectlite.Value.Elem" 0) ReflectliteValue.elem (.agg #[.pointer (some ⟨21, 117, none⟩), .pointer (some a), .int .u64 150])
  rw [hm]
  simp only [Sem.run_bind, Tryz.parts53, Result.andThen, hK]
  simp [ReflectliteValue.elem, loadVar, isAgg, underlying, Tryz.underlying117, ha, Result.andThen, Tryz.elemOf53, Tryz.mk29]

/-- Value.Set: the variable at ta gets what the Value's own variable b holds. -/
theorem Tryz.set29 (ta b e : Addr) (old : Value) (W : World) (hb : W.cell? b = some (.pointer (some e))) (ht : W.cell? ta = some old) (hf : W.frozen? ta = false) :
    (callFunc 102 #[.agg #[.pointer (some ⟨21, 86, none⟩), .pointer (some ta), .int .u64 406], .agg #[.pointer (some ⟨21, 86, none⟩), .pointer (some b), .int .u64 150]]).run Tryz.prog W = .ok (.value (.tuple #[])) (W.setCell ta (.pointer (some e))) := by
  rw [@run_callFunc_extern Tryz.prog 102 _ ReflectliteValue.set Tryz.func102 (by kernel_rfl) (by kernel_rfl) (by kernel_rfl) (by kernel_rfl)]
  change (Sem.run Tryz.prog (ReflectliteValue.parts (.agg #[.pointer (some ⟨21, 86, none⟩), .pointer (some ta), .int .u64 406]) >>= fun o1 => ReflectliteValue.parts (.agg #[.pointer (some ⟨21, 86, none⟩), .pointer (some b), .int .u64 150]) >>= _) W).andThen _ = _
  simp only [Sem.run_bind, Tryz.parts29a, Tryz.parts29, Result.andThen]
  simp [ReflectliteValue.flagAddr, loadVar, isAgg, underlying, Tryz.underlying86, hb, Result.andThen, Tryz.direct29, storeVar, Value.cells, storeCells, Addr.add]
  rw [run_store Tryz.prog W ta _ _ (by rfl)]
  simp [ht, hf]

theorem Tryz.noIsF (v : Value) (xT : TypeId) (w : World) : (Instr.typeAssert (.iface 86 v) xT 173 true).run Tryz.prog w = .ok (.tuple #[.nilIface, .bool false]) w := run_typeAssert_lacksB Tryz.underlying173 (by kernel_rfl) (by kernel_rfl) v xT w
theorem Tryz.hasUnwrapF (v : Value) (xT : TypeId) (w : World) : (Instr.typeAssert (.iface 86 v) xT 169 true).run Tryz.prog w = .ok (.tuple #[.iface 86 v, .bool true]) w := run_typeAssert_hasB Tryz.underlying169 (by kernel_rfl) v xT w

set_option maxHeartbeats 1000000 in
set_option maxRecDepth 100000 in
/-- errors.Is of a Fault that wraps the target. -/
theorem is_wrap_same (pb : Nat) (b : Addr) (w : World) (h1 : w.cell? ⟨pb, 1, none⟩ = some (.iface 231 (.pointer (some b)))) :
    Calls Tryz.prog 59 #[.iface 86 (.pointer (some ⟨pb, 0, none⟩)), .iface 231 (.pointer (some b))] w fun e w' => e = .returned (.bool true) ∧ w' = w := by
  obtain ⟨i, hi, hcmp⟩ := Option.map_eq_some_iff.1 Tryz.isComp
  obtain ⟨j, hj, hjs⟩ := Option.map_eq_some_iff.1 Tryz.isSize
  have tT := Tryz.typeOf55
  have cT := Tryz.comparable55
  have nE := Tryz.noIsE
  have uE := Tryz.noUnwrapE
  have vE := Tryz.noUnwrapsE
  have nW := Tryz.noIsF
  have uW := Tryz.hasUnwrapF
  have heq := run_eql_iface_ptr_same (P := Tryz.prog) w b Tryz.underlying28 Tryz.underlying231 hi hcmp hj
  have hty := run_eql_iface_types (P := Tryz.prog) 86 231 (.pointer (some ⟨pb, 0, none⟩)) (.pointer (some b)) Tryz.underlying28 (by decide) w
  go_enter Tryz.func59, Tryz.ntmps59
  go_wp2
  refine wp_loop_rounds 2 ?_
  rw [rounds_succ]
  go_wp2
  rw [rounds_succ]
  go_wp2
  go_ret
  exact ⟨rfl, rfl⟩

set_option maxHeartbeats 1000000 in
set_option maxRecDepth 100000 in
/-- errors.Is of a Fault that wraps another error of errors.New's make. -/
theorem is_wrap_other (pb : Nat) (a b : Addr) (ca cb : Array Value) (ta tb : TypeId) (w : World) (h1 : w.cell? ⟨pb, 1, none⟩ = some (.iface 231 (.pointer (some a)))) (hne : a ≠ b) (ha : w.heap[a.block]? = some (.cells ca ta (0, 0))) (hb : w.heap[b.block]? = some (.cells cb tb (0, 0))) :
    Calls Tryz.prog 59 #[.iface 86 (.pointer (some ⟨pb, 0, none⟩)), .iface 231 (.pointer (some b))] w fun e w' => e = .returned (.bool false) ∧ w' = w := by
  obtain ⟨i, hi, hcmp⟩ := Option.map_eq_some_iff.1 Tryz.isComp
  obtain ⟨j, hj, hjs⟩ := Option.map_eq_some_iff.1 Tryz.isSize
  have tT := Tryz.typeOf55
  have cT := Tryz.comparable55
  have nE := Tryz.noIsE
  have uE := Tryz.noUnwrapE
  have vE := Tryz.noUnwrapsE
  have nW := Tryz.noIsF
  have uW := Tryz.hasUnwrapF
  have heq := run_eql_iface_ptr_other (P := Tryz.prog) w Tryz.underlying28 Tryz.underlying231 hi hcmp hj (by rw [hjs]; decide) hne ha hb
  have hty := run_eql_iface_types (P := Tryz.prog) 86 231 (.pointer (some ⟨pb, 0, none⟩)) (.pointer (some b)) Tryz.underlying28 (by decide) w
  go_enter Tryz.func59, Tryz.ntmps59
  go_wp2
  refine wp_loop_rounds 2 ?_
  rw [rounds_succ]
  go_wp2
  rw [rounds_succ]
  go_wp2
  go_ret
  exact ⟨rfl, rfl⟩

set_option maxHeartbeats 4000000 in
set_option maxRecDepth 100000 in
/-- errors.As of a Fault, the target a variable of type *api.Fault of the caller's own: true, and the variable points to it. -/
theorem as_hit (e : Addr) (t : Nat) (w : World) (ht : t < w.heap.size) (hg : w.cell? ⟨12, 0, none⟩ = some (.iface 162 (.agg #[.pointer (some ⟨21, 28, none⟩)]))) (ht0 : w.cell? ⟨t, 0, none⟩ = some (.pointer none)) (hf0 : w.frozen? ⟨t, 0, none⟩ = false) :
    Calls Tryz.prog 58 #[.iface 86 (.pointer (some e)), .iface 117 (.pointer (some ⟨t, 0, none⟩))] w fun ev w' => ev = .returned (.bool true) ∧ Below t w w' ∧ w'.cell? ⟨t, 0, none⟩ = some (.pointer (some e)) ∧ (∀ k, k < w.heap.size → k ≠ t → w'.heap[k]? = w.heap[k]?) := by
  have f6 := Tryz.valueOf53
  have f7 := Tryz.type53
  have k27 := Tryz.kind53
  have k25 := Tryz.kind29
  have e27 := Tryz.elem53
  have i25 := Tryz.implements29
  have tO := Tryz.typeOf29
  have a25 := Tryz.assignable29
  have v25 := Tryz.valueOf29
  have n8 := Tryz.isNil53 ⟨w.heap.size, 0, none⟩ ⟨t, 0, none⟩ ((w.alloc (.cells #[.pointer (some ⟨t, 0, none⟩)] 117)).alloc (.cells #[.pointer (some ⟨21, 117, none⟩), .pointer (some ⟨w.heap.size, 0, none⟩), .int .u64 150] 143)) (by simp)
  have hlt : 12 < w.heap.size := World.block_lt_of_cell? _ _ hg
  have hg2 : ((w.alloc (.cells #[.pointer (some ⟨t, 0, none⟩)] 117)).alloc (.cells #[.pointer (some ⟨21, 117, none⟩), .pointer (some ⟨w.heap.size, 0, none⟩), .int .u64 150] 143)).cell? ⟨12, 0, none⟩ = some (.iface 162 (.agg #[.pointer (some ⟨21, 28, none⟩)])) := by
    rw [World.cell?_alloc_lt _ _ ⟨12, 0, none⟩ (by simp; omega), World.cell?_alloc_lt _ _ ⟨12, 0, none⟩ hlt]; exact hg
  have el := Tryz.elemV53 ⟨w.heap.size, 0, none⟩ ⟨t, 0, none⟩ (((w.alloc (.cells #[.pointer (some ⟨t, 0, none⟩)] 117)).alloc (.cells #[.pointer (some ⟨21, 117, none⟩), .pointer (some ⟨w.heap.size, 0, none⟩), .int .u64 150] 143)).alloc (.cells #[.pointer (some ⟨21, 117, none⟩), .pointer (some ⟨w.heap.size, 0, none⟩), .int .u64 150] 143)) (by rw [World.cell?_alloc_lt _ _ ⟨w.heap.size, 0, none⟩ (by simp; omega)]; simp)
  have st := Tryz.set29 ⟨t, 0, none⟩ ⟨w.heap.size + 1 + 1 + 1, 0, none⟩ e (.pointer none) ((((w.alloc (.cells #[.pointer (some ⟨t, 0, none⟩)] 117)).alloc (.cells #[.pointer (some ⟨21, 117, none⟩), .pointer (some ⟨w.heap.size, 0, none⟩), .int .u64 150] 143)).alloc (.cells #[.pointer (some ⟨21, 117, none⟩), .pointer (some ⟨w.heap.size, 0, none⟩), .int .u64 150] 143)).alloc (.cells #[.pointer (some e)] 86))
    (by rw [World.cell?_alloc_at _ _ _ _ (by simp)]; rfl)
    (by rw [World.cell?_alloc_lt _ _ ⟨t, 0, none⟩ (by simp; omega), World.cell?_alloc_lt _ _ ⟨t, 0, none⟩ (by simp; omega), World.cell?_alloc_lt _ _ ⟨t, 0, none⟩ (by simp; omega), World.cell?_alloc_lt _ _ ⟨t, 0, none⟩ ht]; exact ht0)
    (by rw [World.frozen?_alloc_old _ _ ⟨t, 0, none⟩ (by simp; omega), World.frozen?_alloc_old _ _ ⟨t, 0, none⟩ (by simp; omega), World.frozen?_alloc_old _ _ ⟨t, 0, none⟩ (by simp; omega), World.frozen?_alloc_old _ _ ⟨t, 0, none⟩ (Nat.ne_of_lt ht)]; exact hf0)
  have hb : Below w.heap.size w ((((w.alloc (.cells #[.pointer (some ⟨t, 0, none⟩)] 117)).alloc (.cells #[.pointer (some ⟨21, 117, none⟩), .pointer (some ⟨w.heap.size, 0, none⟩), .int .u64 150] 143)).alloc (.cells #[.pointer (some ⟨21, 117, none⟩), .pointer (some ⟨w.heap.size, 0, none⟩), .int .u64 150] 143)).alloc (.cells #[.pointer (some e)] 86)) := by go_grown
  have Hb := hide hb
  clear hb
  go_enter Tryz.func58, Tryz.ntmps58
  go_wp2
  refine wp_loop_rounds 1 ?_
  rw [rounds_succ]
  go_wp2
  go_ret
  refine ⟨rfl, (Hb.out.mono (by omega)).setCell (by simp) _, World.cell?_setCell_same _ _ _ ((Hb.out.cell (p := ⟨t, 0, none⟩) ht).trans ht0), fun k hk hkt => ?_⟩
  rw [Below.heap_setCell _ _ _ _ (by simpa using hkt)]
  exact Hb.out.block k hk
end Go.Proofs.YtogpjblikphpcaaGreatDoor

namespace Go.Proofs.YtogpjblikphpcaaGreatDoor
open Go.RowKit

set_option maxHeartbeats 2000000 in
set_option maxRecDepth 100000 in
/-- An error of errors.New's make that is none of the twelve. -/
theorem code_other (x : Addr) (a : Nat → Addr) (cx : Array Value) (tx : TypeId) (w : World) (h : Sents w a) (hx : w.heap[x.block]? = some (.cells cx tx (0, 0))) (hne : ∀ k, k < 12 → x ≠ a k) :
    Calls Tryz.prog 33 #[.iface 231 (.pointer (some x))] w fun r w' => r = .returned (.tuple #[.int .i64 (-1), .int .i64 (-1)]) ∧ Below w.heap.size w w' := by
  have H := hide h
  have HNE := hide hne
  clear h hne
  have hxl : x.block < w.heap.size := (Array.getElem?_eq_some_iff.1 hx).1
  have hb0 : Below w.heap.size w (w.alloc (.cells #[.pointer none] 86)) := (Below.refl _ _).alloc (Nat.le_refl _) _
  have HA := hide (H.out.below hb0)
  have Hb0 := hide hb0
  have HX := hide hx
  clear hb0 hx
  go_enter Tryz.func33, Tryz.ntmps33
  go_wp2_with fail
  refine (as_miss x _ _ HA.out.handle).mono ?_
  rintro e w1 ⟨rfl, hb1⟩
  have H1 := hide (HA.out.below hb1)
  have Hb1 := hide (Hb0.out.trans (hb1.mono (by simp)))
  have h0 := H1.out.c0
  have h1 := H1.out.c1
  have h2 := H1.out.c2
  have h3 := H1.out.c3
  have h4 := H1.out.c4
  have h5 := H1.out.c5
  have h6 := H1.out.c6
  have h7 := H1.out.c7
  have h8 := H1.out.c8
  have h9 := H1.out.c9
  have h10 := H1.out.c10
  have h11 := H1.out.c11
  clear hb1 HA Hb0
  go_wp2_with fail
  clear h0 h1 h2 h3 h4 h5 h6 h7 h8 h9 h10 h11
  have hb2 : Below w1.heap.size w1 (w1.alloc (.cells (errList a) 28)) := (Below.refl _ _).alloc (Nat.le_refl _) _
  have h2 := H1.out.below hb2
  have hcl := errList_cell a w1
  have hB2 := Hb1.out.trans (hb2.mono Hb1.out.size)
  unfold errList at h2 hcl hB2
  generalize hw2 : w1.alloc (.cells #[.iface 231 (.pointer (some (a 0))), .iface 231 (.pointer (some (a 1))), .iface 231 (.pointer (some (a 2))), .iface 231 (.pointer (some (a 3))), .iface 231 (.pointer (some (a 4))), .iface 231 (.pointer (some (a 5))), .iface 231 (.pointer (some (a 6))), .iface 231 (.pointer (some (a 7))), .iface 231 (.pointer (some (a 8))), .iface 231 (.pointer (some (a 9))), .iface 231 (.pointer (some (a 10))), .iface 231 (.pointer (some (a 11)))] 28) = w2 at *
  have H2 := hide h2
  have Hcl := hide hcl
  have HB2 := hide hB2
  clear hw2 h2 hcl hB2 hb2 H1 Hb1
  have HX2 := hide ((HB2.out.block _ hxl).trans HX.out)
  go_loop [3, 30] (fun v3 v30 => ∃ j : Nat, j ≤ 12 ∧ v3 = .int .i64 (-1) ∧ v30 = .int .i64 j) (fun _ v30 => 12 - (intOf v30).toNat)
  case atStart => exact ⟨0, Nat.zero_le _, rfl, rfl⟩
  case round =>
    obtain ⟨j, hj, rfl, rfl⟩ := hrel
    by_cases hjk : j < 12
    · have hj12 : (j : Int) < 12 := by omega
      have hc := Hcl.out j hjk
      obtain ⟨c2, t2, hr2⟩ := H2.out.row j hjk
      have hne := HNE.out j hjk
      have Hr2 := hide hr2
      have Hne := hide hne
      clear hr2 hne
      go_wp2_with fail
      refine (is_other x (a j) cx c2 tx t2 _ Hne.out HX2.out Hr2.out).mono ?_
      rintro e w3 ⟨rfl, rfl⟩
      go_wp2
      go_round
      case rel => exact ⟨j + 1, by omega, rfl, by go_num⟩
      case measure => simp [intOf]; omega
    · have hj12 : (12 : Int) ≤ (j : Int) := by omega
      go_wp2_with fail
      go_ret2
      exact ⟨rfl, HB2.out⟩

set_option maxHeartbeats 2000000 in
set_option maxRecDepth 100000 in
/-- A Fault with its place, which wraps one of the twelve. -/
theorem code_fault (k : Nat) (hk : k < 12) (pl : Int) (pb : Nat) (a : Nat → Addr) (w : World) (h : Sents w a) (hf0 : w.cell? ⟨pb, 0, none⟩ = some (.int .i64 pl)) (hf1 : w.cell? ⟨pb, 1, none⟩ = some (.iface 231 (.pointer (some (a k))))) :
    Calls Tryz.prog 33 #[.iface 86 (.pointer (some ⟨pb, 0, none⟩))] w fun r w' => r = .returned (.tuple #[.int .i64 ((k : Int) + 1), .int .i64 pl]) ∧ Below w.heap.size w w' := by
  have H := hide h
  clear h
  have hpl : pb < w.heap.size := World.block_lt_of_cell? _ _ hf0
  have hb0 : Below w.heap.size w (w.alloc (.cells #[.pointer none] 86)) := (Below.refl _ _).alloc (Nat.le_refl _) _
  have HA := hide (H.out.below hb0)
  have Hb0 := hide hb0
  have HF0 := hide hf0
  have HF1 := hide hf1
  clear hb0 hf0 hf1
  go_enter Tryz.func33, Tryz.ntmps33
  go_wp2_with fail
  refine (as_hit ⟨pb, 0, none⟩ w.heap.size _ (by simp) HA.out.handle (by simp) (by simp)).mono ?_
  rintro e w1 ⟨rfl, hb1, hcell, hoth⟩
  have hb01 : Below w.heap.size w w1 := Hb0.out.trans hb1
  have H1 := hide (H.out.below hb01)
  have Hb1 := hide hb01
  have hg0 := (hb01.cell (p := ⟨pb, 0, none⟩) hpl).trans HF0.out
  have hg1 := (hb01.cell (p := ⟨pb, 1, none⟩) hpl).trans HF1.out
  have h0 := H1.out.c0
  have h1 := H1.out.c1
  have h2 := H1.out.c2
  have h3 := H1.out.c3
  have h4 := H1.out.c4
  have h5 := H1.out.c5
  have h6 := H1.out.c6
  have h7 := H1.out.c7
  have h8 := H1.out.c8
  have h9 := H1.out.c9
  have h10 := H1.out.c10
  have h11 := H1.out.c11
  clear hb1 HA Hb0 hb01 hoth
  go_wp2_with fail
  clear h0 h1 h2 h3 h4 h5 h6 h7 h8 h9 h10 h11
  have hb2 : Below w1.heap.size w1 (w1.alloc (.cells (errList a) 28)) := (Below.refl _ _).alloc (Nat.le_refl _) _
  have h2 := H1.out.below hb2
  have hcl := errList_cell a w1
  have hB2 := Hb1.out.trans (hb2.mono Hb1.out.size)
  have hg2 := (hb2.cell (p := ⟨pb, 1, none⟩) (World.block_lt_of_cell? _ _ hg1)).trans hg1
  unfold errList at h2 hcl hB2 hg2
  generalize hw2 : w1.alloc (.cells #[.iface 231 (.pointer (some (a 0))), .iface 231 (.pointer (some (a 1))), .iface 231 (.pointer (some (a 2))), .iface 231 (.pointer (some (a 3))), .iface 231 (.pointer (some (a 4))), .iface 231 (.pointer (some (a 5))), .iface 231 (.pointer (some (a 6))), .iface 231 (.pointer (some (a 7))), .iface 231 (.pointer (some (a 8))), .iface 231 (.pointer (some (a 9))), .iface 231 (.pointer (some (a 10))), .iface 231 (.pointer (some (a 11)))] 28) = w2 at *
  have H2 := hide h2
  have Hcl := hide hcl
  have HB2 := hide hB2
  have HG2 := hide hg2
  clear hw2 h2 hcl hB2 hb2 H1 Hb1 hg2 hg0 hg1 hcell
  go_loop [3, 30] (fun v3 v30 => ∃ j : Nat, j ≤ k ∧ v3 = .int .i64 pl ∧ v30 = .int .i64 j) (fun _ v30 => 12 - (intOf v30).toNat)
  case atStart => exact ⟨0, Nat.zero_le _, rfl, rfl⟩
  case round =>
    obtain ⟨j, hj, rfl, rfl⟩ := hrel
    have hj12 : (j : Int) < 12 := by omega
    have hc := Hcl.out j (by omega)
    by_cases hjk : j = k
    · subst hjk
      go_wp2_with fail
      refine (is_wrap_same pb (a j) _ HG2.out).mono ?_
      rintro e w3 ⟨rfl, rfl⟩
      go_wp2
      go_ret2
      exact ⟨rfl, HB2.out⟩
    · obtain ⟨c1, t1, hr1⟩ := H2.out.row k hk
      obtain ⟨c2, t2, hr2⟩ := H2.out.row j (by omega)
      have hne := H2.out.ne k j hk (by omega) (fun e => hjk e.symm)
      have Hr1 := hide hr1
      have Hr2 := hide hr2
      have Hne := hide hne
      have Hjk := hide hjk
      clear hr1 hr2 hne hjk
      go_wp2_with fail
      refine (is_wrap_other pb (a k) (a j) c1 c2 t1 t2 _ HG2.out Hne.out Hr1.out Hr2.out).mono ?_
      rintro e w3 ⟨rfl, rfl⟩
      go_wp2
      go_round
      case rel => exact ⟨j + 1, by have := Hjk.out; omega, rfl, by go_num⟩
      case measure => simp [intOf]; omega
end Go.Proofs.YtogpjblikphpcaaGreatDoor

namespace Go.Proofs.YtogpjblikphpcaaGreatDoor
open Go.RowKit

/-- Two numbers at block p. -/
structure HvAt (p : Nat) (w : World) (a b : Int) : Prop where
  c0 : w.cell? ⟨p, 0, none⟩ = some (.int .i64 a)
  c1 : w.cell? ⟨p, 1, none⟩ = some (.int .i64 b)
  f0 : w.frozen? ⟨p, 0, none⟩ = false
  f1 : w.frozen? ⟨p, 1, none⟩ = false
  lt : p < w.heap.size

theorem HvAt.below {p k : Nat} {w w' : World} {a b : Int} (h : HvAt p w a b) (hb : Below k w w') (hp : p < k) : HvAt p w' a b :=
  ⟨(hb.cell (p := ⟨p, 0, none⟩) (by simpa using hp)).trans h.c0, (hb.cell (p := ⟨p, 1, none⟩) (by simpa using hp)).trans h.c1, (hb.frozen (p := ⟨p, 0, none⟩) (by simpa using hp)).trans h.f0, (hb.frozen (p := ⟨p, 1, none⟩) (by simpa using hp)).trans h.f1, Nat.lt_of_lt_of_le h.lt hb.size⟩

theorem HvAt.set {p : Nat} {w : World} {a b : Int} (h : HvAt p w a b) (c d : Int) : HvAt p ((w.setCell ⟨p, 0, none⟩ (.int .i64 c)).setCell ⟨p, 1, none⟩ (.int .i64 d)) c d := by
  obtain ⟨c0, c1, f0, f1, lt⟩ := h
  refine ⟨?_, ?_, by simpa using f0, by simpa using f1, by simpa using lt⟩
  · rw [World.cell?_setCell_other _ _ _ _ (by simp)]; exact World.cell?_setCell_same _ _ _ c0
  · exact World.cell?_setCell_same _ _ _ (by rw [World.cell?_setCell_other _ _ _ _ (by simp)]; exact c1)

theorem HvAt.drew {p : Nat} {w : World} {a b : Int} (h : HvAt p w a b) : HvAt p w.drew a b := ⟨h.c0, h.c1, h.f0, h.f1, h.lt⟩

theorem HvAt.fresh (w : World) (a b : Int) (t : TypeId) : HvAt w.heap.size (w.alloc (.cells #[.int .i64 a, .int .i64 b] t)) a b :=
  ⟨by simp, by simp, by simp, by simp, by simp⟩
end Go.Proofs.YtogpjblikphpcaaGreatDoor

namespace Go.Proofs.YtogpjblikphpcaaGreatDoor
open Go.RowKit

set_option maxHeartbeats 1000000 in
set_option maxRecDepth 100000 in
theorem faulted_zero (x : Value) (at_ fa : Int) (w : World) (h : ∀ W, Below w.heap.size w W → Calls Tryz.prog 33 #[x] W fun r w' => r = .returned (.tuple #[.int .i64 0, .int .i64 at_]) ∧ Below W.heap.size W w') :
    Calls Tryz.prog 21 #[x, .agg #[.int .i64 0, .int .i64 fa]] w fun r w' => r = .returned (.bool true) ∧ Below w.heap.size w w' := by
  have HC := hide h
  clear h
  have hb0 : Below w.heap.size w (w.alloc (.cells #[.int .i64 0, .int .i64 fa] 48)) := (Below.refl _ _).alloc (Nat.le_refl _) _
  have Hb0 := hide hb0
  have Hq0 := hide (HvAt.fresh w 0 fa 48)
  clear hb0
  go_enter Tryz.func21, Tryz.ntmps21
  go_wp2_with fail
  refine (HC.out _ Hb0.out).mono ?_
  rintro r w1 ⟨rfl, hb1⟩
  have Hb1 := hide (Hb0.out.trans (hb1.mono (by simp)))
  have hq1 := Hq0.out.below hb1 Hq0.out.lt
  clear hb1 Hb0 Hq0
  obtain ⟨q0, q1, p0, p1, lt⟩ := hq1
  go_wp2
  go_ret
  exact ⟨rfl, Hb1.out⟩

set_option maxHeartbeats 1000000 in
set_option maxRecDepth 100000 in
theorem faulted_at (x : Value) (c at_ : Int) (w : World) (hc : c ≠ 0) (h : ∀ W, Below w.heap.size w W → Calls Tryz.prog 33 #[x] W fun r w' => r = .returned (.tuple #[.int .i64 c, .int .i64 at_]) ∧ Below W.heap.size W w') :
    Calls Tryz.prog 21 #[x, .agg #[.int .i64 c, .int .i64 at_]] w fun r w' => r = .returned (.bool true) ∧ Below w.heap.size w w' := by
  have HC := hide h
  clear h
  have hc' : (c == 0) = false := by simpa using hc
  clear hc
  have hb0 : Below w.heap.size w (w.alloc (.cells #[.int .i64 c, .int .i64 at_] 48)) := (Below.refl _ _).alloc (Nat.le_refl _) _
  have Hb0 := hide hb0
  have Hq0 := hide (HvAt.fresh w c at_ 48)
  clear hb0
  go_enter Tryz.func21, Tryz.ntmps21
  go_wp2_with fail
  refine (HC.out _ Hb0.out).mono ?_
  rintro r w1 ⟨rfl, hb1⟩
  have Hb1 := hide (Hb0.out.trans (hb1.mono (by simp)))
  have hq1 := Hq0.out.below hb1 Hq0.out.lt
  clear hb1 Hb0 Hq0
  obtain ⟨q0, q1, p0, p1, lt⟩ := hq1
  go_wp2
  go_ret
  exact ⟨rfl, Hb1.out⟩
end Go.Proofs.YtogpjblikphpcaaGreatDoor

namespace Go.Proofs.YtogpjblikphpcaaGreatDoor
open Go.RowKit

/-- An error that is the fault (c, at), behind whatever happens. -/
def Tells (w' : World) (x : Value) (c : Nat) (at_ : Int) : Prop :=
  ∀ W, Below w'.heap.size w' W → Calls Tryz.prog 21 #[x, .agg #[.int .i64 c, .int .i64 at_]] W fun r W' => r = .returned (.bool true) ∧ Below W.heap.size W W'
theorem Tells.below {w w' : World} {x : Value} {c : Nat} {at_ : Int} (h : Tells w x c at_) (hb : Below w.heap.size w w') : Tells w' x c at_ := fun W hW => h W (bthen hb hW)
theorem tells_nil (w : World) (at_ : Int) : Tells w .nilIface 0 at_ := fun W _ =>
  faulted_zero .nilIface (-1) at_ W (fun W' _ => (code_nil W').mono fun _ _ ⟨h1, h2⟩ => ⟨h1, by rw [h2]; exact Below.refl _ _⟩)
theorem tells_bare (w : World) (a : Nat → Addr) (hS : Sents w a) (j : Nat) (hj : j < 12) : Tells w (.iface 231 (.pointer (some (a j)))) (j + 1) (-1) := fun W hW => by
  refine faulted_at _ _ (-1) W (by omega) (fun W' hW' => ?_)
  rw [show ((j + 1 : Nat) : Int) = (j : Int) + 1 by omega]
  exact code_sent j hj a W' ((hS.below hW).below hW')
theorem tells_at (w : World) (a : Nat → Addr) (hS : Sents w a) (j : Nat) (hj : j < 12) (p : Nat) (at_ : Int) (c0 : w.cell? ⟨p, 0, none⟩ = some (.int .i64 at_)) (c1 : w.cell? ⟨p, 1, none⟩ = some (.iface 231 (.pointer (some (a j))))) :
    Tells w (.iface 86 (.pointer (some ⟨p, 0, none⟩))) (j + 1) at_ := fun W hW => by
  refine faulted_at _ _ at_ W (by omega) (fun W' hW' => ?_)
  rw [show ((j + 1 : Nat) : Int) = (j : Int) + 1 by omega]
  have d0 := (hW.cell (World.block_lt_of_cell? _ _ c0)).trans c0
  have d1 := (hW.cell (World.block_lt_of_cell? _ _ c1)).trans c1
  exact code_fault j hj at_ p a W' ((hS.below hW).below hW') ((hW'.cell (World.block_lt_of_cell? _ _ d0)).trans d0) ((hW'.cell (World.block_lt_of_cell? _ _ d1)).trans d1)
end Go.Proofs.YtogpjblikphpcaaGreatDoor

namespace Go.Proofs.YtogpjblikphpcaaGreatDoor
open Go.RowKit

/-- An error that is the fault (c, at), nil where there is none. -/
structure ErrOf (w' : World) (x : Value) (c : Nat) (at_ : Int) : Prop where
  tells : Tells w' x c at_
  none : c = 0 → x = .nilIface
  some : c ≠ 0 → ∃ t y, x = .iface t y
theorem errOf_nil (w : World) (at_ : Int) : ErrOf w .nilIface 0 at_ := ⟨tells_nil w at_, fun _ => rfl, fun h => absurd rfl h⟩
theorem errOf_bare (w : World) (a : Nat → Addr) (hS : Sents w a) (j : Nat) (hj : j < 12) : ErrOf w (.iface 231 (.pointer (some (a j)))) (j + 1) (-1) := ⟨tells_bare w a hS j hj, fun h => by omega, fun _ => ⟨_, _, rfl⟩⟩
theorem errOf_at (w : World) (a : Nat → Addr) (hS : Sents w a) (j : Nat) (hj : j < 12) (p : Nat) (at_ : Int) (c0 : w.cell? ⟨p, 0, Option.none⟩ = Option.some (.int .i64 at_)) (c1 : w.cell? ⟨p, 1, Option.none⟩ = Option.some (.iface 231 (.pointer (Option.some (a j))))) :
    ErrOf w (.iface 86 (.pointer (Option.some ⟨p, 0, Option.none⟩))) (j + 1) at_ := ⟨tells_at w a hS j hj p at_ c0 c1, fun h => by omega, fun _ => ⟨_, _, rfl⟩⟩
theorem ErrOf.below {w w' : World} {x : Value} {c : Nat} {at_ : Int} (h : ErrOf w x c at_) (hb : Below w.heap.size w w') : ErrOf w' x c at_ := ⟨h.tells.below hb, h.none, h.some⟩
end Go.Proofs.YtogpjblikphpcaaGreatDoor
