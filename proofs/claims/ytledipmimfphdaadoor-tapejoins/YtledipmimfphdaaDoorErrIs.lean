/-
  Contracts of errors.Is and errors.As at the errors of this dump.
-/
import Derived.Test.YtledipmimfphdaaDoorChecked
import Derived.WalkKit
import Derived.WalkSpells
import Derived.Handy
import Derived.LaidEql
import Derived.Stop.Asserts
import Derived.RowKitTokens
namespace Go.Proofs.YtledipmimfphdaaDoor
open Go.RowKit Go.Extern.Stop Go.Stop Go.Extern

theorem Tryd.typeOf55 (v : Value) (w : World) : (callFunc 44 #[.iface 134 v]).run Tryd.prog w = .ok (.value (.iface 97 (.agg #[.pointer (some ⟨19, 134, none⟩)]))) w := by kernel_rfl
theorem Tryd.comparable55 (w : World) : (callFunc 106 #[.agg #[.pointer (some ⟨19, 134, none⟩)]]).run Tryd.prog w = .ok (.value (.bool true)) w := by kernel_rfl
theorem Tryd.isComp : (Tryd.prog.info? 134).map (·.comparable) = some true := by kernel_rfl
theorem Tryd.isSize : (Tryd.prog.info? 136).map (·.size) = some 1 := by kernel_rfl
theorem Tryd.noIsE (v : Value) (xT : TypeId) (w : World) : (Instr.typeAssert (.iface 134 v) xT 108 true).run Tryd.prog w = .ok (.tuple #[.nilIface, .bool false]) w := run_typeAssert_lacksB Tryd.underlying108 (by kernel_rfl) (by kernel_rfl) v xT w
theorem Tryd.noUnwrapE (v : Value) (xT : TypeId) (w : World) : (Instr.typeAssert (.iface 134 v) xT 104 true).run Tryd.prog w = .ok (.tuple #[.nilIface, .bool false]) w := run_typeAssert_lacksB Tryd.underlying104 (by kernel_rfl) (by kernel_rfl) v xT w
theorem Tryd.noUnwrapsE (v : Value) (xT : TypeId) (w : World) : (Instr.typeAssert (.iface 134 v) xT 106 true).run Tryd.prog w = .ok (.tuple #[.nilIface, .bool false]) w := run_typeAssert_lacksB Tryd.underlying106 (by kernel_rfl) (by kernel_rfl) v xT w
theorem Tryd.noAsE (v : Value) (xT : TypeId) (w : World) : (Instr.typeAssert (.iface 134 v) xT 101 true).run Tryd.prog w = .ok (.tuple #[.nilIface, .bool false]) w := run_typeAssert_lacksB Tryd.underlying101 (by kernel_rfl) (by kernel_rfl) v xT w

set_option maxHeartbeats 1000000 in
set_option maxRecDepth 100000 in
/-- errors.Is of a sentinel and itself. -/
theorem is_same (a : Addr) (w : World) :
    Calls Tryd.prog 33 #[.iface 134 (.pointer (some a)), .iface 134 (.pointer (some a))] w fun e w' => e = .returned (.bool true) ∧ w' = w := by
  obtain ⟨i, hi, hcmp⟩ := Option.map_eq_some_iff.1 Tryd.isComp
  obtain ⟨j, hj, hjs⟩ := Option.map_eq_some_iff.1 Tryd.isSize
  have tT := Tryd.typeOf55
  have cT := Tryd.comparable55
  have heq := run_eql_iface_ptr_same (P := Tryd.prog) w a Tryd.underlying26 Tryd.underlying134 hi hcmp hj
  go_enter Tryd.func33, Tryd.ntmps33
  go_wp2
  refine wp_loop_rounds 1 ?_
  rw [rounds_succ]
  go_wp2
  go_ret
  exact ⟨rfl, rfl⟩

set_option maxHeartbeats 1000000 in
set_option maxRecDepth 100000 in
/-- errors.Is of two different errors of errors.New's make. -/
theorem is_other (a b : Addr) (ca cb : Array Value) (ta tb : TypeId) (w : World) (hne : a ≠ b) (ha : w.heap[a.block]? = some (.cells ca ta (0, 0))) (hb : w.heap[b.block]? = some (.cells cb tb (0, 0))) :
    Calls Tryd.prog 33 #[.iface 134 (.pointer (some a)), .iface 134 (.pointer (some b))] w fun e w' => e = .returned (.bool false) ∧ w' = w := by
  obtain ⟨i, hi, hcmp⟩ := Option.map_eq_some_iff.1 Tryd.isComp
  obtain ⟨j, hj, hjs⟩ := Option.map_eq_some_iff.1 Tryd.isSize
  have tT := Tryd.typeOf55
  have cT := Tryd.comparable55
  have nE := Tryd.noIsE
  have uE := Tryd.noUnwrapE
  have vE := Tryd.noUnwrapsE
  have heq := run_eql_iface_ptr_other (P := Tryd.prog) w Tryd.underlying26 Tryd.underlying134 hi hcmp hj (by rw [hjs]; decide) hne ha hb
  go_enter Tryd.func33, Tryd.ntmps33
  go_wp2
  refine wp_loop_rounds 1 ?_
  rw [rounds_succ]
  go_wp2
  go_ret
  exact ⟨rfl, rfl⟩

theorem Tryd.valueOf53 (t : Addr) (w : World) : (callFunc 40 #[.iface 68 (.pointer (some t))]).run Tryd.prog w = .ok (.value (.agg #[.pointer (some ⟨19, 68, none⟩), .pointer (some ⟨w.heap.size, 0, none⟩), .int .u64 150])) (w.alloc (.cells #[.pointer (some t)] 68)) := by kernel_rfl
theorem Tryd.type53 (a : Addr) (w : World) : (callFunc 41 #[.agg #[.pointer (some ⟨19, 68, none⟩), .pointer (some a), .int .u64 150]]).run Tryd.prog w = .ok (.value (.iface 97 (.agg #[.pointer (some ⟨19, 68, none⟩)]))) w := by kernel_rfl
theorem Tryd.kind53 (w : World) : (callFunc 93 #[.pointer (some ⟨19, 68, none⟩)]).run Tryd.prog w = .ok (.value (.int .u8 22)) w := by kernel_rfl
theorem Tryd.kind29 (w : World) : (callFunc 93 #[.pointer (some ⟨19, 66, none⟩)]).run Tryd.prog w = .ok (.value (.int .u8 22)) w := by kernel_rfl
theorem Tryd.elem53 (w : World) : (callFunc 107 #[.agg #[.pointer (some ⟨19, 68, none⟩)]]).run Tryd.prog w = .ok (.value (.iface 97 (.agg #[.pointer (some ⟨19, 66, none⟩)]))) w := by kernel_rfl
theorem Tryd.implements29 (w : World) : (callFunc 108 #[.agg #[.pointer (some ⟨19, 66, none⟩)], .iface 97 (.agg #[.pointer (some ⟨19, 26, none⟩)])]).run Tryd.prog w = .ok (.value (.bool true)) w := by kernel_rfl
theorem Tryd.assignable55 (w : World) : (callFunc 105 #[.agg #[.pointer (some ⟨19, 134, none⟩)], .iface 97 (.agg #[.pointer (some ⟨19, 66, none⟩)])]).run Tryd.prog w = .ok (.value (.bool false)) w := by kernel_rfl
theorem Tryd.parts53 (a : Addr) (w : World) : (ReflectliteValue.parts (.agg #[.pointer (some ⟨19, 68, none⟩), .pointer (some a), .int .u64 150])).run Tryd.prog w = .ok (some (68, a, 150)) w := by kernel_rfl

/-- A method of a Value: her parts are read first. -/
theorem value_method (z : Sem Value) (f : TypeId → Addr → Nat → Nat → Sem Value) (v : Value) : ∃ K : Option (TypeId × Addr × Nat) → Sem Value, (∀ t a fl, K (some (t, a, fl)) = f t a fl (fl % 32)) ∧ ReflectliteValue.method z f #[v] = ReflectliteValue.parts v >>= K := ⟨_, fun _ _ _ => rfl, rfl⟩
/-- Value.IsNil at the Value of a pointer that is not nil. -/
theorem Tryd.isNil53 (a p : Addr) (W : World) (ha : W.cell? a = some (.pointer (some p))) :
    (callFunc 42 #[.agg #[.pointer (some ⟨19, 68, none⟩), .pointer (some a), .int .u64 150]]).run Tryd.prog W = .ok (.value (.bool false)) W := by
  rw [@run_callFunc_extern Tryd.prog 42 _ (ReflectliteValue.method (ReflectliteValue.valueError "reflectlite.Value.IsNil" 0) ReflectliteValue.isNil) Tryd.func42 (by kernel_rfl) (by kernel_rfl) (by kernel_rfl) (by kernel_rfl)]
  obtain ⟨K, hK, hm⟩ := value_method (ReflectliteValue.valueError "reflectlite.Value.IsNil" 0) ReflectliteValue.isNil (.agg #[.pointer (some ⟨19, 68, none⟩), .pointer (some a), .int .u64 150])
  rw [hm]
  simp only [Sem.run_bind, Tryd.parts53, Result.andThen, hK]
  simp [ReflectliteValue.isNil, loadVar, isAgg, underlying, Tryd.underlying68, ha, Result.andThen]

set_option maxHeartbeats 4000000 in
set_option maxRecDepth 100000 in
/-- errors.As of an error of errors.New's make, the target a variable of type *api.Fault: false. -/
theorem as_miss (e t : Addr) (w : World) (hg : w.cell? ⟨12, 0, none⟩ = some (.iface 97 (.agg #[.pointer (some ⟨19, 26, none⟩)]))) :
    Calls Tryd.prog 32 #[.iface 134 (.pointer (some e)), .iface 68 (.pointer (some t))] w fun ev w' => ev = .returned (.bool false) ∧ Below w.heap.size w w' := by
  have f6 := Tryd.valueOf53
  have f7 := Tryd.type53
  have k27 := Tryd.kind53
  have k25 := Tryd.kind29
  have e27 := Tryd.elem53
  have i25 := Tryd.implements29
  have tO := Tryd.typeOf55
  have a25 := Tryd.assignable55
  have nA := Tryd.noAsE
  have uE := Tryd.noUnwrapE
  have vE := Tryd.noUnwrapsE
  have n8 := Tryd.isNil53 ⟨w.heap.size, 0, none⟩ t ((w.alloc (.cells #[.pointer (some t)] 68)).alloc (.cells #[.pointer (some ⟨19, 68, none⟩), .pointer (some ⟨w.heap.size, 0, none⟩), .int .u64 150] 77)) (by simp)
  have hlt : 12 < w.heap.size := World.block_lt_of_cell? _ _ hg
  have hg2 : ((w.alloc (.cells #[.pointer (some t)] 68)).alloc (.cells #[.pointer (some ⟨19, 68, none⟩), .pointer (some ⟨w.heap.size, 0, none⟩), .int .u64 150] 77)).cell? ⟨12, 0, none⟩ = some (.iface 97 (.agg #[.pointer (some ⟨19, 26, none⟩)])) := by
    rw [World.cell?_alloc_lt _ _ ⟨12, 0, none⟩ (by simp; omega), World.cell?_alloc_lt _ _ ⟨12, 0, none⟩ hlt]; exact hg
  go_enter Tryd.func32, Tryd.ntmps32
  go_wp2
  refine wp_loop_rounds 1 ?_
  rw [rounds_succ]
  go_wp2
  go_ret
  exact ⟨rfl, by go_grown⟩
end Go.Proofs.YtledipmimfphdaaDoor
