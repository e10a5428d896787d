/-
  Contracts of errors.Is and errors.As at the errors of this dump.
-/
import Derived.Test.YtogpjblikphpcaaGreatDoorChecked
import Derived.WalkKit
import Derived.WalkSpells
import Derived.Handy
import Derived.LaidEql
import Derived.Stop.Asserts
import Derived.RowKitTokens
namespace Go.Proofs.YtogpjblikphpcaaGreatDoor
open Go.RowKit Go.Extern.Stop Go.Stop Go.Extern

theorem Tryz.typeOf55 (v : Value) (w : World) : (callFunc 83 #[.iface 231 v]).run Tryz.prog w = .ok (.value (.iface 162 (.agg #[.pointer (some ⟨21, 231, none⟩)]))) w := by kernel_rfl
theorem Tryz.comparable55 (w : World) : (callFunc 197 #[.agg #[.pointer (some ⟨21, 231, none⟩)]]).run Tryz.prog w = .ok (.value (.bool true)) w := by kernel_rfl
theorem Tryz.isComp : (Tryz.prog.info? 231).map (·.comparable) = some true := by kernel_rfl
theorem Tryz.isSize : (Tryz.prog.info? 233).map (·.size) = some 1 := by kernel_rfl
theorem Tryz.noIsE (v : Value) (xT : TypeId) (w : World) : (Instr.typeAssert (.iface 231 v) xT 173 true).run Tryz.prog w = .ok (.tuple #[.nilIface, .bool false]) w := run_typeAssert_lacksB Tryz.underlying173 (by kernel_rfl) (by kernel_rfl) v xT w
theorem Tryz.noUnwrapE (v : Value) (xT : TypeId) (w : World) : (Instr.typeAssert (.iface 231 v) xT 169 true).run Tryz.prog w = .ok (.tuple #[.nilIface, .bool false]) w := run_typeAssert_lacksB Tryz.underlying169 (by kernel_rfl) (by kernel_rfl) v xT w
theorem Tryz.noUnwrapsE (v : Value) (xT : TypeId) (w : World) : (Instr.typeAssert (.iface 231 v) xT 171 true).run Tryz.prog w = .ok (.tuple #[.nilIface, .bool false]) w := run_typeAssert_lacksB Tryz.underlying171 (by kernel_rfl) (by kernel_rfl) v xT w
theorem Tryz.noAsE (v : Value) (xT : TypeId) (w : World) : (Instr.typeAssert (.iface 231 v) xT 166 true).run Tryz.prog w = .ok (.tuple #[.nilIface, .bool false]) w := run_typeAssert_lacksB Tryz.underlying166 (by kernel_rfl) (by kernel_rfl) v xT w

set_option maxHeartbeats 1000000 in
set_option maxRecDepth 100000 in
/-- errors.Is of a sentinel and itself. -/
theorem is_same (a : Addr) (w : World) :
    Calls Tryz.prog 59 #[.iface 231 (.pointer (some a)), .iface 231 (.pointer (some a))] w fun e w' => e = .returned (.bool true) ∧ w' = w := by
  obtain ⟨i, hi, hcmp⟩ := Option.map_eq_some_iff.1 Tryz.isComp
  obtain ⟨j, hj, hjs⟩ := Option.map_eq_some_iff.1 Tryz.isSize
  have tT := Tryz.typeOf55
  have cT := Tryz.comparable55
  have heq := run_eql_iface_ptr_same (P := Tryz.prog) w a Tryz.underlying28 Tryz.underlying231 hi hcmp hj
  go_enter Tryz.func59, Tryz.ntmps59
  go_wp2
  refine wp_loop_rounds 1 ?_
  rw [rounds_succ]
  go_wp2
  go_ret
  exact ⟨rfl, rfl⟩

set_option maxHeartbeats 1000000 in
set_option maxRecDepth 100000 in
/-- errors.Is of two different errors of errors.New's make. -/
theorem is_other (a b : Addr) (ca cb : Array Value) (ta tb : TypeId) (w : World) (hne : a ≠ b) (ha : w.heap[a.block]? = some (.cells ca ta (0, 0))) (hb : w.heap[b.block]? = some (.cells cb tb (0, 0))) :
    Calls Tryz.prog 59 #[.iface 231 (.pointer (some a)), .iface 231 (.pointer (some b))] w fun e w' => e = .returned (.bool false) ∧ w' = w := by
  obtain ⟨i, hi, hcmp⟩ := Option.map_eq_some_iff.1 Tryz.isComp
  obtain ⟨j, hj, hjs⟩ := Option.map_eq_some_iff.1 Tryz.isSize
  have tT := Tryz.typeOf55
  have cT := Tryz.comparable55
  have nE := Tryz.noIsE
  have uE := Tryz.noUnwrapE
  have vE := Tryz.noUnwrapsE
  have heq := run_eql_iface_ptr_other (P := Tryz.prog) w Tryz.underlying28 Tryz.underlying231 hi hcmp hj (by rw [hjs]; decide) hne ha hb
  go_enter Tryz.func59, Tryz.ntmps59
  go_wp2
  refine wp_loop_rounds 1 ?_
  rw [rounds_succ]
  go_wp2
  go_ret
  exact ⟨rfl, rfl⟩

theorem Tryz.valueOf53 (t : Addr) (w : World) : (callFunc 79 #[.iface 117 (.pointer (some t))]).run Tryz.prog w = .ok (.value (.agg #[.pointer (some ⟨21, 117, none⟩), .pointer (some ⟨w.heap.size, 0, none⟩), .int .u64 150])) (w.alloc (.cells #[.pointer (some t)] 117)) := by kernel_rfl
theorem Tryz.type53 (a : Addr) (w : World) : (callFunc 80 #[.agg #[.pointer (some ⟨21, 117, none⟩), .pointer (some a), .int .u64 150]]).run Tryz.prog w = .ok (.value (.iface 162 (.agg #[.pointer (some ⟨21, 117, none⟩)]))) w := by kernel_rfl
theorem Tryz.kind53 (w : World) : (callFunc 186 #[.pointer (some ⟨21, 117, none⟩)]).run Tryz.prog w = .ok (.value (.int .u8 22)) w := by kernel_rfl
theorem Tryz.kind29 (w : World) : (callFunc 186 #[.pointer (some ⟨21, 86, none⟩)]).run Tryz.prog w = .ok (.value (.int .u8 22)) w := by kernel_rfl
theorem Tryz.elem53 (w : World) : (callFunc 198 #[.agg #[.pointer (some ⟨21, 117, none⟩)]]).run Tryz.prog w = .ok (.value (.iface 162 (.agg #[.pointer (some ⟨21, 86, none⟩)]))) w := by kernel_rfl
theorem Tryz.implements29 (w : World) : (callFunc 199 #[.agg #[.pointer (some ⟨21, 86, none⟩)], .iface 162 (.agg #[.pointer (some ⟨21, 28, none⟩)])]).run Tryz.prog w = .ok (.value (.bool true)) w := by kernel_rfl
theorem Tryz.assignable55 (w : World) : (callFunc 196 #[.agg #[.pointer (some ⟨21, 231, none⟩)], .iface 162 (.agg #[.pointer (some ⟨21, 86, none⟩)])]).run Tryz.prog w = .ok (.value (.bool false)) w := by kernel_rfl
theorem Tryz.parts53 (a : Addr) (w : World) : (ReflectliteValue.parts (.agg #[.pointer (some ⟨21, 117, none⟩), .pointer (some a), .int .u64 150])).run Tryz.prog w = .ok (some (117, a, 150)) w := by kernel_rfl

/-- A method of a Value: her parts are read first. -/
theorem value_method (z : Sem Value) (f : TypeId → Addr → Nat → Nat → Sem Value) (v : Value) : ∃ K : Option (TypeId × Addr × Nat) → Sem Value, (∀ t a fl, K (some (t, a, fl)) = f t a fl (fl % 32)) ∧ ReflectliteValue.method z f #[v] = ReflectliteValue.parts v >>= K := ⟨_, fun _ _ _ => rfl, rfl⟩
/-- Value.IsNil at the Value of a pointer that is not nil. -/
theorem Tryz.isNil53 (a p : Addr) (W : World) (ha : W.cell? a = some (.pointer (some p))) :
    (callFunc 81 #[.agg #[.pointer (some ⟨21, 117, none⟩), .pointer (some a), .int .u64 150]]).run Tryz.prog W = .ok (.value (.bool false)) W := by
  rw [@run_callFunc_extern Tryz.prog 81 _ (ReflectliteValue.method (ReflectliteValue.valueError "reflectlite.Value.IsNil" 0) ReflectliteValue.isNil) Tryz.func81 (by kernel_rfl) (by kernel_rfl) (by kernel_rfl) (by kernel_rfl)]
  obtain ⟨K, hK, hm⟩ := value_method (ReflectliteValue.valueError "reflectlite.Value.IsNil" 0) ReflectliteValue.isNil (.agg #[.pointer (some ⟨21, 117, none⟩), .pointer (some a), .int .u64 150])
  rw [hm]
  simp only [Sem.run_bind, Tryz.parts53, Result.andThen, hK]
  simp [ReflectliteValue.isNil, loadVar, isAgg, underlying, Tryz.underlying117, ha, Result.andThen]

set_option maxHeartbeats 4000000 in
set_option maxRecDepth 100000 in
/-- errors.As of an error of errors.New's make, the target a variable of type *api.Fault: false. -/
theorem as_miss (e t : Addr) (w : World) (hg : w.cell? ⟨12, 0, none⟩ = some (.iface 162 (.agg #[.pointer (some ⟨21, 28, none⟩)]))) :
    Calls Tryz.prog 58 #[.iface 231 (.pointer (some e)), .iface 117 (.pointer (some t))] w fun ev w' => ev = .returned (.bool false) ∧ Below w.heap.size w w' := by
  have f6 := Tryz.valueOf53
  have f7 := Tryz.type53
  have k27 := Tryz.kind53
  have k25 := Tryz.kind29
  have e27 := Tryz.elem53
  have i25 := Tryz.implements29
  have tO := Tryz.typeOf55
  have a25 := Tryz.assignable55
  have nA := Tryz.noAsE
  have uE := Tryz.noUnwrapE
  have vE := Tryz.noUnwrapsE
  have n8 := Tryz.isNil53 ⟨w.heap.size, 0, none⟩ t ((w.alloc (.cells #[.pointer (some t)] 117)).alloc (.cells #[.pointer (some ⟨21, 117, none⟩), .pointer (some ⟨w.heap.size, 0, none⟩), .int .u64 150] 143)) (by simp)
  have hlt : 12 < w.heap.size := World.block_lt_of_cell? _ _ hg
  have hg2 : ((w.alloc (.cells #[.pointer (some t)] 117)).alloc (.cells #[.pointer (some ⟨21, 117, none⟩), .pointer (some ⟨w.heap.size, 0, none⟩), .int .u64 150] 143)).cell? ⟨12, 0, none⟩ = some (.iface 162 (.agg #[.pointer (some ⟨21, 28, none⟩)])) := by
    rw [World.cell?_alloc_lt _ _ ⟨12, 0, none⟩ (by simp; omega), World.cell?_alloc_lt _ _ ⟨12, 0, none⟩ hlt]; exact hg
  go_enter Tryz.func58, Tryz.ntmps58
  go_wp2
  refine wp_loop_rounds 1 ?_
  rw [rounds_succ]
  go_wp2
  go_ret
  exact ⟨rfl, by go_grown⟩
end Go.Proofs.YtogpjblikphpcaaGreatDoor
