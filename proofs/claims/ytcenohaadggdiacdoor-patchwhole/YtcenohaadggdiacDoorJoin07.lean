/-
  Contracts of errors.Is and errors.As at the errors of this dump.
  Contracts of plain.Code and of coded, at nil and at the twelve errors, over this dump.
  Contracts of errors.As and errors.Is at an *api.Fault, over this dump.
  Contracts of plain.Code at an *api.Fault and at an error of another make, over this dump.
  An error and its number, a fault and its place, as the laws ask for them.
-/
import Derived.Test.YtcenohaadggdiacDoorChecked
import Derived.WalkKit
import Derived.WalkSpells
import Derived.Handy
import Derived.LaidEql
import Derived.Stop.Asserts
import Derived.RowKitTokens
import Derived.Test.YtcenohaadggdiacDoorJoin01
import Derived.Test.YtcenohaadggdiacDoorJoin06
namespace Go.Proofs.YtcenohaadggdiacDoor
open Go.RowKit Go.Extern.Stop Go.Stop Go.Extern

theorem Tryd.typeOf55 (v : Value) (w : World) : (callFunc 91 #[.iface 161 v]).run Tryd.prog w = .ok (.value (.iface 147 (.agg #[.pointer (some ⟨13, 161, none⟩)]))) w := by kernel_rfl
theorem Tryd.comparable55 (w : World) : (callFunc 126 #[.agg #[.pointer (some ⟨13, 161, none⟩)]]).run Tryd.prog w = .ok (.value (.bool true)) w := by kernel_rfl
theorem Tryd.isComp : (Tryd.prog.info? 161).map (·.comparable) = some true := by kernel_rfl
theorem Tryd.isSize : (Tryd.prog.info? 179).map (·.size) = some 1 := by kernel_rfl
theorem Tryd.noIsE (v : Value) (xT : TypeId) (w : World) : (Instr.typeAssert (.iface 161 v) xT 157 true).run Tryd.prog w = .ok (.tuple #[.nilIface, .bool false]) w := run_typeAssert_lacksB Tryd.underlying157 (by kernel_rfl) (by kernel_rfl) v xT w
theorem Tryd.noUnwrapE (v : Value) (xT : TypeId) (w : World) : (Instr.typeAssert (.iface 161 v) xT 154 true).run Tryd.prog w = .ok (.tuple #[.nilIface, .bool false]) w := run_typeAssert_lacksB Tryd.underlying154 (by kernel_rfl) (by kernel_rfl) v xT w
theorem Tryd.noUnwrapsE (v : Value) (xT : TypeId) (w : World) : (Instr.typeAssert (.iface 161 v) xT 155 true).run Tryd.prog w = .ok (.tuple #[.nilIface, .bool false]) w := run_typeAssert_lacksB Tryd.underlying155 (by kernel_rfl) (by kernel_rfl) v xT w
theorem Tryd.noAsE (v : Value) (xT : TypeId) (w : World) : (Instr.typeAssert (.iface 161 v) xT 151 true).run Tryd.prog w = .ok (.tuple #[.nilIface, .bool false]) w := run_typeAssert_lacksB Tryd.underlying151 (by kernel_rfl) (by kernel_rfl) v xT w

set_option maxHeartbeats 1000000 in
set_option maxRecDepth 100000 in
/-- errors.Is of a sentinel and itself. -/
theorem is_same (a : Addr) (w : World) :
    Calls Tryd.prog 67 #[.iface 161 (.pointer (some a)), .iface 161 (.pointer (some a))] w fun e w' => e = .returned (.bool true) ∧ w' = w := by
  obtain ⟨i, hi, hcmp⟩ := Option.map_eq_some_iff.1 Tryd.isComp
  obtain ⟨j, hj, hjs⟩ := Option.map_eq_some_iff.1 Tryd.isSize
  have tT := Tryd.typeOf55
  have cT := Tryd.comparable55
  have heq := run_eql_iface_ptr_same (P := Tryd.prog) w a Tryd.underlying26 Tryd.underlying161 hi hcmp hj
  go_enter Tryd.func67, Tryd.ntmps67
  go_wp2
  refine wp_loop_rounds 1 ?_
  rw [rounds_succ]
  go_wp2
  go_ret
  exact ⟨rfl, rfl⟩

set_option maxHeartbeats 1000000 in
set_option maxRecDepth 100000 in
/-- errors.Is of two different errors of errors.New's make. -/
theorem is_other (a b : Addr) (ca cb : Array Value) (ta tb : TypeId) (w : World) (hne : a ≠ b) (ha : w.heap[a.block]? = some (.cells ca ta (0, 0))) (hb : w.heap[b.block]? = some (.cells cb tb (0, 0))) :
    Calls Tryd.prog 67 #[.iface 161 (.pointer (some a)), .iface 161 (.pointer (some b))] w fun e w' => e = .returned (.bool false) ∧ w' = w := by
  obtain ⟨i, hi, hcmp⟩ := Option.map_eq_some_iff.1 Tryd.isComp
  obtain ⟨j, hj, hjs⟩ := Option.map_eq_some_iff.1 Tryd.isSize
  have tT := Tryd.typeOf55
  have cT := Tryd.comparable55
  have nE := Tryd.noIsE
  have uE := Tryd.noUnwrapE
  have vE := Tryd.noUnwrapsE
  have heq := run_eql_iface_ptr_other (P := Tryd.prog) w Tryd.underlying26 Tryd.underlying161 hi hcmp hj (by rw [hjs]; decide) hne ha hb
  go_enter Tryd.func67, Tryd.ntmps67
  go_wp2
  refine wp_loop_rounds 1 ?_
  rw [rounds_succ]
  go_wp2
  go_ret
  exact ⟨rfl, rfl⟩

theorem Tryd.valueOf53 (t : Addr) (w : World) : (callFunc 87 #[.iface 109 (.pointer (some t))]).run Tryd.prog w = .ok (.value (.agg #[.pointer (some ⟨13, 109, none⟩), .pointer (some ⟨w.heap.size, 0, none⟩), .int .u64 150])) (w.alloc (.cells #[.pointer (some t)] 109)) := by kernel_rfl
theorem Tryd.type53 (a : Addr) (w : World) : (callFunc 88 #[.agg #[.pointer (some ⟨13, 109, none⟩), .pointer (some a), .int .u64 150]]).run Tryd.prog w = .ok (.value (.iface 147 (.agg #[.pointer (some ⟨13, 109, none⟩)]))) w := by kernel_rfl
theorem Tryd.kind53 (w : World) : (callFunc 115 #[.pointer (some ⟨13, 109, none⟩)]).run Tryd.prog w = .ok (.value (.int .u8 22)) w := by kernel_rfl
theorem Tryd.kind29 (w : World) : (callFunc 115 #[.pointer (some ⟨13, 66, none⟩)]).run Tryd.prog w = .ok (.value (.int .u8 22)) w := by kernel_rfl
theorem Tryd.elem53 (w : World) : (callFunc 127 #[.agg #[.pointer (some ⟨13, 109, none⟩)]]).run Tryd.prog w = .ok (.value (.iface 147 (.agg #[.pointer (some ⟨13, 66, none⟩)]))) w := by kernel_rfl
theorem Tryd.implements29 (w : World) : (callFunc 128 #[.agg #[.pointer (some ⟨13, 66, none⟩)], .iface 147 (.agg #[.pointer (some ⟨13, 26, none⟩)])]).run Tryd.prog w = .ok (.value (.bool true)) w := by kernel_rfl
theorem Tryd.assignable55 (w : World) : (callFunc 125 #[.agg #[.pointer (some ⟨13, 161, none⟩)], .iface 147 (.agg #[.pointer (some ⟨13, 66, none⟩)])]).run Tryd.prog w = .ok (.value (.bool false)) w := by kernel_rfl
theorem Tryd.parts53 (a : Addr) (w : World) : (ReflectliteValue.parts (.agg #[.pointer (some ⟨13, 109, none⟩), .pointer (some a), .int .u64 150])).run Tryd.prog w = .ok (some (109, a, 150)) w := by kernel_rfl

/-- A method of a Value: her parts are read first. -/
theorem value_method (z : Sem Value) (f : TypeId → Addr → Nat → Nat → Sem Value) (v : Value) : ∃ K : Option (TypeId × Addr × Nat) → Sem Value, (∀ t a fl, K (some (t, a, fl)) = f t a fl (fl % 32)) ∧ ReflectliteValue.method z f #[v] = ReflectliteValue.parts v >>= K := ⟨_, fun _ _ _ => rfl, rfl⟩
/-- Value.IsNil at the Value of a pointer that is not nil. -/
theorem Tryd.isNil53 (a p : Addr) (W : World) (ha : W.cell? a = some (.pointer (some p))) :
    (callFunc 89 #[.agg #[.pointer (some ⟨13, 109, none⟩), .pointer (some a), .int .u64 150]]).run Tryd.prog W = .ok (.value (.bool false)) W := by
  rw [@run_callFunc_extern Tryd.prog 89 _ (ReflectliteValue.method (ReflectliteValue.valueError "reflectlite.Value.IsNil" 0) ReflectliteValue.isNil) Tryd.func89 (by kernel_rfl) (by kernel_rfl) (by kernel_rfl) (by kernel_rfl)]
  obtain ⟨K, hK, hm⟩ := value_method (ReflectliteValue.valueError "reflectlite.Value.IsNil" 0) ReflectliteValue.isNil (.agg #[.pointer (some ⟨13, 109, none⟩), .pointer (some a), .int .u64 150])
  rw [hm]
  simp only [Sem.run_bind, Tryd.parts53, Result.andThen, hK]
  simp [ReflectliteValue.isNil, loadVar, isAgg, underlying, Tryd.underlying109, ha, Result.andThen]

set_option maxHeartbeats 4000000 in
set_option maxRecDepth 100000 in
/-- errors.As of an error of errors.New's make, the target a variable of type *api.Fault: false. -/
theorem as_miss (e t : Addr) (w : World) (hg : w.cell? ⟨12, 0, none⟩ = some (.iface 147 (.agg #[.pointer (some ⟨13, 26, none⟩)]))) :
    Calls Tryd.prog 66 #[.iface 161 (.pointer (some e)), .iface 109 (.pointer (some t))] w fun ev w' => ev = .returned (.bool false) ∧ Below w.heap.size w w' := by
  have f6 := Tryd.valueOf53
  have f7 := Tryd.type53
  have k27 := Tryd.kind53
  have k25 := Tryd.kind29
  have e27 := Tryd.elem53
  have i25 := Tryd.implements29
  have tO := Tryd.typeOf55
  have a25 := Tryd.assignable55
  have nA := Tryd.noAsE
  have uE := Tryd.noUnwrapE
  have vE := Tryd.noUnwrapsE
  have n8 := Tryd.isNil53 ⟨w.heap.size, 0, none⟩ t ((w.alloc (.cells #[.pointer (some t)] 109)).alloc (.cells #[.pointer (some ⟨13, 109, none⟩), .pointer (some ⟨w.heap.size, 0, none⟩), .int .u64 150] 132)) (by simp)
  have hlt : 12 < w.heap.size := World.block_lt_of_cell? _ _ hg
  have hg2 : ((w.alloc (.cells #[.pointer (some t)] 109)).alloc (.cells #[.pointer (some ⟨13, 109, none⟩), .pointer (some ⟨w.heap.size, 0, none⟩), .int .u64 150] 132)).cell? ⟨12, 0, none⟩ = some (.iface 147 (.agg #[.pointer (some ⟨13, 26, none⟩)])) := by
    rw [World.cell?_alloc_lt _ _ ⟨12, 0, none⟩ (by simp; omega), World.cell?_alloc_lt _ _ ⟨12, 0, none⟩ hlt]; exact hg
  go_enter Tryd.func66, Tryd.ntmps66
  go_wp2
  refine wp_loop_rounds 1 ?_
  rw [rounds_succ]
  go_wp2
  go_ret
  exact ⟨rfl, by go_grown⟩
end Go.Proofs.YtcenohaadggdiacDoor

namespace Go.Proofs.YtcenohaadggdiacDoor
open Go.RowKit

/-- The twelve errors' variables, in the document's order. -/
def gnos : List Nat := [4, 0, 5, 6, 7, 2, 8, 3, 9, 1, 10, 11]
def gno (k : Nat) : Nat := gnos.getD k 0

/-- The twelve errors' variables hold twelve errors of errors.New's make; package errors' own variable holds its handle. -/
structure Sents (w : World) (a : Nat → Addr) : Prop where
  cell : ∀ k, k < 12 → w.cell? ⟨gno k, 0, none⟩ = some (.iface 161 (.pointer (some (a k))))
  row : ∀ k, k < 12 → ∃ c t, w.heap[(a k).block]? = some (.cells c t (0, 0))
  ne : ∀ i j, i < 12 → j < 12 → i ≠ j → a i ≠ a j
  handle : w.cell? ⟨12, 0, none⟩ = some (.iface 147 (.agg #[.pointer (some ⟨13, 26, none⟩)]))

theorem Sents.c0 {w : World} {a : Nat → Addr} (h : Sents w a) : w.cell? ⟨4, 0, none⟩ = some (.iface 161 (.pointer (some (a 0)))) := h.cell 0 (by decide)
theorem Sents.c1 {w : World} {a : Nat → Addr} (h : Sents w a) : w.cell? ⟨0, 0, none⟩ = some (.iface 161 (.pointer (some (a 1)))) := h.cell 1 (by decide)
theorem Sents.c2 {w : World} {a : Nat → Addr} (h : Sents w a) : w.cell? ⟨5, 0, none⟩ = some (.iface 161 (.pointer (some (a 2)))) := h.cell 2 (by decide)
theorem Sents.c3 {w : World} {a : Nat → Addr} (h : Sents w a) : w.cell? ⟨6, 0, none⟩ = some (.iface 161 (.pointer (some (a 3)))) := h.cell 3 (by decide)
theorem Sents.c4 {w : World} {a : Nat → Addr} (h : Sents w a) : w.cell? ⟨7, 0, none⟩ = some (.iface 161 (.pointer (some (a 4)))) := h.cell 4 (by decide)
theorem Sents.c5 {w : World} {a : Nat → Addr} (h : Sents w a) : w.cell? ⟨2, 0, none⟩ = some (.iface 161 (.pointer (some (a 5)))) := h.cell 5 (by decide)
theorem Sents.c6 {w : World} {a : Nat → Addr} (h : Sents w a) : w.cell? ⟨8, 0, none⟩ = some (.iface 161 (.pointer (some (a 6)))) := h.cell 6 (by decide)
theorem Sents.c7 {w : World} {a : Nat → Addr} (h : Sents w a) : w.cell? ⟨3, 0, none⟩ = some (.iface 161 (.pointer (some (a 7)))) := h.cell 7 (by decide)
theorem Sents.c8 {w : World} {a : Nat → Addr} (h : Sents w a) : w.cell? ⟨9, 0, none⟩ = some (.iface 161 (.pointer (some (a 8)))) := h.cell 8 (by decide)
theorem Sents.c9 {w : World} {a : Nat → Addr} (h : Sents w a) : w.cell? ⟨1, 0, none⟩ = some (.iface 161 (.pointer (some (a 9)))) := h.cell 9 (by decide)
theorem Sents.c10 {w : World} {a : Nat → Addr} (h : Sents w a) : w.cell? ⟨10, 0, none⟩ = some (.iface 161 (.pointer (some (a 10)))) := h.cell 10 (by decide)
theorem Sents.c11 {w : World} {a : Nat → Addr} (h : Sents w a) : w.cell? ⟨11, 0, none⟩ = some (.iface 161 (.pointer (some (a 11)))) := h.cell 11 (by decide)
theorem Sents.below {w w' : World} {a : Nat → Addr} (h : Sents w a) (hb : Below w.heap.size w w') : Sents w' a := by
  refine ⟨fun k hk => (hb.cell (World.block_lt_of_cell? _ _ (h.cell k hk))).trans (h.cell k hk), fun k hk => ?_, h.ne, (hb.cell (World.block_lt_of_cell? _ _ h.handle)).trans h.handle⟩
  obtain ⟨c, t, hr⟩ := h.row k hk
  exact ⟨c, t, (hb.block _ (Array.getElem?_eq_some_iff.1 hr).1).trans hr⟩

theorem code_nil (w : World) : Calls Tryd.prog 43 #[.nilIface] w fun r w' => r = .returned (.tuple #[.int .i64 0, .int .i64 (-1)]) ∧ w' = w := by
  go_enter Tryd.func43, Tryd.ntmps43
  go_wp2
  go_ret2
  exact ⟨rfl, rfl⟩

def errList (a : Nat → Addr) : Array Value := #[.iface 161 (.pointer (some (a 0))), .iface 161 (.pointer (some (a 1))), .iface 161 (.pointer (some (a 2))), .iface 161 (.pointer (some (a 3))), .iface 161 (.pointer (some (a 4))), .iface 161 (.pointer (some (a 5))), .iface 161 (.pointer (some (a 6))), .iface 161 (.pointer (some (a 7))), .iface 161 (.pointer (some (a 8))), .iface 161 (.pointer (some (a 9))), .iface 161 (.pointer (some (a 10))), .iface 161 (.pointer (some (a 11)))]

/-- The list that Code ranges over. -/
theorem errList_cell (a : Nat → Addr) (w : World) (j : Nat) (hj : j < 12) : (w.alloc (.cells (errList a) 26)).cell? ⟨w.heap.size, j, none⟩ = some (.iface 161 (.pointer (some (a j)))) := by
  unfold errList
  match j, hj with
  | 0, _ => simp
  | 1, _ => simp
  | 2, _ => simp
  | 3, _ => simp
  | 4, _ => simp
  | 5, _ => simp
  | 6, _ => simp
  | 7, _ => simp
  | 8, _ => simp
  | 9, _ => simp
  | 10, _ => simp
  | 11, _ => simp

set_option maxHeartbeats 2000000 in
set_option maxRecDepth 100000 in
theorem code_sent (k : Nat) (hk : k < 12) (a : Nat → Addr) (w : World) (h : Sents w a) :
    Calls Tryd.prog 43 #[.iface 161 (.pointer (some (a k)))] w fun r w' => r = .returned (.tuple #[.int .i64 ((k : Int) + 1), .int .i64 (-1)]) ∧ Below w.heap.size w w' := by
  have H := hide h
  clear h
  have hb0 : Below w.heap.size w (w.alloc (.cells #[.pointer none] 66)) := (Below.refl _ _).alloc (Nat.le_refl _) _
  have HA := hide (H.out.below hb0)
  have Hb0 := hide hb0
  clear hb0
  go_enter Tryd.func43, Tryd.ntmps43
  go_wp2_with fail
  refine (as_miss (a k) _ _ HA.out.handle).mono ?_
  rintro e w1 ⟨rfl, hb1⟩
  have H1 := hide (HA.out.below hb1)
  have Hb1 := hide (Hb0.out.trans (hb1.mono (by simp)))
  have h0 := H1.out.c0
  have h1 := H1.out.c1
  have h2 := H1.out.c2
  have h3 := H1.out.c3
  have h4 := H1.out.c4
  have h5 := H1.out.c5
  have h6 := H1.out.c6
  have h7 := H1.out.c7
  have h8 := H1.out.c8
  have h9 := H1.out.c9
  have h10 := H1.out.c10
  have h11 := H1.out.c11
  clear hb1 HA Hb0
  go_wp2_with fail
  clear h0 h1 h2 h3 h4 h5 h6 h7 h8 h9 h10 h11
  have hb2 : Below w1.heap.size w1 (w1.alloc (.cells (errList a) 26)) := (Below.refl _ _).alloc (Nat.le_refl _) _
  have h2 := H1.out.below hb2
  have hcl := errList_cell a w1
  have hB2 := Hb1.out.trans (hb2.mono Hb1.out.size)
  unfold errList at h2 hcl hB2
  generalize hw2 : w1.alloc (.cells #[.iface 161 (.pointer (some (a 0))), .iface 161 (.pointer (some (a 1))), .iface 161 (.pointer (some (a 2))), .iface 161 (.pointer (some (a 3))), .iface 161 (.pointer (some (a 4))), .iface 161 (.pointer (some (a 5))), .iface 161 (.pointer (some (a 6))), .iface 161 (.pointer (some (a 7))), .iface 161 (.pointer (some (a 8))), .iface 161 (.pointer (some (a 9))), .iface 161 (.pointer (some (a 10))), .iface 161 (.pointer (some (a 11)))] 26) = w2 at *
  have H2 := hide h2
  have Hcl := hide hcl
  have HB2 := hide hB2
  clear hw2 h2 hcl hB2 hb2 H1 Hb1
  go_loop [3, 30] (fun v3 v30 => ∃ j : Nat, j ≤ k ∧ v3 = .int .i64 (-1) ∧ v30 = .int .i64 j) (fun _ v30 => 12 - (intOf v30).toNat)
  case atStart => exact ⟨0, Nat.zero_le _, rfl, rfl⟩
  case round =>
    obtain ⟨j, hj, rfl, rfl⟩ := hrel
    have hj12 : (j : Int) < 12 := by omega
    have hc := Hcl.out j (by omega)
    by_cases hjk : j = k
    · subst hjk
      go_wp2_with fail
      refine (is_same (a j) _).mono ?_
      rintro e w3 ⟨rfl, rfl⟩
      go_wp2
      go_ret2
      exact ⟨rfl, HB2.out⟩
    · obtain ⟨c1, t1, hr1⟩ := H2.out.row k hk
      obtain ⟨c2, t2, hr2⟩ := H2.out.row j (by omega)
      have hne := H2.out.ne k j hk (by omega) (fun e => hjk e.symm)
      have Hr1 := hide hr1
      have Hr2 := hide hr2
      have Hne := hide hne
      have Hjk := hide hjk
      clear hr1 hr2 hne hjk
      go_wp2_with fail
      refine (is_other (a k) (a j) c1 c2 t1 t2 _ Hne.out Hr1.out Hr2.out).mono ?_
      rintro e w3 ⟨rfl, rfl⟩
      go_wp2
      go_round
      case rel => exact ⟨j + 1, by have := Hjk.out; omega, rfl, by go_num⟩
      case measure => simp [intOf]; omega

set_option maxHeartbeats 400000 in
theorem coded_nil (c : Int) (w : World) : Calls Tryd.prog 27 #[.nilIface, .int .i64 c] w fun r w' => r = .returned (.bool (c == 0)) ∧ w' = w := by
  by_cases hc : c = 0
  · subst hc
    go_enter Tryd.func27, Tryd.ntmps27
    go_wp2_with fail
    refine (code_nil _).mono ?_
    rintro e w1 ⟨rfl, rfl⟩
    go_wp2
    go_ret
    exact ⟨rfl, rfl⟩
  · have hb : ((0 : Int) == c) = false := by simp; omega
    have hb2 : Hid ((c == 0) = false) := by simp [Hid]; omega
    clear hc
    go_enter Tryd.func27, Tryd.ntmps27
    go_wp2_with fail
    refine (code_nil _).mono ?_
    rintro e w1 ⟨rfl, rfl⟩
    go_wp2
    go_ret
    exact ⟨by rw [hb2.out]; rfl, rfl⟩

set_option maxHeartbeats 400000 in
set_option maxRecDepth 100000 in
theorem coded_sent (k : Nat) (hk : k < 12) (a : Nat → Addr) (c : Int) (w : World) (h : Sents w a) :
    Calls Tryd.prog 27 #[.iface 161 (.pointer (some (a k))), .int .i64 c] w fun r w' => r = .returned (.bool (c == (k : Int) + 1)) ∧ Below w.heap.size w w' := by
  have H := hide h
  clear h
  by_cases hc : c = (k : Int) + 1
  · subst hc
    have hb : ((k : Int) + 1 == (k : Int) + 1) = true := by simp
    go_enter Tryd.func27, Tryd.ntmps27
    go_wp2_with fail
    refine (code_sent k hk a _ H.out).mono ?_
    rintro e w1 ⟨rfl, hb1⟩
    have Hb1 := hide hb1
    clear hb1
    go_wp2
    go_ret
    exact ⟨by rw [hb]; rfl, Hb1.out⟩
  · have hb : ((k : Int) + 1 == c) = false := by simp; omega
    have hb2 : Hid ((c == (k : Int) + 1) = false) := by simp [Hid]; omega
    clear hc
    go_enter Tryd.func27, Tryd.ntmps27
    go_wp2_with fail
    refine (code_sent k hk a _ H.out).mono ?_
    rintro e w1 ⟨rfl, hb1⟩
    have Hb1 := hide hb1
    clear hb1
    go_wp2
    go_ret
    exact ⟨by rw [hb2.out]; rfl, Hb1.out⟩
end Go.Proofs.YtcenohaadggdiacDoor

namespace Go.Proofs.YtcenohaadggdiacDoor
open Go.RowKit Go.Extern.Stop Go.Stop Go.Extern

theorem Tryd.typeOf29 (v : Value) (w : World) : (callFunc 91 #[.iface 66 v]).run Tryd.prog w = .ok (.value (.iface 147 (.agg #[.pointer (some ⟨13, 66, none⟩)]))) w := by kernel_rfl
theorem Tryd.assignable29 (w : World) : (callFunc 125 #[.agg #[.pointer (some ⟨13, 66, none⟩)], .iface 147 (.agg #[.pointer (some ⟨13, 66, none⟩)])]).run Tryd.prog w = .ok (.value (.bool true)) w := by kernel_rfl
theorem Tryd.valueOf29 (t : Addr) (w : World) : (callFunc 87 #[.iface 66 (.pointer (some t))]).run Tryd.prog w = .ok (.value (.agg #[.pointer (some ⟨13, 66, none⟩), .pointer (some ⟨w.heap.size, 0, none⟩), .int .u64 150])) (w.alloc (.cells #[.pointer (some t)] 66)) := by kernel_rfl
theorem Tryd.elemOf53 (w : World) : (Rtype.elem? 109).run Tryd.prog w = .ok (some 66) w := by kernel_rfl
theorem Tryd.mk29 (p : Addr) (w : World) : (ReflectliteValue.mk 66 p ReflectliteValue.flagAddr).run Tryd.prog w = .ok (.agg #[.pointer (some ⟨13, 66, none⟩), .pointer (some p), .int .u64 406]) w := by kernel_rfl
theorem Tryd.parts29a (a : Addr) (w : World) : (ReflectliteValue.parts (.agg #[.pointer (some ⟨13, 66, none⟩), .pointer (some a), .int .u64 406])).run Tryd.prog w = .ok (some (66, a, 406)) w := by kernel_rfl
theorem Tryd.parts29 (a : Addr) (w : World) : (ReflectliteValue.parts (.agg #[.pointer (some ⟨13, 66, none⟩), .pointer (some a), .int .u64 150])).run Tryd.prog w = .ok (some (66, a, 150)) w := by kernel_rfl
theorem Tryd.direct29 (w : World) : (Rtype.directlyAssignable 66 66).run Tryd.prog w = .ok true w := by kernel_rfl

/-- Value.Elem at the Value of a pointer that is not nil. -/
theorem Tryd.elemV53 (a p : Addr) (W : World) (ha : W.cell? a = some (.pointer (some p))) :
    (callFunc 98 #[.agg #[.pointer (some ⟨13, 109, none⟩), .pointer (some a), .int .u64 150]]).run Tryd.prog W = .ok (.value (.agg #[.pointer (some ⟨13, 66, none⟩), .pointer (some p), .int .u64 406])) W := by
  rw [@run_callFunc_extern Tryd.prog 98 _ (ReflectliteValue.method (ReflectliteValue.valueError "reflectlite.Value.Elem" 0) ReflectliteValue.elem) Tryd.func98 (by kernel_rfl) (by kernel_rfl) (by kernel_rfl) (by kernel_rfl)]
  obtain ⟨K, hK, hm⟩ := value_method (ReflectliteValue.valueError "reflectlite.Value.Elem" 0) ReflectliteValue.elem (.agg #[.pointer (some ⟨13, 109, none⟩), .pointer (some a), .int .u64 150])
  rw [hm]
  simp only [Sem.run_bind, Tryd.parts53, Result.andThen, hK]
  simp [ReflectliteValue.elem, loadVar, isAgg, underlying, Tryd.underlying109, ha, Result.andThen, Tryd.elemOf53, Tryd.mk29]

/-- Value.Set: the variable at ta gets what the Value's own variable b holds. -/
theorem Tryd.set29 (ta b e : Addr) (old : Value) (W : World) (hb : W.cell? b = some (.pointer (some e))) (ht : W.cell? ta = some old) (hf : W.frozen? ta = false) :
    (callFunc 99 #[.agg #[.pointer (some ⟨13, 66, none⟩), .pointer (some ta), .int .u64 406], .agg #[.pointer (some ⟨13, 66, none⟩), .pointer (some b), .int .u64 150]]).run Tryd.prog W = .ok (.value (.tuple #[])) (W.setCell ta (.pointer (some e))) := by
  rw [@run_callFunc_extern Tryd.prog 99 _ ReflectliteValue.set Tryd.func99 (by kernel_rfl) (by kernel_rfl) (by kernel_rfl) (by kernel_rfl)]
  change (Sem.run Tryd.prog (ReflectliteValue.parts (.agg #[.pointer (some ⟨13, 66, none⟩), .pointer (some ta), .int .u64 406]) >>= fun o1 => ReflectliteValue.parts (.agg #[.pointer (some ⟨13, 66, none⟩), .pointer (some b), .int .u64 150]) >>= _) W).andThen _ = _
  simp only [Sem.run_bind, Tryd.parts29a, Tryd.parts29, Result.andThen]
  simp [ReflectliteValue.flagAddr, loadVar, isAgg, underlying, Tryd.underlying66, hb, Result.andThen, Tryd.direct29, storeVar, Value.cells, storeCells, Addr.add]
  rw [run_store Tryd.prog W ta _ _ (by rfl)]
  simp [ht, hf]

theorem Tryd.noIsF (v : Value) (xT : TypeId) (w : World) : (Instr.typeAssert (.iface 66 v) xT 157 true).run Tryd.prog w = .ok (.tuple #[.nilIface, .bool false]) w := run_typeAssert_lacksB Tryd.underlying157 (by kernel_rfl) (by kernel_rfl) v xT w
theorem Tryd.hasUnwrapF (v : Value) (xT : TypeId) (w : World) : (Instr.typeAssert (.iface 66 v) xT 154 true).run Tryd.prog w = .ok (.tuple #[.iface 66 v, .bool true]) w := run_typeAssert_hasB Tryd.underlying154 (by kernel_rfl) v xT w

set_option maxHeartbeats 1000000 in
set_option maxRecDepth 100000 in
/-- errors.Is of a Fault that wraps the target. -/
theorem is_wrap_same (pb : Nat) (b : Addr) (w : World) (h1 : w.cell? ⟨pb, 1, none⟩ = some (.iface 161 (.pointer (some b)))) :
    Calls Tryd.prog 67 #[.iface 66 (.pointer (some ⟨pb, 0, none⟩)), .iface 161 (.pointer (some b))] w fun e w' => e = .returned (.bool true) ∧ w' = w := by
  obtain ⟨i, hi, hcmp⟩ := Option.map_eq_some_iff.1 Tryd.isComp
  obtain ⟨j, hj, hjs⟩ := Option.map_eq_some_iff.1 Tryd.isSize
  have tT := Tryd.typeOf55
  have cT := Tryd.comparable55
  have nE := Tryd.noIsE
  have uE := Tryd.noUnwrapE
  have vE := Tryd.noUnwrapsE
  have nW := Tryd.noIsF
  have uW := Tryd.hasUnwrapF
  have heq := run_eql_iface_ptr_same (P := Tryd.prog) w b Tryd.underlying26 Tryd.underlying161 hi hcmp hj
  have hty := run_eql_iface_types (P := Tryd.prog) 66 161 (.pointer (some ⟨pb, 0, none⟩)) (.pointer (some b)) Tryd.underlying26 (by decide) w
  go_enter Tryd.func67, Tryd.ntmps67
  go_wp2
  refine wp_loop_rounds 2 ?_
  rw [rounds_succ]
  go_wp2
  rw [rounds_succ]
  go_wp2
  go_ret
  exact ⟨rfl, rfl⟩

set_option maxHeartbeats 1000000 in
set_option maxRecDepth 100000 in
/-- errors.Is of a Fault that wraps another error of errors.New's make. -/
theorem is_wrap_other (pb : Nat) (a b : Addr) (ca cb : Array Value) (ta tb : TypeId) (w : World) (h1 : w.cell? ⟨pb, 1, none⟩ = some (.iface 161 (.pointer (some a)))) (hne : a ≠ b) (ha : w.heap[a.block]? = some (.cells ca ta (0, 0))) (hb : w.heap[b.block]? = some (.cells cb tb (0, 0))) :
    Calls Tryd.prog 67 #[.iface 66 (.pointer (some ⟨pb, 0, none⟩)), .iface 161 (.pointer (some b))] w fun e w' => e = .returned (.bool false) ∧ w' = w := by
  obtain ⟨i, hi, hcmp⟩ := Option.map_eq_some_iff.1 Tryd.isComp
  obtain ⟨j, hj, hjs⟩ := Option.map_eq_some_iff.1 Tryd.isSize
  have tT := Tryd.typeOf55
  have cT := Tryd.comparable55
  have nE := Tryd.noIsE
  have uE := Tryd.noUnwrapE
  have vE := Tryd.noUnwrapsE
  have nW := Tryd.noIsF
  have uW := Tryd.hasUnwrapF
  have heq := run_eql_iface_ptr_other (P := Tryd.prog) w Tryd.underlying26 Tryd.underlying161 hi hcmp hj (by rw [hjs]; decide) hne ha hb
  have hty := run_eql_iface_types (P := Tryd.prog) 66 161 (.pointer (some ⟨pb, 0, none⟩)) (.pointer (some b)) Tryd.underlying26 (by decide) w
  go_enter Tryd.func67, Tryd.ntmps67
  go_wp2
  refine wp_loop_rounds 2 ?_
  rw [rounds_succ]
  go_wp2
  rw [rounds_succ]
  go_wp2
  go_ret
  exact ⟨rfl, rfl⟩

set_option maxHeartbeats 4000000 in
set_option maxRecDepth 100000 in
/-- errors.As of a Fault, the target a variable of type *api.Fault of the caller's own: true, and the variable points to it. -/
theorem as_hit (e : Addr) (t : Nat) (w : World) (ht : t < w.heap.size) (hg : w.cell? ⟨12, 0, none⟩ = some (.iface 147 (.agg #[.pointer (some ⟨13, 26, none⟩)]))) (ht0 : w.cell? ⟨t, 0, none⟩ = some (.pointer none)) (hf0 : w.frozen? ⟨t, 0, none⟩ = false) :
    Calls Tryd.prog 66 #[.iface 66 (.pointer (some e)), .iface 109 (.pointer (some ⟨t, 0, none⟩))] w fun ev w' => ev = .returned (.bool true) ∧ Below t w w' ∧ w'.cell? ⟨t, 0, none⟩ = some (.pointer (some e)) ∧ (∀ k, k < w.heap.size → k ≠ t → w'.heap[k]? = w.heap[k]?) := by
  have f6 := Tryd.valueOf53
  have f7 := Tryd.type53
  have k27 := Tryd.kind53
  have k25 := Tryd.kind29
  have e27 := Tryd.elem53
  have i25 := Tryd.implements29
  have tO := Tryd.typeOf29
  have a25 := Tryd.assignable29
  have v25 := Tryd.valueOf29
  have n8 := Tryd.isNil53 ⟨w.heap.size, 0, none⟩ ⟨t, 0, none⟩ ((w.alloc (.cells #[.pointer (some ⟨t, 0, none⟩)] 109)).alloc (.cells #[.pointer (some ⟨13, 109, none⟩), .pointer (some ⟨w.heap.size, 0, none⟩), .int .u64 150] 132)) (by simp)
  have hlt : 12 < w.heap.size := World.block_lt_of_cell? _ _ hg
  have hg2 : ((w.alloc (.cells #[.pointer (some ⟨t, 0, none⟩)] 109)).alloc (.cells #[.pointer (some ⟨13, 109, none⟩), .pointer (some ⟨w.heap.size, 0, none⟩), .int .u64 150] 132)).cell? ⟨12, 0, none⟩ = some (.iface 147 (.agg #[.pointer (some ⟨13, 26, none⟩)])) := by
    rw [World.cell?_alloc_lt _ _ ⟨12, 0, none⟩ (by simp; omega), World.cell?_alloc_lt _ _ ⟨12, 0, none⟩ hlt]; exact hg
  have el := Tryd.elemV53 ⟨w.heap.size, 0, none⟩ ⟨t, 0, none⟩ (((w.alloc (.cells #[.pointer (some ⟨t, 0, none⟩)] 109)).alloc (.cells #[.pointer (some ⟨13, 109, none⟩), .pointer (some ⟨w.heap.size, 0, none⟩), .int .u64 150] 132)).alloc (.cells #[.pointer (some ⟨13, 109, none⟩), .pointer (some ⟨w.heap.size, 0, none⟩), .int .u64 150] 132)) (by rw [World.cell?_alloc_lt _ _ ⟨w.heap.size, 0, none⟩ (by simp; omega)]; simp)
  have st := Tryd.set29 ⟨t, 0, none⟩ ⟨w.heap.size + 1 + 1 + 1, 0, none⟩ e (.pointer none) ((((w.alloc (.cells #[.pointer (some ⟨t, 0, none⟩)] 109)).alloc (.cells #[.pointer (some ⟨13, 109, none⟩), .pointer (some ⟨w.heap.size, 0, none⟩), .int .u64 150] 132)).alloc (.cells #[.pointer (some ⟨13, 109, none⟩), .pointer (some ⟨w.heap.size, 0, none⟩), .int .u64 150] 132)).alloc (.cells #[.pointer (some e)] 66))
    (by rw [World.cell?_alloc_at _ _ _ _ (by simp)]; rfl)
    (by rw [World.cell?_alloc_lt _ _ ⟨t, 0, none⟩ (by simp; omega), World.cell?_alloc_lt _ _ ⟨t, 0, none⟩ (by simp; omega), World.cell?_alloc_lt _ _ ⟨t, 0, none⟩ (by simp; omega), World.cell?_alloc_lt _ _ ⟨t, 0, none⟩ ht]; exact ht0)
    (by rw [World.frozen?_alloc_old _ _ ⟨t, 0, none⟩ (by simp; omega), World.frozen?_alloc_old _ _ ⟨t, 0, none⟩ (by simp; omega), World.frozen?_alloc_old _ _ ⟨t, 0, none⟩ (by simp; omega), World.frozen?_alloc_old _ _ ⟨t, 0, none⟩ (Nat.ne_of_lt ht)]; exact hf0)
  have hb : Below w.heap.size w ((((w.alloc (.cells #[.pointer (some ⟨t, 0, none⟩)] 109)).alloc (.cells #[.pointer (some ⟨13, 109, none⟩), .pointer (some ⟨w.heap.size, 0, none⟩), .int .u64 150] 132)).alloc (.cells #[.pointer (some ⟨13, 109, none⟩), .pointer (some ⟨w.heap.size, 0, none⟩), .int .u64 150] 132)).alloc (.cells #[.pointer (some e)] 66)) := by go_grown
  have Hb := hide hb
  clear hb
  go_enter Tryd.func66, Tryd.ntmps66
  go_wp2
  refine wp_loop_rounds 1 ?_
  rw [rounds_succ]
  go_wp2
  go_ret
  refine ⟨rfl, (Hb.out.mono (by omega)).setCell (by simp) _, World.cell?_setCell_same _ _ _ ((Hb.out.cell (p := ⟨t, 0, none⟩) ht).trans ht0), fun k hk hkt => ?_⟩
  rw [Below.heap_setCell _ _ _ _ (by simpa using hkt)]
  exact Hb.out.block k hk
end Go.Proofs.YtcenohaadggdiacDoor

namespace Go.Proofs.YtcenohaadggdiacDoor
open Go.RowKit

set_option maxHeartbeats 2000000 in
set_option maxRecDepth 100000 in
/-- An error of errors.New's make that is none of the twelve. -/
theorem code_other (x : Addr) (a : Nat → Addr) (cx : Array Value) (tx : TypeId) (w : World) (h : Sents w a) (hx : w.heap[x.block]? = some (.cells cx tx (0, 0))) (hne : ∀ k, k < 12 → x ≠ a k) :
    Calls Tryd.prog 43 #[.iface 161 (.pointer (some x))] w fun r w' => r = .returned (.tuple #[.int .i64 (-1), .int .i64 (-1)]) ∧ Below w.heap.size w w' := by
  have H := hide h
  have HNE := hide hne
  clear h hne
  have hxl : x.block < w.heap.size := (Array.getElem?_eq_some_iff.1 hx).1
  have hb0 : Below w.heap.size w (w.alloc (.cells #[.pointer none] 66)) := (Below.refl _ _).alloc (Nat.le_refl _) _
  have HA := hide (H.out.below hb0)
  have Hb0 := hide hb0
  have HX := hide hx
  clear hb0 hx
  go_enter Tryd.func43, Tryd.ntmps43
  go_wp2_with fail
  refine (as_miss x _ _ HA.out.handle).mono ?_
  rintro e w1 ⟨rfl, hb1⟩
  have H1 := hide (HA.out.below hb1)
  have Hb1 := hide (Hb0.out.trans (hb1.mono (by simp)))
  have h0 := H1.out.c0
  have h1 := H1.out.c1
  have h2 := H1.out.c2
  have h3 := H1.out.c3
  have h4 := H1.out.c4
  have h5 := H1.out.c5
  have h6 := H1.out.c6
  have h7 := H1.out.c7
  have h8 := H1.out.c8
  have h9 := H1.out.c9
  have h10 := H1.out.c10
  have h11 := H1.out.c11
  clear hb1 HA Hb0
  go_wp2_with fail
  clear h0 h1 h2 h3 h4 h5 h6 h7 h8 h9 h10 h11
  have hb2 : Below w1.heap.size w1 (w1.alloc (.cells (errList a) 26)) := (Below.refl _ _).alloc (Nat.le_refl _) _
  have h2 := H1.out.below hb2
  have hcl := errList_cell a w1
  have hB2 := Hb1.out.trans (hb2.mono Hb1.out.size)
  unfold errList at h2 hcl hB2
  generalize hw2 : w1.alloc (.cells #[.iface 161 (.pointer (some (a 0))), .iface 161 (.pointer (some (a 1))), .iface 161 (.pointer (some (a 2))), .iface 161 (.pointer (some (a 3))), .iface 161 (.pointer (some (a 4))), .iface 161 (.pointer (some (a 5))), .iface 161 (.pointer (some (a 6))), .iface 161 (.pointer (some (a 7))), .iface 161 (.pointer (some (a 8))), .iface 161 (.pointer (some (a 9))), .iface 161 (.pointer (some (a 10))), .iface 161 (.pointer (some (a 11)))] 26) = w2 at *
  have H2 := hide h2
  have Hcl := hide hcl
  have HB2 := hide hB2
  clear hw2 h2 hcl hB2 hb2 H1 Hb1
  have HX2 := hide ((HB2.out.block _ hxl).trans HX.out)
  go_loop [3, 30] (fun v3 v30 => ∃ j : Nat, j ≤ 12 ∧ v3 = .int .i64 (-1) ∧ v30 = .int .i64 j) (fun _ v30 => 12 - (intOf v30).toNat)
  case atStart => exact ⟨0, Nat.zero_le _, rfl, rfl⟩
  case round =>
    obtain ⟨j, hj, rfl, rfl⟩ := hrel
    by_cases hjk : j < 12
    · have hj12 : (j : Int) < 12 := by omega
      have hc := Hcl.out j hjk
      obtain ⟨c2, t2, hr2⟩ := H2.out.row j hjk
      have hne := HNE.out j hjk
      have Hr2 := hide hr2
      have Hne := hide hne
      clear hr2 hne
      go_wp2_with fail
      refine (is_other x (a j) cx c2 tx t2 _ Hne.out HX2.out Hr2.out).mono ?_
      rintro e w3 ⟨rfl, rfl⟩
      go_wp2
      go_round
      case rel => exact ⟨j + 1, by omega, rfl, by go_num⟩
      case measure => simp [intOf]; omega
    · have hj12 : (12 : Int) ≤ (j : Int) := by omega
      go_wp2_with fail
      go_ret2
      exact ⟨rfl, HB2.out⟩

set_option maxHeartbeats 2000000 in
set_option maxRecDepth 100000 in
/-- A Fault with its place, which wraps one of the twelve. -/
theorem code_fault (k : Nat) (hk : k < 12) (pl : Int) (pb : Nat) (a : Nat → Addr) (w : World) (h : Sents w a) (hf0 : w.cell? ⟨pb, 0, none⟩ = some (.int .i64 pl)) (hf1 : w.cell? ⟨pb, 1, none⟩ = some (.iface 161 (.pointer (some (a k))))) :
    Calls Tryd.prog 43 #[.iface 66 (.pointer (some ⟨pb, 0, none⟩))] w fun r w' => r = .returned (.tuple #[.int .i64 ((k : Int) + 1), .int .i64 pl]) ∧ Below w.heap.size w w' := by
  have H := hide h
  clear h
  have hpl : pb < w.heap.size := World.block_lt_of_cell? _ _ hf0
  have hb0 : Below w.heap.size w (w.alloc (.cells #[.pointer none] 66)) := (Below.refl _ _).alloc (Nat.le_refl _) _
  have HA := hide (H.out.below hb0)
  have Hb0 := hide hb0
  have HF0 := hide hf0
  have HF1 := hide hf1
  clear hb0 hf0 hf1
  go_enter Tryd.func43, Tryd.ntmps43
  go_wp2_with fail
  refine (as_hit ⟨pb, 0, none⟩ w.heap.size _ (by simp) HA.out.handle (by simp) (by simp)).mono ?_
  rintro e w1 ⟨rfl, hb1, hcell, hoth⟩
  have hb01 : Below w.heap.size w w1 := Hb0.out.trans hb1
  have H1 := hide (H.out.below hb01)
  have Hb1 := hide hb01
  have hg0 := (hb01.cell (p := ⟨pb, 0, none⟩) hpl).trans HF0.out
  have hg1 := (hb01.cell (p := ⟨pb, 1, none⟩) hpl).trans HF1.out
  have h0 := H1.out.c0
  have h1 := H1.out.c1
  have h2 := H1.out.c2
  have h3 := H1.out.c3
  have h4 := H1.out.c4
  have h5 := H1.out.c5
  have h6 := H1.out.c6
  have h7 := H1.out.c7
  have h8 := H1.out.c8
  have h9 := H1.out.c9
  have h10 := H1.out.c10
  have h11 := H1.out.c11
  clear hb1 HA Hb0 hb01 hoth
  go_wp2_with fail
  clear h0 h1 h2 h3 h4 h5 h6 h7 h8 h9 h10 h11
  have hb2 : Below w1.heap.size w1 (w1.alloc (.cells (errList a) 26)) := (Below.refl _ _).alloc (Nat.le_refl _) _
  have h2 := H1.out.below hb2
  have hcl := errList_cell a w1
  have hB2 := Hb1.out.trans (hb2.mono Hb1.out.size)
  have hg2 := (hb2.cell (p := ⟨pb, 1, none⟩) (World.block_lt_of_cell? _ _ hg1)).trans hg1
  unfold errList at h2 hcl hB2 hg2
  generalize hw2 : w1.alloc (.cells #[.iface 161 (.pointer (some (a 0))), .iface 161 (.pointer (some (a 1))), .iface 161 (.pointer (some (a 2))), .iface 161 (.pointer (some (a 3))), .iface 161 (.pointer (some (a 4))), .iface 161 (.pointer (some (a 5))), .iface 161 (.pointer (some (a 6))), .iface 161 (.pointer (some (a 7))), .iface 161 (.pointer (some (a 8))), .iface 161 (.pointer (some (a 9))), .iface 161 (.pointer (some (a 10))), .iface 161 (.pointer (some (a 11)))] 26) = w2 at *
  have H2 := hide h2
  have Hcl := hide hcl
  have HB2 := hide hB2
  have HG2 := hide hg2
  clear hw2 h2 hcl hB2 hb2 H1 Hb1 hg2 hg0 hg1 hcell
  go_loop [3, 30] (fun v3 v30 => ∃ j : Nat, j ≤ k ∧ v3 = .int .i64 pl ∧ v30 = .int .i64 j) (fun _ v30 => 12 - (intOf v30).toNat)
  case atStart => exact ⟨0, Nat.zero_le _, rfl, rfl⟩
  case round =>
    obtain ⟨j, hj, rfl, rfl⟩ := hrel
    have hj12 : (j : Int) < 12 := by omega
    have hc := Hcl.out j (by omega)
    by_cases hjk : j = k
    · subst hjk
      go_wp2_with fail
      refine (is_wrap_same pb (a j) _ HG2.out).mono ?_
      rintro e w3 ⟨rfl, rfl⟩
      go_wp2
      go_ret2
      exact ⟨rfl, HB2.out⟩
    · obtain ⟨c1, t1, hr1⟩ := H2.out.row k hk
      obtain ⟨c2, t2, hr2⟩ := H2.out.row j (by omega)
      have hne := H2.out.ne k j hk (by omega) (fun e => hjk e.symm)
      have Hr1 := hide hr1
      have Hr2 := hide hr2
      have Hne := hide hne
      have Hjk := hide hjk
      clear hr1 hr2 hne hjk
      go_wp2_with fail
      refine (is_wrap_other pb (a k) (a j) c1 c2 t1 t2 _ HG2.out Hne.out Hr1.out Hr2.out).mono ?_
      rintro e w3 ⟨rfl, rfl⟩
      go_wp2
      go_round
      case rel => exact ⟨j + 1, by have := Hjk.out; omega, rfl, by go_num⟩
      case measure => simp [intOf]; omega
end Go.Proofs.YtcenohaadggdiacDoor

namespace Go.Proofs.YtcenohaadggdiacDoor
open Go.RowKit
open Go.Sign (Blk)

/-- The three errors among the twelve. -/
def evOf (a : Nat → Addr) : EV := ⟨161, .pointer (some (a 0)), 161, .pointer (some (a 1)), 161, .pointer (some (a 7))⟩
theorem Sents.er {w : World} {a : Nat → Addr} (h : Sents w a) : Er (evOf a) w := ⟨h.c0, h.c1, h.c7⟩
theorem errV_sent {a : Nat → Addr} {c : Nat} (h : c = 1 ∨ c = 2 ∨ c = 8) : ∃ k, k < 12 ∧ c = k + 1 ∧ errV (evOf a) c = .iface 161 (.pointer (some (a k))) := by
  rcases h with rfl | rfl | rfl
  · exact ⟨0, by decide, rfl, rfl⟩
  · exact ⟨1, by decide, rfl, rfl⟩
  · exact ⟨7, by decide, rfl, rfl⟩

theorem coded_errV (a : Nat → Addr) (c : Nat) (w : World) (h : Sents w a) (hc : c = 0 ∨ c = 1 ∨ c = 2 ∨ c = 8) :
    Calls Tryd.prog 27 #[errV (evOf a) c, .int .i64 c] w fun r w' => r = .returned (.bool true) ∧ Below w.heap.size w w' := by
  rcases hc with rfl | hc
  · refine (coded_nil 0 w).mono ?_
    rintro r w' ⟨rfl, rfl⟩
    exact ⟨rfl, Below.refl _ _⟩
  · obtain ⟨k, hk, rfl, e⟩ := errV_sent (a := a) hc
    rw [e]
    refine (coded_sent k hk a _ w h).mono ?_
    rintro r w' ⟨rfl, hb⟩
    exact ⟨ret_bool (by simp), hb⟩

set_option maxHeartbeats 1000000 in
set_option maxRecDepth 100000 in
theorem faulted_zero (x : Value) (at_ fa : Int) (w : World) (h : ∀ W, Below w.heap.size w W → Calls Tryd.prog 43 #[x] W fun r w' => r = .returned (.tuple #[.int .i64 0, .int .i64 at_]) ∧ Below W.heap.size W w') :
    Calls Tryd.prog 24 #[x, .agg #[.int .i64 0, .int .i64 fa]] w fun r w' => r = .returned (.bool true) ∧ Below w.heap.size w w' := by
  have HC := hide h
  clear h
  have hb0 : Below w.heap.size w (w.alloc (.cells #[.int .i64 0, .int .i64 fa] 46)) := (Below.refl _ _).alloc (Nat.le_refl _) _
  have Hb0 := hide hb0
  have Hq0 := hide (HvAt.fresh w 0 fa 46)
  clear hb0
  go_enter Tryd.func24, Tryd.ntmps24
  go_wp2_with fail
  refine (HC.out _ Hb0.out).mono ?_
  rintro r w1 ⟨rfl, hb1⟩
  have Hb1 := hide (Hb0.out.trans (hb1.mono (by simp)))
  have hq1 := Hq0.out.below hb1 Hq0.out.lt
  clear hb1 Hb0 Hq0
  obtain ⟨q0, q1, p0, p1, lt⟩ := hq1
  go_wp2
  go_ret
  exact ⟨rfl, Hb1.out⟩

set_option maxHeartbeats 1000000 in
set_option maxRecDepth 100000 in
theorem faulted_at (x : Value) (c at_ : Int) (w : World) (hc : c ≠ 0) (h : ∀ W, Below w.heap.size w W → Calls Tryd.prog 43 #[x] W fun r w' => r = .returned (.tuple #[.int .i64 c, .int .i64 at_]) ∧ Below W.heap.size W w') :
    Calls Tryd.prog 24 #[x, .agg #[.int .i64 c, .int .i64 at_]] w fun r w' => r = .returned (.bool true) ∧ Below w.heap.size w w' := by
  have HC := hide h
  clear h
  have hc' : (c == 0) = false := by simpa using hc
  clear hc
  have hb0 : Below w.heap.size w (w.alloc (.cells #[.int .i64 c, .int .i64 at_] 46)) := (Below.refl _ _).alloc (Nat.le_refl _) _
  have Hb0 := hide hb0
  have Hq0 := hide (HvAt.fresh w c at_ 46)
  clear hb0
  go_enter Tryd.func24, Tryd.ntmps24
  go_wp2_with fail
  refine (HC.out _ Hb0.out).mono ?_
  rintro r w1 ⟨rfl, hb1⟩
  have Hb1 := hide (Hb0.out.trans (hb1.mono (by simp)))
  have hq1 := Hq0.out.below hb1 Hq0.out.lt
  clear hb1 Hb0 Hq0
  obtain ⟨q0, q1, p0, p1, lt⟩ := hq1
  go_wp2
  go_ret
  exact ⟨rfl, Hb1.out⟩

theorem fault_code (l : List Blk) (k : Int) : (Go.Sign.fault l k).1 = 0 ∨ (Go.Sign.fault l k).1 = 2 ∨ (Go.Sign.fault l k).1 = 8 := by
  unfold Go.Sign.fault
  split
  · split
    · exact Or.inl rfl
    · rename_i i c h
      exact Or.inr (Go.Sign.scanW_code _ _ _ _ _ h).1
  · exact Or.inr (Or.inl rfl)

/-- Check's error is the document's fault. -/
theorem check_then (u : Value) (l : List Blk) (k : Int) (a : Nat → Addr) (w : World) (hu : RowIn w u l) (hl : l.length ≤ 1000000) (hS : Sents w a) :
    Calls Tryd.prog 33 #[u, .int .i64 k] w fun r w' => (∃ x, r = .returned x ∧ ∀ W, Below w'.heap.size w' W → Calls Tryd.prog 24 #[x, .agg #[.int .i64 (Go.Sign.fault l k).1, .int .i64 (Go.Sign.fault l k).2]] W fun r W' => r = .returned (.bool true) ∧ Below W.heap.size W W') ∧ Below w.heap.size w w' := by
  refine (check_ok u l k (evOf a) w hu hl hS.er).mono ?_
  rintro r w' ⟨hr, hb⟩
  refine ⟨?_, hb⟩
  have hcode := fault_code l k
  generalize Go.Sign.fault l k = f at *
  obtain ⟨c, at_⟩ := f
  simp only at hcode ⊢
  have hS' := hS.below hb
  unfold CheckRes at hr
  by_cases hc : c = 0
  · subst hc
    rw [if_pos (Or.inl rfl)] at hr
    refine ⟨_, hr, fun W hW => ?_⟩
    exact faulted_zero .nilIface (-1) at_ W (fun W' _ => (code_nil W').mono fun _ _ ⟨h1, h2⟩ => ⟨h1, by rw [h2]; exact Below.refl _ _⟩)
  · obtain ⟨j, hj, hcj, e⟩ := errV_sent (a := a) (c := c) (by omega)
    have hci : (c : Int) = (j : Int) + 1 := by omega
    by_cases ha : at_ = -1
    · subst ha
      rw [if_pos (Or.inr rfl)] at hr
      refine ⟨_, hr, fun W hW => ?_⟩
      simp only
      rw [e]
      refine faulted_at _ c (-1) W (by omega) (fun W' hW' => ?_)
      rw [hci]
      exact code_sent j hj a W' ((hS'.below hW).below hW')
    · rw [if_neg (by simp only [not_or]; exact ⟨hc, ha⟩)] at hr
      obtain ⟨p, hr, hp, c0, c1⟩ := hr
      refine ⟨_, hr, fun W hW => ?_⟩
      simp only at c0 c1
      rw [e] at c1
      refine faulted_at _ c at_ W (by omega) (fun W' hW' => ?_)
      rw [hci]
      have d0 := (hW.cell (World.block_lt_of_cell? _ _ c0)).trans c0
      have d1 := (hW.cell (World.block_lt_of_cell? _ _ c1)).trans c1
      exact code_fault j hj at_ p a W' ((hS'.below hW).below hW') ((hW'.cell (World.block_lt_of_cell? _ _ d0)).trans d0) ((hW'.cell (World.block_lt_of_cell? _ _ d1)).trans d1)

end Go.Proofs.YtcenohaadggdiacDoor
