/-
  ErrBound's variable in the program's table; what an error made by errors.New is made of.
  ErrText's variable in the program's table.
  Contracts of errors.Is and errors.As at the errors of this dump.
  Small facts that every text of ours uses.
  Contracts of plain.Code and of coded, at nil and at the twelve errors, over this dump.
-/
import Derived.Test.YtlmampcdflbifaeDoorRows
import Derived.Test.YtlmampcdflbifaeDoorChecked
import Derived.ProofKit
import Derived.LaidMore
import Derived.OpenShut
import Derived.ShutString
import Derived.Stop.LaidErr
import Derived.Stop.Joined
import Derived.WalkKit
import Derived.WalkSpells
import Derived.Handy
import Derived.LaidEql
import Derived.Stop.Asserts
import Derived.RowKitTokens
import Derived.OwnWalk
namespace Go.Proofs.YtlmampcdflbifaeDoor
open Go.ChangeShapes Go.WideShapes Go.ChangeAt Go.RowKit

theorem Tryd.own : ownKnob Tryd.prog.godebug = none := by kernel_rfl
theorem Tryd.gBound : Tryd.prog.globalNamed "packhorse/api.ErrBound" = some 1 := by kernel_rfl
theorem Tryd.tBound : (Tryd.prog.globals[1]?).map (·.type) = some 27 := by kernel_rfl
theorem Tryd.cells118 : Tryd.prog.cellsOf 118 = 1 := by kernel_rfl
theorem Tryd.cells9 : Tryd.prog.cellsOf 9 = 1 := by kernel_rfl
theorem starErr : "*" ++ "errors.errorString" = "*errors.errorString" := by decide
theorem Tryd.row99 (u : TypeId) (h : Tryd.prog.typeName? 3 u = some "*errors.errorString") : u = 99 :=
  typeName_ptr_named (nm := "errors.errorString") (by rw [starErr]; kernel_rfl) (by kernel_rfl) (by decide) u (by rw [starErr]; exact h)
end Go.Proofs.YtlmampcdflbifaeDoor

namespace Go.Proofs.YtlmampcdflbifaeDoor
open Go.RowKit

theorem Tryd.gText : Tryd.prog.globalNamed "packhorse/api.ErrText" = some 2 := by kernel_rfl
theorem Tryd.tText : (Tryd.prog.globals[2]?).map (·.type) = some 27 := by kernel_rfl
end Go.Proofs.YtlmampcdflbifaeDoor

namespace Go.Proofs.YtlmampcdflbifaeDoor
open Go.RowKit Go.Extern.Stop Go.Stop Go.Extern

theorem Tryd.typeOf55 (v : Value) (w : World) : (callFunc 36 #[.iface 99 v]).run Tryd.prog w = .ok (.value (.iface 86 (.agg #[.pointer (some ⟨13, 99, none⟩)]))) w := by kernel_rfl
theorem Tryd.comparable55 (w : World) : (callFunc 65 #[.agg #[.pointer (some ⟨13, 99, none⟩)]]).run Tryd.prog w = .ok (.value (.bool true)) w := by kernel_rfl
theorem Tryd.isComp : (Tryd.prog.info? 99).map (·.comparable) = some true := by kernel_rfl
theorem Tryd.isSize : (Tryd.prog.info? 118).map (·.size) = some 1 := by kernel_rfl
theorem Tryd.noIsE (v : Value) (xT : TypeId) (w : World) : (Instr.typeAssert (.iface 99 v) xT 96 true).run Tryd.prog w = .ok (.tuple #[.nilIface, .bool false]) w := run_typeAssert_lacksB Tryd.underlying96 (by kernel_rfl) (by kernel_rfl) v xT w
theorem Tryd.noUnwrapE (v : Value) (xT : TypeId) (w : World) : (Instr.typeAssert (.iface 99 v) xT 93 true).run Tryd.prog w = .ok (.tuple #[.nilIface, .bool false]) w := run_typeAssert_lacksB Tryd.underlying93 (by kernel_rfl) (by kernel_rfl) v xT w
theorem Tryd.noUnwrapsE (v : Value) (xT : TypeId) (w : World) : (Instr.typeAssert (.iface 99 v) xT 94 true).run Tryd.prog w = .ok (.tuple #[.nilIface, .bool false]) w := run_typeAssert_lacksB Tryd.underlying94 (by kernel_rfl) (by kernel_rfl) v xT w
theorem Tryd.noAsE (v : Value) (xT : TypeId) (w : World) : (Instr.typeAssert (.iface 99 v) xT 90 true).run Tryd.prog w = .ok (.tuple #[.nilIface, .bool false]) w := run_typeAssert_lacksB Tryd.underlying90 (by kernel_rfl) (by kernel_rfl) v xT w

set_option maxHeartbeats 1000000 in
set_option maxRecDepth 100000 in
/-- errors.Is of a sentinel and itself. -/
theorem is_same (a : Addr) (w : World) :
    Calls Tryd.prog 27 #[.iface 99 (.pointer (some a)), .iface 99 (.pointer (some a))] w fun e w' => e = .returned (.bool true) ∧ w' = w := by
  obtain ⟨i, hi, hcmp⟩ := Option.map_eq_some_iff.1 Tryd.isComp
  obtain ⟨j, hj, hjs⟩ := Option.map_eq_some_iff.1 Tryd.isSize
  have tT := Tryd.typeOf55
  have cT := Tryd.comparable55
  have heq := run_eql_iface_ptr_same (P := Tryd.prog) w a Tryd.underlying27 Tryd.underlying99 hi hcmp hj
  go_enter Tryd.func27, Tryd.ntmps27
  go_wp2
  refine wp_loop_rounds 1 ?_
  rw [rounds_succ]
  go_wp2
  go_ret
  exact ⟨rfl, rfl⟩

set_option maxHeartbeats 1000000 in
set_option maxRecDepth 100000 in
/-- errors.Is of two different errors of errors.New's make. -/
theorem is_other (a b : Addr) (ca cb : Array Value) (ta tb : TypeId) (w : World) (hne : a ≠ b) (ha : w.heap[a.block]? = some (.cells ca ta (0, 0))) (hb : w.heap[b.block]? = some (.cells cb tb (0, 0))) :
    Calls Tryd.prog 27 #[.iface 99 (.pointer (some a)), .iface 99 (.pointer (some b))] w fun e w' => e = .returned (.bool false) ∧ w' = w := by
  obtain ⟨i, hi, hcmp⟩ := Option.map_eq_some_iff.1 Tryd.isComp
  obtain ⟨j, hj, hjs⟩ := Option.map_eq_some_iff.1 Tryd.isSize
  have tT := Tryd.typeOf55
  have cT := Tryd.comparable55
  have nE := Tryd.noIsE
  have uE := Tryd.noUnwrapE
  have vE := Tryd.noUnwrapsE
  have heq := run_eql_iface_ptr_other (P := Tryd.prog) w Tryd.underlying27 Tryd.underlying99 hi hcmp hj (by rw [hjs]; decide) hne ha hb
  go_enter Tryd.func27, Tryd.ntmps27
  go_wp2
  refine wp_loop_rounds 1 ?_
  rw [rounds_succ]
  go_wp2
  go_ret
  exact ⟨rfl, rfl⟩

theorem Tryd.valueOf53 (t : Addr) (w : World) : (callFunc 32 #[.iface 58 (.pointer (some t))]).run Tryd.prog w = .ok (.value (.agg #[.pointer (some ⟨13, 58, none⟩), .pointer (some ⟨w.heap.size, 0, none⟩), .int .u64 150])) (w.alloc (.cells #[.pointer (some t)] 58)) := by kernel_rfl
theorem Tryd.type53 (a : Addr) (w : World) : (callFunc 33 #[.agg #[.pointer (some ⟨13, 58, none⟩), .pointer (some a), .int .u64 150]]).run Tryd.prog w = .ok (.value (.iface 86 (.agg #[.pointer (some ⟨13, 58, none⟩)]))) w := by kernel_rfl
theorem Tryd.kind53 (w : World) : (callFunc 55 #[.pointer (some ⟨13, 58, none⟩)]).run Tryd.prog w = .ok (.value (.int .u8 22)) w := by kernel_rfl
theorem Tryd.kind29 (w : World) : (callFunc 55 #[.pointer (some ⟨13, 56, none⟩)]).run Tryd.prog w = .ok (.value (.int .u8 22)) w := by kernel_rfl
theorem Tryd.elem53 (w : World) : (callFunc 66 #[.agg #[.pointer (some ⟨13, 58, none⟩)]]).run Tryd.prog w = .ok (.value (.iface 86 (.agg #[.pointer (some ⟨13, 56, none⟩)]))) w := by kernel_rfl
theorem Tryd.implements29 (w : World) : (callFunc 67 #[.agg #[.pointer (some ⟨13, 56, none⟩)], .iface 86 (.agg #[.pointer (some ⟨13, 27, none⟩)])]).run Tryd.prog w = .ok (.value (.bool true)) w := by kernel_rfl
theorem Tryd.assignable55 (w : World) : (callFunc 64 #[.agg #[.pointer (some ⟨13, 99, none⟩)], .iface 86 (.agg #[.pointer (some ⟨13, 56, none⟩)])]).run Tryd.prog w = .ok (.value (.bool false)) w := by kernel_rfl
theorem Tryd.parts53 (a : Addr) (w : World) : (ReflectliteValue.parts (.agg #[.pointer (some ⟨13, 58, none⟩), .pointer (some a), .int .u64 150])).run Tryd.prog w = .ok (some (58, a, 150)) w := by kernel_rfl

/-- A method of a Value: her parts are read first. -/
theorem value_method (z : Sem Value) (f : TypeId → Addr → Nat → Nat → Sem Value) (v : Value) : ∃ K : Option (TypeId × Addr × Nat) → Sem Value, (∀ t a fl, K (some (t, a, fl)) = f t a fl (fl % 32)) ∧ ReflectliteValue.method z f #[v] = ReflectliteValue.parts v >>= K := ⟨_, fun _ _ _ => rfl, rfl⟩
/-- Value.IsNil at the Value of a pointer that is not nil. -/
theorem Tryd.isNil53 (a p : Addr) (W : World) (ha : W.cell? a = some (.pointer (some p))) :
    (callFunc 34 #[.agg #[.pointer (some ⟨13, 58, none⟩), .pointer (some a), .int .u64 150]]).run Tryd.prog W = .ok (.value (.bool false)) W := by
  rw [@run_callFunc_extern Tryd.prog 34 _ (ReflectliteValue.method (ReflectliteValue.valueError "reflectlite.Value.IsNil" 0) ReflectliteValue.isNil) Tryd.func34 (by kernel_rfl) (by kernel_rfl) (by kernel_rfl) (by kernel_rfl)]
  obtain ⟨K, hK, hm⟩ := value_method (ReflectliteValue.valueError "reflectlite.Value.IsNil" 0) ReflectliteValue.isNil (.agg #[.pointer (some ⟨13, 58, none⟩), .pointer (some a), .int .u64 150])
  rw [hm]
  simp only [Sem.run_bind, Tryd.parts53, Result.andThen, hK]
  simp [ReflectliteValue.isNil, loadVar, isAgg, underlying, Tryd.underlying58, ha, Result.andThen]

set_option maxHeartbeats 4000000 in
set_option maxRecDepth 100000 in
/-- errors.As of an error of errors.New's make, the target a variable of type *api.Fault: false. -/
theorem as_miss (e t : Addr) (w : World) (hg : w.cell? ⟨12, 0, none⟩ = some (.iface 86 (.agg #[.pointer (some ⟨13, 27, none⟩)]))) :
    Calls Tryd.prog 26 #[.iface 99 (.pointer (some e)), .iface 58 (.pointer (some t))] w fun ev w' => ev = .returned (.bool false) ∧ Below w.heap.size w w' := by
  have f6 := Tryd.valueOf53
  have f7 := Tryd.type53
  have k27 := Tryd.kind53
  have k25 := Tryd.kind29
  have e27 := Tryd.elem53
  have i25 := Tryd.implements29
  have tO := Tryd.typeOf55
  have a25 := Tryd.assignable55
  have nA := Tryd.noAsE
  have uE := Tryd.noUnwrapE
  have vE := Tryd.noUnwrapsE
  have n8 := Tryd.isNil53 ⟨w.heap.size, 0, none⟩ t ((w.alloc (.cells #[.pointer (some t)] 58)).alloc (.cells #[.pointer (some ⟨13, 58, none⟩), .pointer (some ⟨w.heap.size, 0, none⟩), .int .u64 150] 73)) (by simp)
  have hlt : 12 < w.heap.size := World.block_lt_of_cell? _ _ hg
  have hg2 : ((w.alloc (.cells #[.pointer (some t)] 58)).alloc (.cells #[.pointer (some ⟨13, 58, none⟩), .pointer (some ⟨w.heap.size, 0, none⟩), .int .u64 150] 73)).cell? ⟨12, 0, none⟩ = some (.iface 86 (.agg #[.pointer (some ⟨13, 27, none⟩)])) := by
    rw [World.cell?_alloc_lt _ _ ⟨12, 0, none⟩ (by simp; omega), World.cell?_alloc_lt _ _ ⟨12, 0, none⟩ hlt]; exact hg
  go_enter Tryd.func26, Tryd.ntmps26
  go_wp2
  refine wp_loop_rounds 1 ?_
  rw [rounds_succ]
  go_wp2
  go_ret
  exact ⟨rfl, by go_grown⟩
end Go.Proofs.YtlmampcdflbifaeDoor

namespace Go.Proofs.YtlmampcdflbifaeDoor
open Go.RowKit

theorem iwrap_id (x : Int) (h0 : -9223372036854775808 ≤ x) (h1 : x ≤ 9223372036854775807) : IntKind.i64.wrap x = x := by rw [IntKind.wrap_i64]; omega
theorem hide {p : Prop} (h : p) : Hid p := h
theorem bthen {w w1 w2 : World} (h : Below w.heap.size w w1) (k : Below w1.heap.size w1 w2) : Below w.heap.size w w2 := h.trans (k.mono h.size)
theorem ret_bool {a b : Bool} (h : a = b) : Ending.returned (.bool a) = .returned (.bool b) := by rw [h]
theorem ret_int {a b : Int} (h : a = b) : Ending.returned (.int .i64 a) = .returned (.int .i64 b) := by rw [h]
theorem lenL (s : ByteArray) : s.data.toList.length = s.size := by rw [Array.length_toList]; rfl
theorem getL (s : ByteArray) (j : Nat) (h : j < s.size) : s.data.toList[j]? = some s[j] := by
  rw [List.getElem?_eq_getElem (by rw [lenL]; exact h)]; rfl
theorem atL (s : ByteArray) (j : Nat) (h : j < s.size) : s.data.toList[j]'(by rw [lenL]; exact h) = s[j] := rfl
theorem dropL (s : ByteArray) (j : Nat) (h : j < s.size) : s.data.toList.drop j = s[j] :: s.data.toList.drop (j + 1) :=
  List.drop_eq_getElem_cons (by rw [lenL]; exact h)
theorem takeL (s : ByteArray) (j : Nat) (h : j < s.size) : s.data.toList.take (j + 1) = s.data.toList.take j ++ [s[j]] :=
  List.take_succ_eq_append_getElem (by rw [lenL]; exact h)
theorem u8_bounds {a : Int} (h : (Lit.int .u8 a).wf = true) : 0 ≤ a ∧ a < 256 := by
  simp only [Lit.wf, Bool.and_eq_true, decide_eq_true_eq] at h
  have h1 : IntKind.u8.min = 0 := rfl
  have h2 : IntKind.u8.max = 255 := rfl
  omega
theorem byte_lt (b : UInt8) : b.toNat < 256 := b.toNat_lt
/-- A part of a text, as a list. -/
theorem extractL (s : ByteArray) (i j : Nat) : (s.extract i j).data.toList = (s.data.toList.drop i).take (j - i) := by
  rw [ByteArray.data_extract, Array.toList_extract, List.extract_eq_take_drop]
theorem appendL (s t : ByteArray) : (s ++ t).data.toList = s.data.toList ++ t.data.toList := by
  rw [ByteArray.data_append, Array.toList_append]
theorem ext_of_list {a b : ByteArray} (h : a.data.toList = b.data.toList) : a = b := by
  apply ByteArray.ext
  exact Array.toList_inj.1 h
theorem bytes_ext {a b : ByteArray} (h : a.toList = b.toList) : a = b := by
  rw [ByteArray.toList_eq, ByteArray.toList_eq] at h
  exact ByteArray.ext (Array.ext' h)
def str (l : List UInt8) : ByteArray := ⟨l.toArray⟩
theorem strL (l : List UInt8) : (str l).data.toList = l := by simp [str]
theorem str_len (l : List UInt8) : (str l).size = l.length := by rw [← lenL, strL]
theorem str_app (a b : List UInt8) : str a ++ str b = str (a ++ b) := by
  apply ByteArray.ext
  rw [ByteArray.data_append]
  simp [str]
/-- A row of one element or more is no nil. -/
theorem own_form {w : World} {base : Nat} {e : TypeId} {size : Nat} {v : Value} {n : Nat} {xs : List Value} (h : w.ownsRow base e size v (n + 1) xs) : ∃ g c, v = .slice (some ⟨g, 0, none⟩) (n + 1) c := by
  rcases h.2 with ⟨_, h⟩ | ⟨g, c, _, h, _⟩
  · omega
  · exact ⟨g, c, h⟩
/-- Nil, or written out. -/
theorem own_forms {w : World} {base size n : Nat} {e : TypeId} {v : Value} {xs : List Value} (h : w.ownsRow base e size v n xs) : (v = .slice none 0 0 ∧ n = 0) ∨ ∃ g c, v = .slice (some ⟨g, 0, none⟩) n c := by
  rcases h.2 with h0 | ⟨g, c, _, hv, _⟩
  · exact Or.inl h0
  · exact Or.inr ⟨g, c, hv⟩
theorem own_mono {w : World} {b b' : Nat} {e : TypeId} {size : Nat} {v : Value} {n : Nat} {xs : List Value} (h : w.ownsRow b e size v n xs) (hb : b' ≤ b) : w.ownsRow b' e size v n xs := by
  rcases h with ⟨h1, h2 | ⟨g, c, cur, e1, e2, e3⟩⟩
  · exact ⟨h1, Or.inl h2⟩
  · exact ⟨h1, Or.inr ⟨g, c, cur, e1, Nat.le_trans hb e2, e3⟩⟩

theorem own_below {w w' : World} {b : Nat} {e : TypeId} {size : Nat} {v : Value} {n : Nat} {xs : List Value} (h : w.ownsRow b e size v n xs) (hb : Below w.heap.size w w') : w'.ownsRow b e size v n xs := by
  rcases h with ⟨h1, h2 | ⟨g, c, cur, e1, e2, e3, e4⟩⟩
  · exact ⟨h1, Or.inl h2⟩
  · refine ⟨h1, Or.inr ⟨g, c, cur, e1, e2, (hb.block g ?_).trans e3, e4⟩⟩
    rcases Nat.lt_or_ge g w.heap.size with h | h
    · exact h
    · rw [Array.getElem?_eq_none h] at e3; cases e3
end Go.Proofs.YtlmampcdflbifaeDoor

namespace Go.Proofs.YtlmampcdflbifaeDoor
open Go.RowKit

/-- The twelve errors' variables, in the document's order. -/
def gnos : List Nat := [2, 1, 4, 0, 5, 6, 7, 8, 9, 3, 10, 11]
def gno (k : Nat) : Nat := gnos.getD k 0

/-- The twelve errors' variables hold twelve errors of errors.New's make; package errors' own variable holds its handle. -/
structure Sents (w : World) (a : Nat → Addr) : Prop where
  cell : ∀ k, k < 12 → w.cell? ⟨gno k, 0, none⟩ = some (.iface 99 (.pointer (some (a k))))
  row : ∀ k, k < 12 → ∃ c t, w.heap[(a k).block]? = some (.cells c t (0, 0))
  ne : ∀ i j, i < 12 → j < 12 → i ≠ j → a i ≠ a j
  handle : w.cell? ⟨12, 0, none⟩ = some (.iface 86 (.agg #[.pointer (some ⟨13, 27, none⟩)]))

theorem Sents.c0 {w : World} {a : Nat → Addr} (h : Sents w a) : w.cell? ⟨2, 0, none⟩ = some (.iface 99 (.pointer (some (a 0)))) := h.cell 0 (by decide)
theorem Sents.c1 {w : World} {a : Nat → Addr} (h : Sents w a) : w.cell? ⟨1, 0, none⟩ = some (.iface 99 (.pointer (some (a 1)))) := h.cell 1 (by decide)
theorem Sents.c2 {w : World} {a : Nat → Addr} (h : Sents w a) : w.cell? ⟨4, 0, none⟩ = some (.iface 99 (.pointer (some (a 2)))) := h.cell 2 (by decide)
theorem Sents.c3 {w : World} {a : Nat → Addr} (h : Sents w a) : w.cell? ⟨0, 0, none⟩ = some (.iface 99 (.pointer (some (a 3)))) := h.cell 3 (by decide)
theorem Sents.c4 {w : World} {a : Nat → Addr} (h : Sents w a) : w.cell? ⟨5, 0, none⟩ = some (.iface 99 (.pointer (some (a 4)))) := h.cell 4 (by decide)
theorem Sents.c5 {w : World} {a : Nat → Addr} (h : Sents w a) : w.cell? ⟨6, 0, none⟩ = some (.iface 99 (.pointer (some (a 5)))) := h.cell 5 (by decide)
theorem Sents.c6 {w : World} {a : Nat → Addr} (h : Sents w a) : w.cell? ⟨7, 0, none⟩ = some (.iface 99 (.pointer (some (a 6)))) := h.cell 6 (by decide)
theorem Sents.c7 {w : World} {a : Nat → Addr} (h : Sents w a) : w.cell? ⟨8, 0, none⟩ = some (.iface 99 (.pointer (some (a 7)))) := h.cell 7 (by decide)
theorem Sents.c8 {w : World} {a : Nat → Addr} (h : Sents w a) : w.cell? ⟨9, 0, none⟩ = some (.iface 99 (.pointer (some (a 8)))) := h.cell 8 (by decide)
theorem Sents.c9 {w : World} {a : Nat → Addr} (h : Sents w a) : w.cell? ⟨3, 0, none⟩ = some (.iface 99 (.pointer (some (a 9)))) := h.cell 9 (by decide)
theorem Sents.c10 {w : World} {a : Nat → Addr} (h : Sents w a) : w.cell? ⟨10, 0, none⟩ = some (.iface 99 (.pointer (some (a 10)))) := h.cell 10 (by decide)
theorem Sents.c11 {w : World} {a : Nat → Addr} (h : Sents w a) : w.cell? ⟨11, 0, none⟩ = some (.iface 99 (.pointer (some (a 11)))) := h.cell 11 (by decide)
theorem Sents.below {w w' : World} {a : Nat → Addr} (h : Sents w a) (hb : Below w.heap.size w w') : Sents w' a := by
  refine ⟨fun k hk => (hb.cell (World.block_lt_of_cell? _ _ (h.cell k hk))).trans (h.cell k hk), fun k hk => ?_, h.ne, (hb.cell (World.block_lt_of_cell? _ _ h.handle)).trans h.handle⟩
  obtain ⟨c, t, hr⟩ := h.row k hk
  exact ⟨c, t, (hb.block _ (Array.getElem?_eq_some_iff.1 hr).1).trans hr⟩

theorem code_nil (w : World) : Calls Tryd.prog 14 #[.nilIface] w fun r w' => r = .returned (.tuple #[.int .i64 0, .int .i64 (-1)]) ∧ w' = w := by
  go_enter Tryd.func14, Tryd.ntmps14
  go_wp2
  go_ret2
  exact ⟨rfl, rfl⟩

def errList (a : Nat → Addr) : Array Value := #[.iface 99 (.pointer (some (a 0))), .iface 99 (.pointer (some (a 1))), .iface 99 (.pointer (some (a 2))), .iface 99 (.pointer (some (a 3))), .iface 99 (.pointer (some (a 4))), .iface 99 (.pointer (some (a 5))), .iface 99 (.pointer (some (a 6))), .iface 99 (.pointer (some (a 7))), .iface 99 (.pointer (some (a 8))), .iface 99 (.pointer (some (a 9))), .iface 99 (.pointer (some (a 10))), .iface 99 (.pointer (some (a 11)))]

/-- The list that Code ranges over. -/
theorem errList_cell (a : Nat → Addr) (w : World) (j : Nat) (hj : j < 12) : (w.alloc (.cells (errList a) 27)).cell? ⟨w.heap.size, j, none⟩ = some (.iface 99 (.pointer (some (a j)))) := by
  unfold errList
  match j, hj with
  | 0, _ => simp
  | 1, _ => simp
  | 2, _ => simp
  | 3, _ => simp
  | 4, _ => simp
  | 5, _ => simp
  | 6, _ => simp
  | 7, _ => simp
  | 8, _ => simp
  | 9, _ => simp
  | 10, _ => simp
  | 11, _ => simp

set_option maxHeartbeats 2000000 in
set_option maxRecDepth 100000 in
theorem code_sent (k : Nat) (hk : k < 12) (a : Nat → Addr) (w : World) (h : Sents w a) :
    Calls Tryd.prog 14 #[.iface 99 (.pointer (some (a k)))] w fun r w' => r = .returned (.tuple #[.int .i64 ((k : Int) + 1), .int .i64 (-1)]) ∧ Below w.heap.size w w' := by
  have H := hide h
  clear h
  have hb0 : Below w.heap.size w (w.alloc (.cells #[.pointer none] 56)) := (Below.refl _ _).alloc (Nat.le_refl _) _
  have HA := hide (H.out.below hb0)
  have Hb0 := hide hb0
  clear hb0
  go_enter Tryd.func14, Tryd.ntmps14
  go_wp2_with fail
  refine (as_miss (a k) _ _ HA.out.handle).mono ?_
  rintro e w1 ⟨rfl, hb1⟩
  have H1 := hide (HA.out.below hb1)
  have Hb1 := hide (Hb0.out.trans (hb1.mono (by simp)))
  have h0 := H1.out.c0
  have h1 := H1.out.c1
  have h2 := H1.out.c2
  have h3 := H1.out.c3
  have h4 := H1.out.c4
  have h5 := H1.out.c5
  have h6 := H1.out.c6
  have h7 := H1.out.c7
  have h8 := H1.out.c8
  have h9 := H1.out.c9
  have h10 := H1.out.c10
  have h11 := H1.out.c11
  clear hb1 HA Hb0
  go_wp2_with fail
  clear h0 h1 h2 h3 h4 h5 h6 h7 h8 h9 h10 h11
  have hb2 : Below w1.heap.size w1 (w1.alloc (.cells (errList a) 27)) := (Below.refl _ _).alloc (Nat.le_refl _) _
  have h2 := H1.out.below hb2
  have hcl := errList_cell a w1
  have hB2 := Hb1.out.trans (hb2.mono Hb1.out.size)
  unfold errList at h2 hcl hB2
  generalize hw2 : w1.alloc (.cells #[.iface 99 (.pointer (some (a 0))), .iface 99 (.pointer (some (a 1))), .iface 99 (.pointer (some (a 2))), .iface 99 (.pointer (some (a 3))), .iface 99 (.pointer (some (a 4))), .iface 99 (.pointer (some (a 5))), .iface 99 (.pointer (some (a 6))), .iface 99 (.pointer (some (a 7))), .iface 99 (.pointer (some (a 8))), .iface 99 (.pointer (some (a 9))), .iface 99 (.pointer (some (a 10))), .iface 99 (.pointer (some (a 11)))] 27) = w2 at *
  have H2 := hide h2
  have Hcl := hide hcl
  have HB2 := hide hB2
  clear hw2 h2 hcl hB2 hb2 H1 Hb1
  go_loop [3, 30] (fun v3 v30 => ∃ j : Nat, j ≤ k ∧ v3 = .int .i64 (-1) ∧ v30 = .int .i64 j) (fun _ v30 => 12 - (intOf v30).toNat)
  case atStart => exact ⟨0, Nat.zero_le _, rfl, rfl⟩
  case round =>
    obtain ⟨j, hj, rfl, rfl⟩ := hrel
    have hj12 : (j : Int) < 12 := by omega
    have hc := Hcl.out j (by omega)
    by_cases hjk : j = k
    · subst hjk
      go_wp2_with fail
      refine (is_same (a j) _).mono ?_
      rintro e w3 ⟨rfl, rfl⟩
      go_wp2
      go_ret2
      exact ⟨rfl, HB2.out⟩
    · obtain ⟨c1, t1, hr1⟩ := H2.out.row k hk
      obtain ⟨c2, t2, hr2⟩ := H2.out.row j (by omega)
      have hne := H2.out.ne k j hk (by omega) (fun e => hjk e.symm)
      have Hr1 := hide hr1
      have Hr2 := hide hr2
      have Hne := hide hne
      have Hjk := hide hjk
      clear hr1 hr2 hne hjk
      go_wp2_with fail
      refine (is_other (a k) (a j) c1 c2 t1 t2 _ Hne.out Hr1.out Hr2.out).mono ?_
      rintro e w3 ⟨rfl, rfl⟩
      go_wp2
      go_round
      case rel => exact ⟨j + 1, by have := Hjk.out; omega, rfl, by go_num⟩
      case measure => simp [intOf]; omega
end Go.Proofs.YtlmampcdflbifaeDoor
