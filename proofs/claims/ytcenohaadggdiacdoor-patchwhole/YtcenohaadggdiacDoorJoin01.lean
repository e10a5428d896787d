/-
  ErrBound's variable in the program's table; what an error made by errors.New is made of.
  Small facts that every text of ours uses.
  Contracts of strings.Builder's methods at the builder that lies inside package patch's own one, over this dump.
  Contract of strings.Builder's String at the builder that lies inside package patch's own one, over this dump.
  Contracts of patch.builder's blocks, copied, over this dump.
-/
import Derived.Test.YtcenohaadggdiacDoorRows
import Derived.Test.YtcenohaadggdiacDoorChecked
import Derived.ProofKit
import Derived.LaidMore
import Derived.OpenShut
import Derived.ShutString
import Derived.Stop.LaidErr
import Derived.Stop.Joined
import Derived.WalkKit
import Derived.WalkSpells
import Derived.Handy
import Derived.OwnWalk
import Derived.Lib.Builder
import Derived.Lib.AppendStr
import Derived.Lib.UnsafeStr
import Derived.Laws.Externs
import Derived.Laws.BytesArg
import Derived.BigQuiet
import Derived.BigRegion
namespace Go.Proofs.YtcenohaadggdiacDoor
open Go.ChangeShapes Go.WideShapes Go.ChangeAt Go.RowKit

theorem Tryd.own : ownKnob Tryd.prog.godebug = none := by kernel_rfl
theorem Tryd.gBound : Tryd.prog.globalNamed "packhorse/api.ErrBound" = some 0 := by kernel_rfl
theorem Tryd.tBound : (Tryd.prog.globals[0]?).map (·.type) = some 26 := by kernel_rfl
theorem Tryd.cells179 : Tryd.prog.cellsOf 179 = 1 := by kernel_rfl
theorem Tryd.cells9 : Tryd.prog.cellsOf 9 = 1 := by kernel_rfl
theorem starErr : "*" ++ "errors.errorString" = "*errors.errorString" := by decide
theorem Tryd.row161 (u : TypeId) (h : Tryd.prog.typeName? 3 u = some "*errors.errorString") : u = 161 :=
  typeName_ptr_named (nm := "errors.errorString") (by rw [starErr]; kernel_rfl) (by kernel_rfl) (by decide) u (by rw [starErr]; exact h)
end Go.Proofs.YtcenohaadggdiacDoor

namespace Go.Proofs.YtcenohaadggdiacDoor
open Go.RowKit

theorem iwrap_id (x : Int) (h0 : -9223372036854775808 ≤ x) (h1 : x ≤ 9223372036854775807) : IntKind.i64.wrap x = x := by rw [IntKind.wrap_i64]; omega
theorem hide {p : Prop} (h : p) : Hid p := h
theorem bthen {w w1 w2 : World} (h : Below w.heap.size w w1) (k : Below w1.heap.size w1 w2) : Below w.heap.size w w2 := h.trans (k.mono h.size)
theorem ret_bool {a b : Bool} (h : a = b) : Ending.returned (.bool a) = .returned (.bool b) := by rw [h]
theorem ret_int {a b : Int} (h : a = b) : Ending.returned (.int .i64 a) = .returned (.int .i64 b) := by rw [h]
theorem lenL (s : ByteArray) : s.data.toList.length = s.size := by rw [Array.length_toList]; rfl
theorem getL (s : ByteArray) (j : Nat) (h : j < s.size) : s.data.toList[j]? = some s[j] := by
  rw [List.getElem?_eq_getElem (by rw [lenL]; exact h)]; rfl
theorem atL (s : ByteArray) (j : Nat) (h : j < s.size) : s.data.toList[j]'(by rw [lenL]; exact h) = s[j] := rfl
theorem dropL (s : ByteArray) (j : Nat) (h : j < s.size) : s.data.toList.drop j = s[j] :: s.data.toList.drop (j + 1) :=
  List.drop_eq_getElem_cons (by rw [lenL]; exact h)
theorem takeL (s : ByteArray) (j : Nat) (h : j < s.size) : s.data.toList.take (j + 1) = s.data.toList.take j ++ [s[j]] :=
  List.take_succ_eq_append_getElem (by rw [lenL]; exact h)
theorem u8_bounds {a : Int} (h : (Lit.int .u8 a).wf = true) : 0 ≤ a ∧ a < 256 := by
  simp only [Lit.wf, Bool.and_eq_true, decide_eq_true_eq] at h
  have h1 : IntKind.u8.min = 0 := rfl
  have h2 : IntKind.u8.max = 255 := rfl
  omega
theorem byte_lt (b : UInt8) : b.toNat < 256 := b.toNat_lt
/-- A part of a text, as a list. -/
theorem extractL (s : ByteArray) (i j : Nat) : (s.extract i j).data.toList = (s.data.toList.drop i).take (j - i) := by
  rw [ByteArray.data_extract, Array.toList_extract, List.extract_eq_take_drop]
theorem appendL (s t : ByteArray) : (s ++ t).data.toList = s.data.toList ++ t.data.toList := by
  rw [ByteArray.data_append, Array.toList_append]
theorem ext_of_list {a b : ByteArray} (h : a.data.toList = b.data.toList) : a = b := by
  apply ByteArray.ext
  exact Array.toList_inj.1 h
theorem bytes_ext {a b : ByteArray} (h : a.toList = b.toList) : a = b := by
  rw [ByteArray.toList_eq, ByteArray.toList_eq] at h
  exact ByteArray.ext (Array.ext' h)
def str (l : List UInt8) : ByteArray := ⟨l.toArray⟩
theorem strL (l : List UInt8) : (str l).data.toList = l := by simp [str]
theorem str_len (l : List UInt8) : (str l).size = l.length := by rw [← lenL, strL]
theorem str_app (a b : List UInt8) : str a ++ str b = str (a ++ b) := by
  apply ByteArray.ext
  rw [ByteArray.data_append]
  simp [str]
/-- A row of one element or more is no nil. -/
theorem own_form {w : World} {base : Nat} {e : TypeId} {size : Nat} {v : Value} {n : Nat} {xs : List Value} (h : w.ownsRow base e size v (n + 1) xs) : ∃ g c, v = .slice (some ⟨g, 0, none⟩) (n + 1) c := by
  rcases h.2 with ⟨_, h⟩ | ⟨g, c, _, h, _⟩
  · omega
  · exact ⟨g, c, h⟩
/-- Nil, or written out. -/
theorem own_forms {w : World} {base size n : Nat} {e : TypeId} {v : Value} {xs : List Value} (h : w.ownsRow base e size v n xs) : (v = .slice none 0 0 ∧ n = 0) ∨ ∃ g c, v = .slice (some ⟨g, 0, none⟩) n c := by
  rcases h.2 with h0 | ⟨g, c, _, hv, _⟩
  · exact Or.inl h0
  · exact Or.inr ⟨g, c, hv⟩
theorem own_mono {w : World} {b b' : Nat} {e : TypeId} {size : Nat} {v : Value} {n : Nat} {xs : List Value} (h : w.ownsRow b e size v n xs) (hb : b' ≤ b) : w.ownsRow b' e size v n xs := by
  rcases h with ⟨h1, h2 | ⟨g, c, cur, e1, e2, e3⟩⟩
  · exact ⟨h1, Or.inl h2⟩
  · exact ⟨h1, Or.inr ⟨g, c, cur, e1, Nat.le_trans hb e2, e3⟩⟩

theorem own_below {w w' : World} {b : Nat} {e : TypeId} {size : Nat} {v : Value} {n : Nat} {xs : List Value} (h : w.ownsRow b e size v n xs) (hb : Below w.heap.size w w') : w'.ownsRow b e size v n xs := by
  rcases h with ⟨h1, h2 | ⟨g, c, cur, e1, e2, e3, e4⟩⟩
  · exact ⟨h1, Or.inl h2⟩
  · refine ⟨h1, Or.inr ⟨g, c, cur, e1, e2, (hb.block g ?_).trans e3, e4⟩⟩
    rcases Nat.lt_or_ge g w.heap.size with h | h
    · exact h
    · rw [Array.getElem?_eq_none h] at e3; cases e3
end Go.Proofs.YtcenohaadggdiacDoor

namespace Go.Proofs.YtcenohaadggdiacDoor
open Go.RowKit

theorem Tryd.byteInfo : (Tryd.prog.info? 5).map (fun i => (i.zero, i.size, i.bytes)) = some (some (.int .u8 0), 1, 1) := by kernel_rfl
theorem Tryd.bSize : (Tryd.prog.info? 72).map (·.size) = some 2 := by kernel_rfl
theorem Tryd.bLies : liesAt Tryd.prog Tryd.prog.depth 74 (4 / Tryd.prog.cellsOf 74) 2 72 1 = true := by kernel_rfl
theorem Tryd.byteCell : Tryd.prog.cellsOf 5 = 1 := by kernel_rfl

/-- The builder at block p: its file, its size, what its own builder's two cells hold; the bytes that were written. -/
structure BdAt (p : Nat) (w : World) (old : ByteArray) (size : Int) (a v : Value) (bs : List UInt8) : Prop where
  blk : w.heap[p]? = some (.cells #[.string old, .int .i64 size, a, v] 74 (0, 0))
  own : w.ownsRow (p + 1) 5 1 v bs.length (Lib.byteCells bs)
  nil : bs = [] → v = .slice none 0 0
def fresh2 (p : Nat) (a : Value) : Prop := a = .pointer none ∨ a = .pointer (some ⟨p, 2, none⟩)

section
variable {p : Nat} {w : World} {old : ByteArray} {size : Int} {a v : Value} {bs : List UInt8}
theorem BdAt.lt (h : BdAt p w old size a v bs) : p < w.heap.size := (Array.getElem?_eq_some_iff.1 h.blk).1
theorem BdAt.c0 (h : BdAt p w old size a v bs) : w.cell? ⟨p, 0, none⟩ = some (.string old) := by rw [Lib.cell_of_heap h.blk]; rfl
theorem BdAt.c1 (h : BdAt p w old size a v bs) : w.cell? ⟨p, 1, none⟩ = some (.int .i64 size) := by rw [Lib.cell_of_heap h.blk]; rfl
theorem BdAt.c2 (h : BdAt p w old size a v bs) : w.cell? ⟨p, 2, none⟩ = some a := by rw [Lib.cell_of_heap h.blk]; rfl
theorem BdAt.c3 (h : BdAt p w old size a v bs) : w.cell? ⟨p, 3, none⟩ = some v := by rw [Lib.cell_of_heap h.blk]; rfl
theorem BdAt.fz (h : BdAt p w old size a v bs) (j : Nat) : w.frozen? ⟨p, j, none⟩ = false := Lib.frozen_of_heap h.blk j
theorem BdAt.shape (h : BdAt p w old size a v bs) : w.shape? p = some (74, 4) := by simp [World.shape?, h.blk]
/-- Its own address laid into its own builder. -/
theorem BdAt.used (h : BdAt p w old size a v bs) (q : Value) : BdAt p (w.setCell ⟨p, 2, none⟩ q) old size q v bs := by
  refine ⟨?_, ownsRow_setCell_below h.own (a := ⟨p, 2, none⟩) (by simp) q, h.nil⟩
  simp [World.setCell, Array.getElem?_modify, h.blk]
/-- What is made behind it leaves it. -/
theorem BdAt.kept {w' : World} (h : BdAt p w old size a v bs) (hb : Below w.heap.size w w') : BdAt p w' old size a v bs :=
  ⟨(hb.block p h.lt).trans h.blk, own_below h.own hb, h.nil⟩
end

set_option maxHeartbeats 1000000 in
set_option maxRecDepth 100000 in
theorem cc_used (p : Nat) (w : World) (h0 : w.cell? ⟨p, 2, none⟩ = some (.pointer (some ⟨p, 2, none⟩))) :
    Calls Tryd.prog 86 #[.pointer (some ⟨p, 2, none⟩)] w fun r w' => r = .returned (.tuple #[]) ∧ w' = w := by
  obtain ⟨j, hj, _⟩ := Option.map_eq_some_iff.1 Tryd.bSize
  go_enter Tryd.func86, Tryd.ntmps86
  go_wp2
  rw [Lib.run_neq_ptr_same w _ Tryd.underlying69 hj]
  go_wp2
  go_end0
  exact ⟨rfl, rfl⟩

set_option maxHeartbeats 1000000 in
set_option maxRecDepth 100000 in
theorem cc_fresh (p : Nat) (w : World) (h0 : w.cell? ⟨p, 2, none⟩ = some (.pointer none)) (hsh : w.shape? p = some (74, 4)) (hfz : w.frozen? ⟨p, 2, none⟩ = false) :
    Calls Tryd.prog 86 #[.pointer (some ⟨p, 2, none⟩)] w fun r w' => r = .returned (.tuple #[]) ∧ w' = w.setCell ⟨p, 2, none⟩ (.pointer (some ⟨p, 2, none⟩)) := by
  obtain ⟨j, hj, hjs⟩ := Option.map_eq_some_iff.1 Tryd.bSize
  go_enter Tryd.func86, Tryd.ntmps86
  go_wp2
  rw [Lib.run_to_unsafe w ⟨p, 2, none⟩ Tryd.underlying69 Tryd.underlying129 hj (by rw [hjs]; decide) hsh (show 2 < 4 by decide)]
  simp only [Result.andThen]
  rw [Oper.upon_value]
  go_wp2
  rw [run_callFunc_extern Tryd.func97 (by kernel_rfl) (by kernel_rfl) (by kernel_rfl) (e := Extern.AbiNoEscape.same) (by kernel_rfl)]
  rw [Lib.run_noEscape]
  simp only [Result.andThen]
  rw [Oper.upon_value]
  go_wp2
  rw [Lib.run_from_unsafe w ⟨p, 2, none⟩ Tryd.underlying129 Tryd.underlying69 hj hsh Tryd.bLies]
  simp only [Result.andThen]
  rw [Oper.upon_value]
  go_wp2
  go_end0
  exact ⟨rfl, rfl⟩

theorem cc_ok {p : Nat} {w : World} {old : ByteArray} {size : Int} {a v : Value} {bs : List UInt8} (h : BdAt p w old size a v bs) (ha : fresh2 p a) :
    Calls Tryd.prog 86 #[.pointer (some ⟨p, 2, none⟩)] w fun r w' => r = .returned (.tuple #[]) ∧ BdAt p w' old size (.pointer (some ⟨p, 2, none⟩)) v bs ∧ Below p w w' := by
  rcases ha with rfl | rfl
  · refine (cc_fresh p w h.c2 h.shape (h.fz 2)).mono ?_
    rintro r w' ⟨rfl, rfl⟩
    exact ⟨rfl, h.used _, (Below.refl _ _).setCell (by simp) _⟩
  · refine (cc_used p w h.c2).mono ?_
    rintro r w' ⟨rfl, rfl⟩
    exact ⟨rfl, h, Below.refl _ _⟩

set_option maxHeartbeats 1000000 in
set_option maxRecDepth 100000 in
theorem blen_ok {p : Nat} {w : World} {old : ByteArray} {size : Int} {a v : Value} {bs : List UInt8} (h : BdAt p w old size a v bs) :
    Calls Tryd.prog 64 #[.pointer (some ⟨p, 2, none⟩)] w fun r w' => r = .returned (.int .i64 bs.length) ∧ w' = w := by
  have c3 := h.c3
  rcases own_forms h.own with ⟨rfl, h0⟩ | ⟨g, c, rfl⟩
  · rw [h0]
    clear h h0
    go_enter Tryd.func64, Tryd.ntmps64
    go_wp2
    go_ret
    exact ⟨rfl, rfl⟩
  · clear h
    go_enter Tryd.func64, Tryd.ntmps64
    go_wp2
    go_ret
    exact ⟨rfl, rfl⟩

set_option maxHeartbeats 2000000 in
set_option maxRecDepth 100000 in
theorem bwrite_ok {p : Nat} {w : World} {old : ByteArray} {size : Int} {a v : Value} {bs : List UInt8} (s : ByteArray) (h : BdAt p w old size a v bs) (ha : fresh2 p a) (hs : 1 ≤ s.size) (hl : bs.length + s.size ≤ 1000000) :
    Calls Tryd.prog 65 #[.pointer (some ⟨p, 2, none⟩), .string s] w fun r w' => r = .returned (.tuple #[.int .i64 s.size, .nilIface]) ∧ (∃ v', BdAt p w' old size (.pointer (some ⟨p, 2, none⟩)) v' (bs ++ s.data.toList)) ∧ Below p w w' := by
  obtain ⟨i0, hi, hz0, hz1, hz2⟩ := info_parts Tryd.byteInfo
  have HC := hide (cc_ok h ha)
  clear h
  go_enter Tryd.func65, Tryd.ntmps65
  go_wp2_with fail
  refine HC.out.mono ?_
  rintro r w1 ⟨rfl, h1, hb1⟩
  have H1 := hide h1
  have Hb1 := hide hb1
  have c2 := h1.c2
  have c3 := h1.c3
  have own := h1.own
  have hlt := h1.lt
  clear HC h1 hb1
  go_wp2_with (at_builtin; refine Lib.wpList_append_own_string _ rfl _ _ 70 9 rfl (p + 1) 5 i0 Tryd.underlying70 Tryd.underlying9 hi hz0 hz1 hz2 _ _ _ rfl own s rfl ?b1 ?b2 ?b3 ?next)
  case b1 => unfold maxLen; omega
  case b2 => omega
  case b3 => omega
  case next =>
    intro v2 w2 hown hgrow _
    have hb2 : Below (p + 1) w1 w2 := (Below.refl _ _).grown hgrow (by omega) (fun k hk => (own.lt k hk).1)
    have hbk := (hb2.block p (by omega)).trans H1.out.blk
    have d2 : w2.cell? ⟨p, 2, none⟩ = some (.pointer (some ⟨p, 2, none⟩)) := by rw [Lib.cell_of_heap hbk]; rfl
    have d3 : w2.cell? ⟨p, 3, none⟩ = some v := by rw [Lib.cell_of_heap hbk]; rfl
    have f3 : w2.frozen? ⟨p, 3, none⟩ = false := Lib.frozen_of_heap hbk 3
    have Hfin : Hid (BdAt p (w2.setCell ⟨p, 3, none⟩ v2) old size (.pointer (some ⟨p, 2, none⟩)) v2 (bs ++ s.data.toList)) := by
      refine ⟨?_, ?_, fun e => ?_⟩
      · simp [World.setCell, Array.getElem?_modify, hbk]
      · have := ownsRow_setCell_below hown (a := ⟨p, 3, none⟩) (by simp) v2
        rw [Lib.strCells_eq, ← Lib.byteCells_append] at this
        rw [List.length_append, lenL]
        exact this
      · have := congrArg List.length e
        rw [List.length_append, lenL, List.length_nil] at this
        omega
    have Hb2 : Hid (Below p w (w2.setCell ⟨p, 3, none⟩ v2)) := (Hb1.out.trans (hb2.mono (by omega))).setCell (by simp) _
    obtain ⟨k, hk⟩ : ∃ k, bs.length + s.size = k + 1 := ⟨bs.length + s.size - 1, by omega⟩
    rw [hk] at hown
    obtain ⟨g, c, rfl⟩ := own_form hown
    clear hown hgrow hb2 hbk H1 Hb1 own hi hz0 hz1 hz2
    go_wp2
    go_ret2
    exact ⟨rfl, ⟨_, Hfin.out⟩, Hb2.out⟩
end Go.Proofs.YtcenohaadggdiacDoor

namespace Go.Proofs.YtcenohaadggdiacDoor
open Go.RowKit

set_option maxHeartbeats 2000000 in
set_option maxRecDepth 100000 in
theorem bstr_nil (p : Nat) (w : World) (c3 : w.cell? ⟨p, 3, none⟩ = some (.slice none 0 0)) :
    Calls Tryd.prog 39 #[.pointer (some ⟨p, 2, none⟩)] w fun r w' => r = .returned (.string ⟨#[]⟩) ∧ Below w.heap.size w w' := by
  have hUS : ∀ (W : World) (q : Option Addr), (Builtin.unsafeString_ #[107, 3] 9 #[.pointer q, .int .i64 0]).run Tryd.prog W = .ok (.string .empty) W := fun W q => Lib.run_unsafeString_none W _ _ _ q
  have c3' : w.drew.cell? ⟨p, 3, none⟩ = some (.slice none 0 0) := c3
  have hSD : (Builtin.unsafeSliceData_ #[70] 107 #[.slice none 0 0]).run Tryd.prog w.drew = .ok (.pointer none) w.drew := rfl
  go_enter Tryd.func39, Tryd.ntmps39
  go_wp2
  go_region
  all_goals (go_wp2; go_ret; exact ⟨rfl, Below.drew (Below.refl _ w)⟩)

set_option maxHeartbeats 2000000 in
set_option maxRecDepth 100000 in
theorem bstr_some (p g cap : Nat) (cur : Array Value) (l : List UInt8) (w : World) (h0 : l ≠ []) (c3 : w.cell? ⟨p, 3, none⟩ = some (.slice (some ⟨g, 0, none⟩) l.length cap)) (hpg : p < g) (hg : w.heap[g]? = some (.cells cur 5 (0, 0))) (hnc : l.length ≤ cap) (hcm : cap ≤ maxLen) (hcs : cur.size = cap)
    (hcell : ∀ j x, l[j]? = some x → w.cell? ((⟨g, 0, none⟩ : Addr).add j) = some (.int .u8 x.toNat)) :
    Calls Tryd.prog 39 #[.pointer (some ⟨p, 2, none⟩)] w fun r w' => r = .returned (.string ⟨l.toArray⟩) ∧ Below (p + 1) w w' := by
  have hl0 : l.length ≠ 0 := by simpa using h0
  have c3' : w.drew.cell? ⟨p, 3, none⟩ = some (.slice (some ⟨g, 0, none⟩) l.length cap) := c3
  have hSD : (Builtin.unsafeSliceData_ #[70] 107 #[.slice (some ⟨g, 0, none⟩) l.length cap]).run Tryd.prog w.drew = .ok (.pointer (some ⟨g, 0, none⟩)) w.drew :=
    Lib.run_unsafeSliceData_row _ _ _ _ _ _ (by omega)
  have hUS : (Builtin.unsafeString_ #[107, 3] 9 #[.pointer (some ⟨g, 0, none⟩), .int .i64 l.length]).run Tryd.prog w.drew = .ok (.string ⟨l.toArray⟩) (w.drew.freeze ⟨g, 0, none⟩ l.length) := by
    refine Lib.run_unsafeString_row w.drew 107 3 9 5 Tryd.underlying107 Tryd.byteCell g cur.size (by have hg' : w.drew.heap[g]? = some (.cells cur 5 (0, 0)) := hg; simp [World.shape?, hg']) l h0 (by omega) (by unfold maxLen at hcm; omega) ?_
    exact hcell
  have hb : Below (p + 1) w (w.drew.freeze ⟨g, 0, none⟩ l.length) := Lib.below_freeze (Below.drew (Below.refl _ w)) (p := ⟨g, 0, none⟩) hpg _
  have Hb := hide hb
  clear hb h0 hg hnc hcm hcs hcell hpg
  go_enter Tryd.func39, Tryd.ntmps39
  go_wp2
  go_region
  all_goals (go_wp2; go_ret; exact ⟨rfl, Hb.out⟩)

theorem bstr_ok {p : Nat} {w : World} {old : ByteArray} {size : Int} {a v : Value} {bs : List UInt8} (h : BdAt p w old size a v bs) :
    Calls Tryd.prog 39 #[.pointer (some ⟨p, 2, none⟩)] w fun r w' => r = .returned (.string (str bs)) ∧ Below (p + 1) w w' := by
  have c3 := h.c3
  by_cases h0 : bs = []
  · rw [h.nil h0] at c3
    subst h0
    exact (bstr_nil p w c3).mono fun _ _ ⟨e, hb⟩ => ⟨e, hb.mono h.lt⟩
  · rcases h.own.2 with ⟨_, hz⟩ | ⟨g, cap, cur, rfl, hbg, hg, hnc, hcm, hcs, htake⟩
    · exact absurd (List.length_eq_zero_iff.1 hz) h0
    · exact bstr_some p g cap cur bs w h0 c3 (by omega) hg hnc hcm (by omega) (fun j x hx => h.own.cells (g := g) rfl j (.int .u8 x.toNat) (by simp [Lib.byteCells, hx]))
end Go.Proofs.YtcenohaadggdiacDoor

namespace Go.Proofs.YtcenohaadggdiacDoor
open Go.RowKit

theorem below_drewN (w : World) (n : Nat) : Below w.heap.size w (w.drewN n) := ⟨rfl, rfl, rfl, Nat.le_refl _, fun _ _ => rfl⟩

set_option maxHeartbeats 1000000 in
set_option maxRecDepth 100000 in
theorem blocks_ok {p : Nat} {w : World} {old : ByteArray} {size : Nat} {a v : Value} {bs : List UInt8} (h : BdAt p w old size a v bs) (h1 : 1 ≤ size) (h2 : size ≤ 64) (ho : old.size ≤ 4000) :
    Calls Tryd.prog 62 #[.pointer (some ⟨p, 0, none⟩)] w fun r w' => r = .returned (.int .i64 ((old.size + size - 1) / size : Nat)) ∧ Below w.heap.size w w' := by
  have c0 := h.c0
  have c1 := h.c1
  have h1' : (1 : Int) ≤ size := by omega
  have h2' : (size : Int) ≤ 64 := by omega
  have ho' : (old.size : Int) ≤ 4000 := by omega
  clear h
  go_enter Tryd.func62, Tryd.ntmps62
  go_wp2_with fail
  go_quiet (fail)
  go_wp2_with fail
  go_ret
  refine ⟨ret_int ?_, below_drewN w nq⟩
  rw [show (old.size : Int) + (size : Int) - 1 = ((old.size + size - 1 : Nat) : Int) by omega, ← Int.natCast_ediv]

/-- The bytes of n blocks from block k on. -/
theorem copiedL (old : ByteArray) (size k n : Nat) (h : k * size ≤ old.size) : (old.extract (k * size) (min ((k + n) * size) old.size)).data.toList = (old.data.toList.drop (k * size)).take (n * size) := by
  rw [extractL]
  have e : (k + n) * size = k * size + n * size := Nat.add_mul ..
  rw [e, List.take_eq_take_iff]
  rw [List.length_drop, lenL]
  omega

set_option maxHeartbeats 2000000 in
set_option maxRecDepth 100000 in
theorem copied_ok {p : Nat} {w : World} {old : ByteArray} {size : Nat} {a v : Value} {bs : List UInt8} (k n : Nat) (h : BdAt p w old size a v bs) (h2 : size ≤ 64) (ho : old.size ≤ 4000) (hk : k ≤ 4000) (hn : n ≤ 4000) (hko : k * size ≤ old.size) :
    Calls Tryd.prog 63 #[.pointer (some ⟨p, 0, none⟩), .int .i64 k, .int .i64 n] w fun r w' => r = .returned (.string (str ((old.data.toList.drop (k * size)).take (n * size)))) ∧ Below w.heap.size w w' := by
  have HE : Hid (str ((old.data.toList.drop (k * size)).take (n * size)) = old.extract (k * size) (min ((k + n) * size) old.size)) := by
    apply ext_of_list
    rw [strL, copiedL old size k n hko]
  have c0 := h.c0
  have c1 := h.c1
  obtain ⟨F, hF⟩ : ∃ F, F = k * size := ⟨_, rfl⟩
  obtain ⟨T, hT⟩ : ∃ T, T = (k + n) * size := ⟨_, rfl⟩
  have hFT : F ≤ T := by rw [hF, hT]; exact Nat.mul_le_mul_right _ (by omega)
  have hFi : (k : Int) * (size : Int) = (F : Int) := by rw [hF, Int.natCast_mul]
  have hTi : ((k : Int) + (n : Int)) * (size : Int) = (T : Int) := by rw [hT, Int.natCast_mul, Int.natCast_add]
  have hT4 : T ≤ 512000 := by rw [hT]; exact Nat.le_trans (Nat.mul_le_mul (show k + n ≤ 8000 by omega) h2) (by decide)
  rw [← hF, ← hT] at HE
  rw [← hF] at hko
  have hT4' : (T : Int) ≤ 512000 := by omega
  have hko' : (F : Int) ≤ old.size := by omega
  have hFT' : (F : Int) ≤ T := by omega
  have ho' : (old.size : Int) ≤ 4000 := by omega
  have hk' : (k : Int) ≤ 4000 := by omega
  have hn' : (n : Int) ≤ 4000 := by omega
  have HF := hide hF
  have HT := hide hT
  clear h hF hT
  by_cases ht : old.size < T
  · rw [show min T old.size = old.size by omega] at HE
    have HR := hide (HE.out)
    clear HE
    go_enter Tryd.func63, Tryd.ntmps63
    go_wp2_with fail
    go_region
    all_goals
      go_wp2_with fail
      go_ret
      exact ⟨(by rw [← HF.out, HR.out]; exact rfl), Below.drew (Below.refl _ w)⟩
  · have ht' : T ≤ old.size := by omega
    rw [show min T old.size = T by omega] at HE
    have HR := hide (HE.out)
    clear HE
    go_enter Tryd.func63, Tryd.ntmps63
    go_wp2_with fail
    go_region
    all_goals
      go_wp2_with fail
      go_ret
      exact ⟨(by rw [← HF.out, HR.out]; exact rfl), Below.drew (Below.refl _ w)⟩
end Go.Proofs.YtcenohaadggdiacDoor
