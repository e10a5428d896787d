/-
  Contracts of strings.Builder's methods at a builder that lies apart, over this dump.
-/
import Derived.Test.YtogpjblikphpcaaGreatDoorSepStr
import Derived.Lib.Builder
import Derived.Lib.UnsafeStr
import Derived.Laws.Externs
import Derived.Laws.BytesArg
namespace Go.Proofs.YtogpjblikphpcaaGreatDoor
open Go.RowKit

theorem Tryz.byteInfo : (Tryz.prog.info? 5).map (fun i => (i.zero, i.size, i.bytes)) = some (some (.int .u8 0), 1, 1) := by kernel_rfl
theorem Tryz.bSize : (Tryz.prog.info? 92).map (·.size) = some 2 := by kernel_rfl
theorem Tryz.bLies : liesAt Tryz.prog Tryz.prog.depth 92 (2 / Tryz.prog.cellsOf 92) 0 92 1 = true := by kernel_rfl
theorem Tryz.byteCell : Tryz.prog.cellsOf 5 = 1 := by kernel_rfl

def fresh0 (p : Nat) (a : Value) : Prop := a = .pointer none ∨ a = .pointer (some ⟨p, 0, none⟩)
/-- A builder at block p: its own address (or none yet), its row. -/
def bdL (p : Nat) (bs : List UInt8) (i : Value × Value) : List Fam := [CellsF p 92 [i.1, i.2], OwnF 5 1 i.2 bs.length (Lib.byteCells bs)]
def BdO (p : Nat) (bs : List UInt8) : Fam := Pack (fun i : {i : Value × Value // fresh0 p i.1 ∧ (bs = [] → i.2 = .slice none 0 0)} => bdL p bs i.1)
section
variable {M0 : Foot} {w0 w : World} {L : List Fam} {p : Nat} {bs : List UInt8}
theorem BdO.open (h : Sep M0 w0 (BdO p bs :: L) w) : ∃ a v, fresh0 p a ∧ (bs = [] → v = .slice none 0 0) ∧ Sep M0 w0 (CellsF p 92 [a, v] :: OwnF 5 1 v bs.length (Lib.byteCells bs) :: L) w := by
  obtain ⟨⟨⟨a, v⟩, h1, h2⟩, hS⟩ := h.unpack
  exact ⟨a, v, h1, h2, hS⟩
theorem BdO.shut {a v : Value} (h1 : fresh0 p a) (h2 : bs = [] → v = .slice none 0 0) (h : Sep M0 w0 (CellsF p 92 [a, v] :: OwnF 5 1 v bs.length (Lib.byteCells bs) :: L) w) : Sep M0 w0 (BdO p bs :: L) w :=
  Sep.pack (f := fun i : {i : Value × Value // fresh0 p i.1 ∧ (bs = [] → i.2 = .slice none 0 0)} => bdL p bs i.1) ⟨(a, v), h1, h2⟩ h
/-- A new one. -/
theorem Sep.builder (h : Sep M0 w0 L w) : Sep M0 w0 (BdO w.heap.size [] :: L) (w.alloc (.cells #[.pointer none, .slice none 0 0] 92)) :=
  BdO.shut (.inl rfl) (fun _ => rfl) ((h.nil 5 1).fresh 92 [.pointer none, .slice none 0 0])
end

set_option maxHeartbeats 1000000 in
set_option maxRecDepth 100000 in
theorem cc_used (p : Nat) (w : World) (h0 : w.cell? ⟨p, 0, none⟩ = some (.pointer (some ⟨p, 0, none⟩))) :
    Calls Tryz.prog 68 #[.pointer (some ⟨p, 0, none⟩)] w fun r w' => r = .returned (.tuple #[]) ∧ w' = w := by
  obtain ⟨j, hj, _⟩ := Option.map_eq_some_iff.1 Tryz.bSize
  go_enter Tryz.func68, Tryz.ntmps68
  go_wp2
  rw [Lib.run_neq_ptr_same w _ Tryz.underlying89 hj]
  go_wp2
  go_end0
  exact ⟨rfl, rfl⟩

set_option maxHeartbeats 1000000 in
set_option maxRecDepth 100000 in
theorem cc_fresh (p : Nat) (w : World) (h0 : w.cell? ⟨p, 0, none⟩ = some (.pointer none)) (hsh : w.shape? p = some (92, 2)) (hfz : w.frozen? ⟨p, 0, none⟩ = false) :
    Calls Tryz.prog 68 #[.pointer (some ⟨p, 0, none⟩)] w fun r w' => r = .returned (.tuple #[]) ∧ w' = w.setCell ⟨p, 0, none⟩ (.pointer (some ⟨p, 0, none⟩)) := by
  obtain ⟨j, hj, hjs⟩ := Option.map_eq_some_iff.1 Tryz.bSize
  go_enter Tryz.func68, Tryz.ntmps68
  go_wp2
  rw [Lib.run_to_unsafe w ⟨p, 0, none⟩ Tryz.underlying89 Tryz.underlying140 hj (by rw [hjs]; decide) hsh (show 0 < 2 by decide)]
  simp only [Result.andThen]
  rw [Oper.upon_value]
  go_wp2
  rw [run_callFunc_extern Tryz.func92 (by kernel_rfl) (by kernel_rfl) (by kernel_rfl) (e := Extern.AbiNoEscape.same) (by kernel_rfl)]
  rw [Lib.run_noEscape]
  simp only [Result.andThen]
  rw [Oper.upon_value]
  go_wp2
  rw [Lib.run_from_unsafe w ⟨p, 0, none⟩ Tryz.underlying140 Tryz.underlying89 hj hsh Tryz.bLies]
  simp only [Result.andThen]
  rw [Oper.upon_value]
  go_wp2
  go_end0
  exact ⟨rfl, rfl⟩

theorem cc_ok {M0 : Foot} {w0 w : World} {L : List Fam} {p : Nat} {a v : Value} (h : Sep M0 w0 (CellsF p 92 [a, v] :: L) w) (ha : fresh0 p a) :
    Calls Tryz.prog 68 #[.pointer (some ⟨p, 0, none⟩)] w fun r w' => r = .returned (.tuple #[]) ∧ Sep M0 w0 (CellsF p 92 [.pointer (some ⟨p, 0, none⟩), v] :: L) w' := by
  have c0 := h.cell 0
  simp only [List.getElem?_cons_zero] at c0
  rcases ha with rfl | rfl
  · obtain ⟨M, hM, _⟩ := h.head
    refine (cc_fresh p w c0.1 (by simp [World.shape?, hM.1]) c0.2).mono ?_
    rintro r w' ⟨rfl, rfl⟩
    exact ⟨rfl, by simpa using h.set 0 (.pointer (some ⟨p, 0, none⟩))⟩
  · refine (cc_used p w c0.1).mono ?_
    rintro r w' ⟨rfl, rfl⟩
    exact ⟨rfl, h⟩

set_option maxHeartbeats 2000000 in
set_option maxRecDepth 100000 in
theorem bwrite_ok {M0 : Foot} {w0 w : World} {L : List Fam} {p : Nat} {bs : List UInt8} (s : ByteArray) (h : Sep M0 w0 (BdO p bs :: L) w) (hs : 0 < s.size) (hl : bs.length + s.size ≤ 1000000) :
    Calls Tryz.prog 38 #[.pointer (some ⟨p, 0, none⟩), .string s] w fun r w' => r = .returned (.tuple #[.int .i64 s.size, .nilIface]) ∧ Sep M0 w0 (BdO p (bs ++ s.data.toList) :: L) w' := by
  obtain ⟨i0, hi, hz0, hz1, hz2⟩ := info_parts Tryz.byteInfo
  obtain ⟨a, v, ha, _, hS⟩ := BdO.open h
  have HC := hide (cc_ok hS ha)
  clear h hS ha
  go_enter Tryz.func38, Tryz.ntmps38
  go_wp2_with fail
  refine HC.out.mono ?_
  rintro r w1 ⟨rfl, h1⟩
  have c1 := (h1.cell 1).1
  simp only [List.getElem?_cons_zero, List.getElem?_cons_succ] at c1
  have H1 := hide h1.sw
  clear HC h1
  go_wp2_with (at_builtin; refine wpList_append_text rfl _ _ 90 9 rfl 5 i0 Tryz.underlying90 Tryz.underlying9 hi hz0 hz1 hz2 _ _ _ rfl H1.out s rfl hs hl ?next)
  case next =>
    intro g c w2 h2
    have h3 := h2.sw
    have c1 := h3.cell 1
    have f1 := c1.2
    replace c1 := c1.1
    simp only [List.getElem?_cons_zero, List.getElem?_cons_succ] at c1
    have h4 := h3.set 1 (.slice (some ⟨g, 0, none⟩) (bs.length + s.size) c)
    simp only [List.set_cons_succ, List.set_cons_zero] at h4
    have Hfin : Hid (Sep M0 w0 (BdO p (bs ++ s.data.toList) :: L) (w2.setCell ⟨p, 1, none⟩ (.slice (some ⟨g, 0, none⟩) (bs.length + s.size) c))) := by
      refine BdO.shut (a := .pointer (some ⟨p, 0, none⟩)) (v := .slice (some ⟨g, 0, none⟩) (bs.length + s.size) c) (.inr rfl) (fun e => ?_) ?_
      · have := congrArg List.length e
        rw [List.length_append, lenL, List.length_nil] at this
        omega
      · rw [Lib.strCells_eq, ← Lib.byteCells_append] at h4
        rw [List.length_append, lenL]
        exact h4
    clear h2 h3 h4 H1 hi hz0 hz1 hz2
    go_wp2
    go_ret2
    exact ⟨rfl, Hfin.out⟩

set_option maxHeartbeats 2000000 in
set_option maxRecDepth 100000 in
theorem bstr_nil (p : Nat) (w : World) (c3 : w.cell? ⟨p, 1, none⟩ = some (.slice none 0 0)) :
    Calls Tryz.prog 40 #[.pointer (some ⟨p, 0, none⟩)] w fun r w' => r = .returned (.string ⟨#[]⟩) ∧ Below w.heap.size w w' := by
  have hUS : ∀ (W : World) (q : Option Addr), (Builtin.unsafeString_ #[129, 3] 9 #[.pointer q, .int .i64 0]).run Tryz.prog W = .ok (.string .empty) W := fun W q => Lib.run_unsafeString_none W _ _ _ q
  have c3' : w.drew.cell? ⟨p, 1, none⟩ = some (.slice none 0 0) := c3
  have hSD : (Builtin.unsafeSliceData_ #[90] 129 #[.slice none 0 0]).run Tryz.prog w.drew = .ok (.pointer none) w.drew := rfl
  go_enter Tryz.func40, Tryz.ntmps40
  go_wp2
  go_region
  all_goals (go_wp2; go_ret; exact ⟨rfl, Below.drew (Below.refl _ w)⟩)

set_option maxHeartbeats 2000000 in
set_option maxRecDepth 100000 in
theorem bstr_some (p g cap : Nat) (cur : Array Value) (l : List UInt8) (w : World) (h0 : l ≠ []) (c3 : w.cell? ⟨p, 1, none⟩ = some (.slice (some ⟨g, 0, none⟩) l.length cap)) (hg : w.heap[g]? = some (.cells cur 5 (0, 0))) (hnc : l.length ≤ cap) (hcm : cap ≤ maxLen) (hcs : cur.size = cap)
    (hcell : ∀ j x, l[j]? = some x → w.cell? ((⟨g, 0, none⟩ : Addr).add j) = some (.int .u8 x.toNat)) :
    Calls Tryz.prog 40 #[.pointer (some ⟨p, 0, none⟩)] w fun r w' => r = .returned (.string ⟨l.toArray⟩) ∧ w' = w.drew.freeze ⟨g, 0, none⟩ l.length := by
  have hl0 : l.length ≠ 0 := by simpa using h0
  have c3' : w.drew.cell? ⟨p, 1, none⟩ = some (.slice (some ⟨g, 0, none⟩) l.length cap) := c3
  have hSD : (Builtin.unsafeSliceData_ #[90] 129 #[.slice (some ⟨g, 0, none⟩) l.length cap]).run Tryz.prog w.drew = .ok (.pointer (some ⟨g, 0, none⟩)) w.drew :=
    Lib.run_unsafeSliceData_row _ _ _ _ _ _ (by omega)
  have hUS : (Builtin.unsafeString_ #[129, 3] 9 #[.pointer (some ⟨g, 0, none⟩), .int .i64 l.length]).run Tryz.prog w.drew = .ok (.string ⟨l.toArray⟩) (w.drew.freeze ⟨g, 0, none⟩ l.length) := by
    refine Lib.run_unsafeString_row w.drew 129 3 9 5 Tryz.underlying129 Tryz.byteCell g cur.size (by have hg' : w.drew.heap[g]? = some (.cells cur 5 (0, 0)) := hg; simp [World.shape?, hg']) l h0 (by omega) (by unfold maxLen at hcm; omega) ?_
    exact hcell
  clear h0 hg hnc hcm hcs hcell
  go_enter Tryz.func40, Tryz.ntmps40
  go_wp2
  go_region
  all_goals (go_wp2; go_ret; exact ⟨rfl, rfl⟩)

theorem Step.freeze {M : Foot} {w : World} {p : Addr} (hp : M p.block) (n : Nat) : Step M w (w.freeze p n) M := by
  unfold World.freeze
  split
  · exact Step.refl M w
  · exact ⟨rfl, rfl, rfl, by simp, fun k _ hn => by
      simp only [Array.getElem?_modify]
      rw [if_neg (fun e : p.block = k => hn (e ▸ hp))], fun _ h => .inl h⟩
/-- Its text: the builder is no object any more. -/
theorem bstr_ok {M0 : Foot} {w0 w : World} {L : List Fam} {p : Nat} {bs : List UInt8} (h : Sep M0 w0 (BdO p bs :: L) w) :
    Calls Tryz.prog 40 #[.pointer (some ⟨p, 0, none⟩)] w fun r w' => r = .returned (.string (str bs)) ∧ Sep M0 w0 L w' := by
  obtain ⟨a, v, ha, hn, hS⟩ := BdO.open h
  have c3 := (hS.cell 1).1
  simp only [List.getElem?_cons_zero, List.getElem?_cons_succ] at c3
  by_cases h0 : bs = []
  · rw [hn h0] at c3
    subst h0
    exact (bstr_nil p w c3).mono fun _ _ ⟨e, hb⟩ => ⟨e, (hS.drop.drop).keep hb⟩
  · have own := hS.sw.own
    rcases own.2 with ⟨_, hz⟩ | ⟨g, cap, cur, rfl, _, hg, hnc, hcm, hcs, htake⟩
    · exact absurd (List.length_eq_zero_iff.1 hz) h0
    · refine (bstr_some p g cap cur bs w h0 c3 hg hnc hcm (by omega) (fun j x hx => own.cells (g := g) rfl j (.int .u8 x.toNat) (by simp [Lib.byteCells, hx]))).mono ?_
      rintro r w' ⟨rfl, rfl⟩
      refine ⟨rfl, ?_⟩
      exact (Sep.turn (L1 := []) hS.sw.drew (fun M hM => ⟨Foot.none, .nil (fun _ e => e), (Step.freeze (p := ⟨g, 0, none⟩) ((hM.2 g).2 rfl) bs.length).less (fun _ e => e.elim)⟩)).drop
end Go.Proofs.YtogpjblikphpcaaGreatDoor
