/-
  What is said of a gate behind a pointer; contracts of package gate's New, Last, hasRoom, isEpoch.
-/
import Derived.Test.YtogpjblikphpcaaGreatDoorGateMath
import Derived.Test.YtogpjblikphpcaaGreatDoorMapS
import Derived.Deep.QuietTactic
import Derived.BigQuiet
import Derived.WalkSmall
namespace Go.Proofs.YtogpjblikphpcaaGreatDoor
open Go.RowKit
open Go.Gate
open Go.Files (isNm)

/-- A gate's two objects. -/
def gtL (l : Toks) (i : Nat × Nat) : List Fam := [CellsF i.1 78 [.map (some i.2)], MapS Tryz.prog 9 i.2 l]
/-- A gate behind a pointer. -/
def GtO (v : Value) (l : Toks) : Fam := Pack (fun i : {i : Nat × Nat // v = .pointer (some ⟨i.1, 0, none⟩)} => gtL l i.1)
theorem GtO.open {M0 : Foot} {w0 w : World} {v : Value} {l : Toks} {L : List Fam} (h : Sep M0 w0 (GtO v l :: L) w) : ∃ p b, v = .pointer (some ⟨p, 0, none⟩) ∧ Sep M0 w0 (CellsF p 78 [.map (some b)] :: MapS Tryz.prog 9 b l :: L) w := by
  obtain ⟨⟨⟨p, b⟩, hv⟩, hS⟩ := h.unpack
  exact ⟨p, b, hv, hS⟩
theorem GtO.shut {M0 : Foot} {w0 w : World} {l : Toks} {p b : Nat} {L : List Fam} (h : Sep M0 w0 (CellsF p 78 [.map (some b)] :: MapS Tryz.prog 9 b l :: L) w) : Sep M0 w0 (GtO (.pointer (some ⟨p, 0, none⟩)) l :: L) w :=
  Sep.pack (f := fun i : {i : Nat × Nat // Value.pointer (some ⟨p, 0, none⟩) = .pointer (some ⟨i.1, 0, none⟩)} => gtL l i.1) ⟨(p, b), rfl⟩ h
theorem get_getT : ∀ (l : Toks) (t : ByteArray), AssocS.get l t = getT l t
  | [], _ => rfl
  | p :: r, t => by rw [AssocS.get, getT, get_getT r t]
theorem set_ins {l : Toks} (hr : RiseT l) (t : ByteArray) (n : Int) : (AssocS.set l t n).Perm (insT t n l) := by
  unfold AssocS.set
  rw [get_getT]
  split
  · rename_i h
    rw [ins_map t n hr h]
  · rename_i h
    refine (List.perm_append_comm (l₁ := [(t, n)]) (l₂ := l)).trans (ins_perm_new t n (getT_none.1 (by simpa using h))).symm
theorem zeroInt (w : World) : (zeroValue 3).run Tryz.prog w = .ok (vI 0) w := by kernel_rfl

/-- What the operations answer. -/
theorem Sep.tokLook {b : Nat} {l : Toks} {M0 : Foot} {w0 w : World} {L : List Fam} (h : Sep M0 w0 (MapS Tryz.prog 9 b l :: L) w) {t : ByteArray} (ht : t.size ≤ 1000000) :
    (Instr.lookup 76 (.map (some b)) (.string t) true).run Tryz.prog w = .ok (.tuple #[.int .i64 (lastT l t), .bool (getT l t).isSome]) w := by
  have := h.textLook Tryz.underlying9 Tryz.underlying76 (zeroInt w) (n := t) (by unfold maxLen; omega)
  rw [get_getT] at this
  exact this
theorem Sep.tokLook1 {b : Nat} {l : Toks} {M0 : Foot} {w0 w : World} {L : List Fam} (h : Sep M0 w0 (MapS Tryz.prog 9 b l :: L) w) {t : ByteArray} (ht : t.size ≤ 1000000) :
    (Instr.lookup 76 (.map (some b)) (.string t) false).run Tryz.prog w = .ok (.int .i64 (lastT l t)) w := by
  have := h.textLook1 Tryz.underlying9 Tryz.underlying76 (zeroInt w) (n := t) (by unfold maxLen; omega)
  rw [get_getT] at this
  exact this

set_option maxHeartbeats 1000000 in
set_option maxRecDepth 100000 in
theorem newGate_ok (W : World) : Tri Tryz.prog 7 #[] [] (fun e L => ∃ a, e = .returned (.pointer (some a)) ∧ L = [GtO (.pointer (some a)) []]) W := by
  intro M hM
  have hS := ((Sep.of_star hM).textMade Tryz.prog 9).fresh 78 [.map (some W.heap.size)]
  have hS' := GtO.shut (b := W.heap.size) hS
  rw [show (W.alloc (.map #[] 0)).heap.size = W.heap.size + 1 by simp] at hS'
  have HS := hide hS'
  have hmm := @run_makeMap Tryz.prog
  clear hS hS' hM
  go_enter Tryz.func7, Tryz.ntmps7
  go_wp2_with fail
  go_ret
  exact ⟨_, ⟨_, rfl, rfl⟩, HS.out⟩

set_option maxHeartbeats 1000000 in
set_option maxRecDepth 100000 in
theorem last_pure {M0 : Foot} {w0 W : World} {L : List Fam} {v : Value} {l : Toks} (h0 : Sep M0 w0 (GtO v l :: L) W) (t : ByteArray) (ht : t.size ≤ 1000000) :
    Calls Tryz.prog 8 #[v, .string t] W fun e w' => e = .returned (.int .i64 (lastT l t)) ∧ w' = W := by
  obtain ⟨p, b, rfl, hS⟩ := GtO.open h0
  have c0 := (hS.cell 0).1
  simp only [List.getElem?_cons_zero] at c0
  have hlook := hS.sw.tokLook1 ht
  generalize lastT l t = x at *
  clear h0 hS
  go_enter Tryz.func8, Tryz.ntmps8
  go_wp2_with fail
  go_ret
  exact ⟨rfl, rfl⟩
theorem last_ok (v : Value) (l : Toks) (t : ByteArray) (W : World) (ht : t.size ≤ 1000000) :
    Tri Tryz.prog 8 #[v, .string t] [GtO v l] (fun e L => e = .returned (.int .i64 (lastT l t)) ∧ L = [GtO v l]) W := fun M hM =>
  (last_pure (Sep.of_star hM) t ht).mono fun _ _ ⟨h1, h2⟩ => ⟨_, ⟨h1, rfl⟩, by rw [h2]; exact Sep.of_star hM⟩

set_option maxHeartbeats 1000000 in
set_option maxRecDepth 100000 in
theorem hasRoom_ok {M0 : Foot} {w0 W : World} {L : List Fam} (b : Nat) (l : Toks) (t : ByteArray) (hS : Sep M0 w0 (MapS Tryz.prog 9 b l :: L) W) (ht : t.size ≤ 1000000) :
    Calls Tryz.prog 36 #[.map (some b), .string t] W fun r w' => r = .returned (.bool ((getT l t).isSome || decide (l.length < 20))) ∧ w' = W := by
  have hlook := hS.tokLook ht
  have hlen := hS.textLen Tryz.underlying76 3
  generalize lastT l t = x at *
  generalize hn : l.length = n at *
  clear hS hn
  cases hs : (getT l t).isSome with
  | true =>
    rw [hs] at hlook
    go_enter Tryz.func36, Tryz.ntmps36
    go_wp2_with fail
    go_ret
    exact ⟨rfl, rfl⟩
  | false =>
    rw [hs] at hlook
    by_cases h20 : n < 20
    · have h20' : (n : Int) < 20 := by omega
      go_enter Tryz.func36, Tryz.ntmps36
      go_wp2_with fail
      go_ret
      exact ⟨ret_bool (by simp; omega), rfl⟩
    · have h20' : (20 : Int) ≤ n := by omega
      go_enter Tryz.func36, Tryz.ntmps36
      go_wp2_with fail
      go_ret
      exact ⟨ret_bool (by simp; omega), rfl⟩

set_option maxHeartbeats 1000000 in
set_option maxRecDepth 100000 in
theorem isEpoch_ok (n : Int) (W : World) : Calls Tryz.prog 44 #[.int .i64 n] W fun r w' => r = .returned (.bool (isEp n)) ∧ w' = W := by
  have HE : Hid (isEp n = (decide (1 ≤ n) && decide (n ≤ 2147483648))) := rfl
  by_cases h1 : 1 ≤ n
  · by_cases h2 : n ≤ 2147483648
    · go_enter Tryz.func44, Tryz.ntmps44
      go_wp2_with fail
      go_ret
      exact ⟨ret_bool (by rw [HE.out]; simp; omega), rfl⟩
    · have h2' : 2147483648 < n := by omega
      go_enter Tryz.func44, Tryz.ntmps44
      go_wp2_with fail
      go_ret
      exact ⟨ret_bool (by rw [HE.out]; simp; omega), rfl⟩
  · have h1' : n < 1 := by omega
    go_enter Tryz.func44, Tryz.ntmps44
    go_wp2_with fail
    go_ret
    exact ⟨ret_bool (by rw [HE.out]; simp; omega), rfl⟩
end Go.Proofs.YtogpjblikphpcaaGreatDoor
