/-
  Contracts of delta.firstWrong, Check, Cost over this dump, at any list of ops.
-/
import Derived.Test.YtgogjncamjbajacDoorOpsErr
namespace Go.Proofs.YtgogjncamjbajacDoor
open Go.RowKit
open Go.Delta (Opx)

/-- What the scan comes to, as firstWrong tells it. -/
def owrongOut : Option (Nat × Nat) → Int × Nat
  | none => (0, 0)
  | some (i, c) => (i, c)

/-- No op is too long for a machine. -/
def Short (l : List Opx) : Prop := ∀ o ∈ l, o.data.size ≤ 1000000

set_option maxHeartbeats 1000000 in
set_option maxRecDepth 100000 in
theorem owrong_ok (v : Value) (l : List Opx) (e : OV) (w : World) (hv : ORow w v l) (hl : l.length ≤ 1000000) (hs : Short l) (he : OEr e w) :
    Calls Tryd.prog 22 #[v] w fun r w' => r = .returned (.tuple #[.int .i64 (owrongOut (Go.Delta.scanO l 0)).1, errO e (owrongOut (Go.Delta.scanO l 0)).2]) ∧ Below w.heap.size w w' := by
  obtain ⟨a, c, rfl, hv⟩ := hv
  have HV := hide hv
  have HE := hide he
  have HS := hide hs
  have hl' : (l.length : Int) ≤ 1000000 := by omega
  clear he hv hs
  generalize hR : Go.Delta.scanO l 0 = R
  have HR := hide hR
  clear hR
  go_enter Tryd.func22, Tryd.ntmps22
  go_wp2_with fail
  go_loopw [9] (fun t wr => ∃ j : Nat, t = .int .i64 j ∧ j ≤ l.length ∧ Hid (Go.Delta.scanO (l.drop j) j = R) ∧ Hid (Below w.heap.size w wr)) (fun t _ => l.length - (intOf t).toNat)
  case atStart => exact ⟨0, rfl, by omega, HR.out, Below.refl _ _⟩
  case round =>
    clear HR
    obtain ⟨j, rfl, hj, Hsc, Hb⟩ := hrel
    by_cases hlt : j < l.length
    · have hlt' : (j : Int) < l.length := by omega
      obtain ⟨b, o, rfl, hc⟩ := HV.out (by omega)
      obtain ⟨c0, c1, c2, c3⟩ := hc j hlt
      have d0 := (Hb.out.cell (World.block_lt_of_cell? _ _ c0)).trans c0
      have d1 := (Hb.out.cell (World.block_lt_of_cell? _ _ c1)).trans c1
      have d2 := (Hb.out.cell (World.block_lt_of_cell? _ _ c2)).trans c2
      have d3 := (Hb.out.cell (World.block_lt_of_cell? _ _ c3)).trans c3
      have Hs := hide (Go.Delta.scanO_step l j hlt)
      rw [Hsc.out] at Hs
      have HW := hide (fun W (k : Below w.heap.size w W) => wrongOp_ok l[j] e W (HE.out.below k) (HS.out _ (List.getElem_mem hlt)))
      unfold oval at HW
      clear hc c0 c1 c2 c3 Hsc HV HS
      generalize l[j] = op at *
      generalize Go.Delta.opFault op = f at *
      have hba : Below w.heap.size w (wr.alloc (.cells #[.string op.kind, .int .i64 op.at_, .int .i64 op.n, .string op.data] 48)) := Hb.out.alloc Hb.out.size _
      have Hba := hide hba
      clear hba
      by_cases hf : f = 0
      · subst hf
        have hR := Hs.out
        rw [if_pos rfl] at hR
        have HR := hide hR
        clear hR Hs
        rw [show errO e 0 = .nilIface from rfl] at HW
        go_wp2_with fail
        refine (HW.out _ Hba.out).mono ?_
        rintro r w1 ⟨rfl, hb1⟩
        have Hb1 := hide (bthen Hba.out hb1)
        clear hb1
        go_wp2_with fail
        go_roundw
        case rel => exact ⟨j + 1, by go_num, by omega, HR.out.symm, Hb1.out⟩
        case measure => simp [intOf]; omega
      · have hR := Hs.out
        rw [if_neg hf] at hR
        subst hR
        obtain ⟨t, x, ev⟩ := errO_form e f hf
        rw [ev] at HW
        have Hev := hide ev
        clear ev Hs hf
        go_wp2_with fail
        refine (HW.out _ Hba.out).mono ?_
        rintro r w1 ⟨rfl, hb1⟩
        have Hb1 := hide (bthen Hba.out hb1)
        clear hb1
        go_wp2_with fail
        go_ret2
        exact ⟨by unfold owrongOut; simp only; rw [Hev.out]; rfl, Hb1.out⟩
    · have hle : (l.length : Int) ≤ (j : Int) := by omega
      have hR : R = none := by rw [← Hsc.out, List.drop_eq_nil_of_le (by omega), Go.Delta.scanO]
      subst hR
      go_wp2_with fail
      go_ret2
      exact ⟨rfl, Hb.out⟩

/-- What Check answers. -/
def OCheckRes (e : OV) (base : Nat) (f : Nat × Int) (w' : World) (r : Ending) : Prop :=
  if f.1 = 0 then r = .returned .nilIface else
    ∃ p, r = .returned (.iface 53 (.pointer (some ⟨p, 0, none⟩))) ∧ base ≤ p ∧ w'.cell? ⟨p, 0, none⟩ = some (.int .i64 f.2) ∧ w'.cell? ⟨p, 1, none⟩ = some (errO e f.1)

section
variable (a : Option Addr) (n cap : Nat) (at_ : Int) (t : TypeId) (x : Value) (w : World)
set_option maxHeartbeats 1000000 in
set_option maxRecDepth 100000 in
theorem ocheck_nil (h : Calls Tryd.prog 22 #[.slice a n cap] w fun r w' => r = .returned (.tuple #[.int .i64 at_, .nilIface]) ∧ Below w.heap.size w w') :
    Calls Tryd.prog 11 #[.slice a n cap] w fun r w' => r = .returned .nilIface ∧ Below w.heap.size w w' := by
  have HW := hide h
  clear h
  go_enter Tryd.func11, Tryd.ntmps11
  go_wp2_with fail
  refine HW.out.mono ?_
  rintro e1 w1 ⟨rfl, hb1⟩
  have Hb1 := hide hb1
  clear hb1
  go_wp2
  go_ret
  exact ⟨rfl, Hb1.out⟩
set_option maxHeartbeats 1000000 in
set_option maxRecDepth 100000 in
theorem ocheck_at (h : Calls Tryd.prog 22 #[.slice a n cap] w fun r w' => r = .returned (.tuple #[.int .i64 at_, .iface t x]) ∧ Below w.heap.size w w') :
    Calls Tryd.prog 11 #[.slice a n cap] w fun r w' => (∃ p, r = .returned (.iface 53 (.pointer (some ⟨p, 0, none⟩))) ∧ w.heap.size ≤ p ∧ w'.cell? ⟨p, 0, none⟩ = some (.int .i64 at_) ∧ w'.cell? ⟨p, 1, none⟩ = some (.iface t x)) ∧ Below w.heap.size w w' := by
  have HW := hide h
  clear h
  go_enter Tryd.func11, Tryd.ntmps11
  go_wp2_with fail
  refine HW.out.mono ?_
  rintro e1 w1 ⟨rfl, hb1⟩
  have Hb1 := hide hb1
  clear hb1
  go_wp2
  go_ret
  exact ⟨⟨w1.heap.size, rfl, Hb1.out.size, by simp, by simp⟩, Hb1.out.alloc Hb1.out.size _⟩
end

theorem ocheck_ok (v : Value) (l : List Opx) (e : OV) (w : World) (hv : ORow w v l) (hl : l.length ≤ 1000000) (hs : Short l) (he : OEr e w) :
    Calls Tryd.prog 11 #[v] w fun r w' => OCheckRes e w.heap.size (Go.Delta.faultO l) w' r ∧ Below w.heap.size w w' := by
  have HW := owrong_ok v l e w hv hl hs he
  obtain ⟨a, cap, rfl, _⟩ := hv
  unfold Go.Delta.faultO
  cases hx : Go.Delta.scanO l 0 with
  | none =>
    rw [hx] at HW
    refine (ocheck_nil _ _ _ _ _ HW).mono ?_
    rintro r w' ⟨rfl, hb⟩
    exact ⟨by rw [OCheckRes, if_pos rfl], hb⟩
  | some p =>
    obtain ⟨i, c⟩ := p
    have hc := (Go.Delta.scanO_code _ _ _ _ hx).1
    rw [hx] at HW
    obtain ⟨t, x, ev⟩ := errO_form e c (by omega)
    simp only [owrongOut, ev] at HW
    refine (ocheck_at _ _ _ _ _ _ _ HW).mono ?_
    rintro r w' ⟨hr, hb⟩
    refine ⟨?_, hb⟩
    rw [OCheckRes, if_neg (by simp only; omega)]
    simp only [ev]
    exact hr

set_option maxHeartbeats 1000000 in
set_option maxRecDepth 100000 in
theorem cost_ok (v : Value) (l : List Opx) (w : World) (hv : ORow w v l) (hl : l.length ≤ 1000000) (hs : Short l) :
    Calls Tryd.prog 12 #[v] w fun r w' => r = .returned (.int .i64 (Go.Delta.cost l)) ∧ Below w.heap.size w w' := by
  obtain ⟨a, c, rfl, hv⟩ := hv
  have HV := hide hv
  have HS := hide hs
  have hl' : (l.length : Int) ≤ 1000000 := by omega
  clear hv hs
  go_enter Tryd.func12, Tryd.ntmps12
  go_wp2_with fail
  go_loopw [3, 8] (fun t3 t wr => ∃ j n : Nat, t = .int .i64 j ∧ t3 = .int .i64 n ∧ j ≤ l.length ∧ n ≤ j * 1000000 ∧ Hid (n = Go.Delta.cost (l.take j)) ∧ Hid (Below w.heap.size w wr)) (fun _ t _ => l.length - (intOf t).toNat)
  case atStart => exact ⟨0, 0, rfl, rfl, by omega, by omega, by simp [Hid, Go.Delta.cost], Below.refl _ _⟩
  case round =>
    obtain ⟨j, n, rfl, rfl, hj, hn, Hn, Hb⟩ := hrel
    by_cases hlt : j < l.length
    · have hlt' : (j : Int) < l.length := by omega
      obtain ⟨b, o, rfl, hc⟩ := HV.out (by omega)
      obtain ⟨c0, c1, c2, c3⟩ := hc j hlt
      have d0 := (Hb.out.cell (World.block_lt_of_cell? _ _ c0)).trans c0
      have d1 := (Hb.out.cell (World.block_lt_of_cell? _ _ c1)).trans c1
      have d2 := (Hb.out.cell (World.block_lt_of_cell? _ _ c2)).trans c2
      have d3 := (Hb.out.cell (World.block_lt_of_cell? _ _ c3)).trans c3
      have Hsn := hide (List.take_succ_eq_append_getElem hlt)
      have hsz := HS.out _ (List.getElem_mem hlt)
      clear hc c0 c1 c2 c3
      generalize l[j] = op at *
      have hn' : (n : Int) + (op.data.size : Int) ≤ 1000000000000000 := by
        have : j * 1000000 ≤ 1000000 * 1000000 := Nat.mul_le_mul_right _ (by omega)
        omega
      go_wp2_with fail
      go_roundw
      case rel => exact ⟨j + 1, n + op.data.size, by go_num, by go_num, by omega, by omega, by rw [Hsn.out, Go.Delta.cost_snoc, ← Hn.out]; exact rfl, Hb.out.alloc Hb.out.size _⟩
      case measure => simp [intOf]; omega
    · have hle : (l.length : Int) ≤ (j : Int) := by omega
      have hN := Hn.out
      rw [List.take_of_length_le (by omega)] at hN
      have HN := hide hN
      clear hN
      go_wp2_with fail
      go_ret
      exact ⟨by rw [HN.out]; rfl, Hb.out⟩
end Go.Proofs.YtgogjncamjbajacDoor
