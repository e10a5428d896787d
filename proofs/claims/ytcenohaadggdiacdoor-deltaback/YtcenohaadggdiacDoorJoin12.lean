/-
  The closed fact 'made' over this dump.
  Contract of the document's SameOps over this dump, at ops that are the same; of ownOps.
  Contracts of delta.firstWrong, Check, Cost over this dump, at any list of ops.
  Contracts of the writer's methods over this dump.
  Contracts of Done, NewWriter over this dump.
-/
import Derived.Test.YtcenohaadggdiacDoorMakeOps
import Derived.Test.YtcenohaadggdiacDoorJoin04
import Derived.Deep.QuietTactic
import Derived.BigQuiet
import Derived.Test.YtcenohaadggdiacDoorJoin01
import Derived.Lib.AppendStr
import Derived.Laws.BytesArg
namespace Go.Proofs.YtcenohaadggdiacDoor
open Go.RowKit
open Go.Sign (Blk)
open Go.Delta (Opx gd dataOp copyOp addCopy addByte)

theorem sig_abcdef : sigL (⟨#[97, 98, 99, 100, 101, 102]⟩ : ByteArray).data.toList 3 = [blk [97, 98, 99], blk [100, 101, 102]] := rfl
theorem find_new : findW [blk [97, 98, 99], blk [100, 101, 102]] [120, 97, 98] = -1 := by
  unfold findW findOut
  rw [findFrom, if_neg (by intro h; have := congrArg Blk.weak h; revert this; decide), findFrom, if_neg (by intro h; have := congrArg Blk.weak h; revert this; decide), findFrom]
theorem find_abc : findW [blk [97, 98, 99], blk [100, 101, 102]] [97, 98, 99] = 0 := by
  unfold findW findOut
  rw [findFrom, if_pos rfl]
  rfl
theorem find_def : findW [blk [97, 98, 99], blk [100, 101, 102]] [100, 101, 102] = 1 := by
  unfold findW findOut
  rw [findFrom, if_neg (by intro h; have := congrArg Blk.weak h; revert this; decide), findFrom, if_pos rfl]
  rfl
theorem made_x : dmake [blk [97, 98, 99], blk [100, 101, 102]] 3 (⟨#[120, 97, 98, 99, 100, 101, 102]⟩ : ByteArray).data.toList = [⟨⟨#[100, 97, 116, 97]⟩, 0, 0, ⟨#[120]⟩⟩, ⟨⟨#[99, 111, 112, 121]⟩, 0, 2, ⟨#[]⟩⟩] := by
  unfold dmake
  show gd _ 3 [120, 97, 98, 99, 100, 101, 102] [] = _
  rw [gd, show List.take 3 [(120 : UInt8), 97, 98, 99, 100, 101, 102] = [120, 97, 98] from rfl, find_new, if_neg (by decide)]
  rw [gd, show List.take 3 [(97 : UInt8), 98, 99, 100, 101, 102] = [97, 98, 99] from rfl, find_abc, if_pos (by decide), show List.drop (3 - 1) [(98 : UInt8), 99, 100, 101, 102] = [100, 101, 102] from rfl]
  rw [gd, show List.take 3 [(100 : UInt8), 101, 102] = [100, 101, 102] from rfl, find_def, if_pos (by decide), show List.drop (3 - 1) [(101 : UInt8), 102] = [] from rfl, gd]
  rfl

theorem Tryd.opGuard : Tryd.prog.eqGuardType Tryd.prog.depth 61 = false := by kernel_rfl
theorem eql_data (w : World) : (binOp .eql 61 (.agg #[.string ⟨#[100, 97, 116, 97]⟩, .int .i64 0, .int .i64 0, .string ⟨#[120]⟩]) (.agg #[.string ⟨#[100, 97, 116, 97]⟩, .int .i64 0, .int .i64 0, .string ⟨#[120]⟩])).run Tryd.prog w = .ok (.bool true) w := by kernel_rfl
theorem eql_copy (w : World) : (binOp .eql 61 (.agg #[.string ⟨#[99, 111, 112, 121]⟩, .int .i64 0, .int .i64 2, .string ⟨#[]⟩]) (.agg #[.string ⟨#[99, 111, 112, 121]⟩, .int .i64 0, .int .i64 2, .string ⟨#[]⟩])).run Tryd.prog w = .ok (.bool true) w := by kernel_rfl

set_option maxHeartbeats 1000000 in
set_option maxRecDepth 100000 in
theorem madeFact_ok (e : EV) (w : World) (he : Er2 e w) : Calls Tryd.prog 11 #[] w fun r w' => r = .returned (.bool true) ∧ Below w.heap.size w w' := by
  have HO := hide (fun W => of_ok ⟨#[97, 98, 99, 100, 101, 102]⟩ 3 W (by decide) (by decide) (by decide))
  rw [sig_abcdef] at HO
  have hf : Go.Sign.fault [blk [97, 98, 99], blk [100, 101, 102]] 3 = (0, -1) := by
    rw [← sig_abcdef]
    exact fault_sig _ 3 (by decide) (by decide) (by decide)
  have HM := hide (fun v W (h : RowIn W v [blk [97, 98, 99], blk [100, 101, 102]]) (k : Er2 e W) => make_right v _ 3 ⟨#[120, 97, 98, 99, 100, 101, 102]⟩ e W h (by decide) (by decide) (by rw [show ((3 : Nat) : Int) = 3 from rfl, hf]) k)
  rw [made_x] at HM
  have hE := eql_data
  have hE2 := eql_copy
  have hG := Tryd.opGuard
  have HE := hide he
  clear he hf
  go_enter Tryd.func11, Tryd.ntmps11
  go_wp2_with fail
  refine (HO.out _).mono ?_
  rintro r w1 ⟨v, rfl, hown, hb1⟩
  have hr := RowIn.of_own hown
  have Hr := hide hr
  have Hb1 := hide hb1
  obtain ⟨a, c, rfl, hc⟩ := hr
  clear hown hb1 HO hc
  go_wp2_with fail
  refine (HM.out _ _ Hr.out (HE.out.below Hb1.out)).mono ?_
  rintro r w2 ⟨hm, hb2⟩
  obtain ⟨u, rfl, hown⟩ := hm
  have hr2 := ORow.of_own hown
  have Hb2 := hide (bthen Hb1.out hb2)
  obtain ⟨a2, c2, rfl, hc2⟩ := hr2
  obtain ⟨g, o, rfl, hd⟩ := hc2 (by decide)
  obtain ⟨p0, p1, p2, p3⟩ := hd 0 (by decide)
  obtain ⟨q0, q1, q2, q3⟩ := hd 1 (by decide)
  simp only [List.getElem_cons_zero, List.getElem_cons_succ, Nat.zero_mul, Nat.one_mul, Nat.add_zero] at p0 p1 p2 p3 q0 q1 q2 q3
  simp only [List.length_cons, List.length_nil]
  clear hown hb2 hc2 hd HM
  go_wp2_with fail
  go_ret
  exact ⟨rfl, Hb2.out⟩
end Go.Proofs.YtcenohaadggdiacDoor

namespace Go.Proofs.YtcenohaadggdiacDoor
open Go.RowKit
open Go.Delta (Opx)

set_option maxHeartbeats 2000000 in
set_option maxRecDepth 100000 in
theorem sameOps_ok (v u : Value) (l : List Opx) (w : World) (hv : ORow w v l) (hu : ORow w u l) (hl : l.length ≤ 1000000) :
    Calls Tryd.prog 17 #[v, u] w fun r w' => r = .returned (.bool true) ∧ Below w.heap.size w w' := by
  obtain ⟨a, c, rfl, hv⟩ := hv
  obtain ⟨a', c', rfl, hu⟩ := hu
  have HV := hide hv
  have HU := hide hu
  have hl' : (l.length : Int) ≤ 1000000 := by omega
  clear hv hu
  go_enter Tryd.func17, Tryd.ntmps17
  go_wp2_with fail
  go_loopw [5] (fun t wr => ∃ j : Nat, t = .int .i64 j ∧ j ≤ l.length ∧ Hid (Below w.heap.size w wr)) (fun t _ => l.length - (intOf t).toNat)
  case atStart => exact ⟨0, rfl, by omega, Below.refl _ _⟩
  case round =>
    obtain ⟨j, rfl, hj, Hb⟩ := hrel
    by_cases hlt : j < l.length
    · have hlt' : (j : Int) < l.length := by omega
      obtain ⟨b, o, rfl, hc⟩ := HV.out (by omega)
      obtain ⟨b', o', rfl, hc'⟩ := HU.out (by omega)
      obtain ⟨c0, c1, c2, c3⟩ := hc j hlt
      obtain ⟨e0, e1, e2, e3⟩ := hc' j hlt
      have d0 := (Hb.out.cell (World.block_lt_of_cell? _ _ c0)).trans c0
      have d1 := (Hb.out.cell (World.block_lt_of_cell? _ _ c1)).trans c1
      have d2 := (Hb.out.cell (World.block_lt_of_cell? _ _ c2)).trans c2
      have d3 := (Hb.out.cell (World.block_lt_of_cell? _ _ c3)).trans c3
      have g0 := (Hb.out.cell (World.block_lt_of_cell? _ _ e0)).trans e0
      have g1 := (Hb.out.cell (World.block_lt_of_cell? _ _ e1)).trans e1
      have g2 := (Hb.out.cell (World.block_lt_of_cell? _ _ e2)).trans e2
      have g3 := (Hb.out.cell (World.block_lt_of_cell? _ _ e3)).trans e3
      clear hc hc' c0 c1 c2 c3 e0 e1 e2 e3
      generalize l[j] = op at *
      go_wp2_with fail
      go_quiet (fail)
      go_wp2
      go_roundw
      case rel => exact ⟨j + 1, by go_num, by omega, Hb.out.trans ⟨rfl, rfl, rfl, Nat.le_refl _, fun _ _ => rfl⟩⟩
      case measure => simp [intOf]; omega
    · have hle : (l.length : Int) ≤ (j : Int) := by omega
      go_wp2_with fail
      go_ret
      exact ⟨rfl, Hb.out⟩
end Go.Proofs.YtcenohaadggdiacDoor

namespace Go.Proofs.YtcenohaadggdiacDoor
open Go.RowKit
open Go.Delta (Opx)

/-- What the scan comes to, as firstWrong tells it. -/
def owrongOut : Option (Nat × Nat) → Int × Nat
  | none => (0, 0)
  | some (i, c) => (i, c)

/-- No op is too long for a machine. -/
def Short (l : List Opx) : Prop := ∀ o ∈ l, o.data.size ≤ 1000000

set_option maxHeartbeats 1000000 in
set_option maxRecDepth 100000 in
theorem owrong_ok (v : Value) (l : List Opx) (e : OV) (w : World) (hv : ORow w v l) (hl : l.length ≤ 1000000) (hs : Short l) (he : OEr3 e w) :
    Calls Tryd.prog 35 #[v] w fun r w' => r = .returned (.tuple #[.int .i64 (owrongOut (Go.Delta.scanO l 0)).1, errO e (owrongOut (Go.Delta.scanO l 0)).2]) ∧ Below w.heap.size w w' := by
  obtain ⟨a, c, rfl, hv⟩ := hv
  have HV := hide hv
  have HE := hide he
  have HS := hide hs
  have hl' : (l.length : Int) ≤ 1000000 := by omega
  clear he hv hs
  generalize hR : Go.Delta.scanO l 0 = R
  have HR := hide hR
  clear hR
  go_enter Tryd.func35, Tryd.ntmps35
  go_wp2_with fail
  go_loopw [9] (fun t wr => ∃ j : Nat, t = .int .i64 j ∧ j ≤ l.length ∧ Hid (Go.Delta.scanO (l.drop j) j = R) ∧ Hid (Below w.heap.size w wr)) (fun t _ => l.length - (intOf t).toNat)
  case atStart => exact ⟨0, rfl, by omega, HR.out, Below.refl _ _⟩
  case round =>
    clear HR
    obtain ⟨j, rfl, hj, Hsc, Hb⟩ := hrel
    by_cases hlt : j < l.length
    · have hlt' : (j : Int) < l.length := by omega
      obtain ⟨b, o, rfl, hc⟩ := HV.out (by omega)
      obtain ⟨c0, c1, c2, c3⟩ := hc j hlt
      have d0 := (Hb.out.cell (World.block_lt_of_cell? _ _ c0)).trans c0
      have d1 := (Hb.out.cell (World.block_lt_of_cell? _ _ c1)).trans c1
      have d2 := (Hb.out.cell (World.block_lt_of_cell? _ _ c2)).trans c2
      have d3 := (Hb.out.cell (World.block_lt_of_cell? _ _ c3)).trans c3
      have Hs := hide (Go.Delta.scanO_step l j hlt)
      rw [Hsc.out] at Hs
      have HW := hide (fun W (k : Below w.heap.size w W) => wrongOp_ok l[j] e W (HE.out.below k) (HS.out _ (List.getElem_mem hlt)))
      unfold oval at HW
      clear hc c0 c1 c2 c3 Hsc HV HS
      generalize l[j] = op at *
      generalize Go.Delta.opFault op = f at *
      have hba : Below w.heap.size w (wr.alloc (.cells #[.string op.kind, .int .i64 op.at_, .int .i64 op.n, .string op.data] 61)) := Hb.out.alloc Hb.out.size _
      have Hba := hide hba
      clear hba
      by_cases hf : f = 0
      · subst hf
        have hR := Hs.out
        rw [if_pos rfl] at hR
        have HR := hide hR
        clear hR Hs
        rw [show errO e 0 = .nilIface from rfl] at HW
        go_wp2_with fail
        refine (HW.out _ Hba.out).mono ?_
        rintro r w1 ⟨rfl, hb1⟩
        have Hb1 := hide (bthen Hba.out hb1)
        clear hb1
        go_wp2_with fail
        go_roundw
        case rel => exact ⟨j + 1, by go_num, by omega, HR.out.symm, Hb1.out⟩
        case measure => simp [intOf]; omega
      · have hR := Hs.out
        rw [if_neg hf] at hR
        subst hR
        obtain ⟨t, x, ev⟩ := errO_form e f hf
        rw [ev] at HW
        have Hev := hide ev
        clear ev Hs hf
        go_wp2_with fail
        refine (HW.out _ Hba.out).mono ?_
        rintro r w1 ⟨rfl, hb1⟩
        have Hb1 := hide (bthen Hba.out hb1)
        clear hb1
        go_wp2_with fail
        go_ret2
        exact ⟨by unfold owrongOut; simp only; rw [Hev.out]; rfl, Hb1.out⟩
    · have hle : (l.length : Int) ≤ (j : Int) := by omega
      have hR : R = none := by rw [← Hsc.out, List.drop_eq_nil_of_le (by omega), Go.Delta.scanO]
      subst hR
      go_wp2_with fail
      go_ret2
      exact ⟨rfl, Hb.out⟩

theorem faultO_code (l : List Opx) : (Go.Delta.faultO l).1 = 0 ∨ (Go.Delta.faultO l).1 = 2 ∨ (Go.Delta.faultO l).1 = 3 ∨ (Go.Delta.faultO l).1 = 4 := by
  unfold Go.Delta.faultO
  split
  · exact Or.inl rfl
  · rename_i i c h
    exact Or.inr (Go.Delta.scanO_code _ _ _ _ h).1
/-- What Check answers. -/
def OCheckRes (e : OV) (base : Nat) (f : Nat × Int) (w' : World) (r : Ending) : Prop :=
  if f.1 = 0 then r = .returned .nilIface else
    ∃ p, r = .returned (.iface 66 (.pointer (some ⟨p, 0, none⟩))) ∧ base ≤ p ∧ w'.cell? ⟨p, 0, none⟩ = some (.int .i64 f.2) ∧ w'.cell? ⟨p, 1, none⟩ = some (errO e f.1)

section
variable (a : Option Addr) (n cap : Nat) (at_ : Int) (t : TypeId) (x : Value) (w : World)
set_option maxHeartbeats 1000000 in
set_option maxRecDepth 100000 in
theorem ocheck_nil (h : Calls Tryd.prog 35 #[.slice a n cap] w fun r w' => r = .returned (.tuple #[.int .i64 at_, .nilIface]) ∧ Below w.heap.size w w') :
    Calls Tryd.prog 13 #[.slice a n cap] w fun r w' => r = .returned .nilIface ∧ Below w.heap.size w w' := by
  have HW := hide h
  clear h
  go_enter Tryd.func13, Tryd.ntmps13
  go_wp2_with fail
  refine HW.out.mono ?_
  rintro e1 w1 ⟨rfl, hb1⟩
  have Hb1 := hide hb1
  clear hb1
  go_wp2
  go_ret
  exact ⟨rfl, Hb1.out⟩
set_option maxHeartbeats 1000000 in
set_option maxRecDepth 100000 in
theorem ocheck_at (h : Calls Tryd.prog 35 #[.slice a n cap] w fun r w' => r = .returned (.tuple #[.int .i64 at_, .iface t x]) ∧ Below w.heap.size w w') :
    Calls Tryd.prog 13 #[.slice a n cap] w fun r w' => (∃ p, r = .returned (.iface 66 (.pointer (some ⟨p, 0, none⟩))) ∧ w.heap.size ≤ p ∧ w'.cell? ⟨p, 0, none⟩ = some (.int .i64 at_) ∧ w'.cell? ⟨p, 1, none⟩ = some (.iface t x)) ∧ Below w.heap.size w w' := by
  have HW := hide h
  clear h
  go_enter Tryd.func13, Tryd.ntmps13
  go_wp2_with fail
  refine HW.out.mono ?_
  rintro e1 w1 ⟨rfl, hb1⟩
  have Hb1 := hide hb1
  clear hb1
  go_wp2
  go_ret
  exact ⟨⟨w1.heap.size, rfl, Hb1.out.size, by simp, by simp⟩, Hb1.out.alloc Hb1.out.size _⟩
end

theorem ocheck_ok (v : Value) (l : List Opx) (e : OV) (w : World) (hv : ORow w v l) (hl : l.length ≤ 1000000) (hs : Short l) (he : OEr3 e w) :
    Calls Tryd.prog 13 #[v] w fun r w' => OCheckRes e w.heap.size (Go.Delta.faultO l) w' r ∧ Below w.heap.size w w' := by
  have HW := owrong_ok v l e w hv hl hs he
  obtain ⟨a, cap, rfl, _⟩ := hv
  unfold Go.Delta.faultO
  cases hx : Go.Delta.scanO l 0 with
  | none =>
    rw [hx] at HW
    refine (ocheck_nil _ _ _ _ _ HW).mono ?_
    rintro r w' ⟨rfl, hb⟩
    exact ⟨by rw [OCheckRes, if_pos rfl], hb⟩
  | some p =>
    obtain ⟨i, c⟩ := p
    have hc := (Go.Delta.scanO_code _ _ _ _ hx).1
    rw [hx] at HW
    obtain ⟨t, x, ev⟩ := errO_form e c (by omega)
    simp only [owrongOut, ev] at HW
    refine (ocheck_at _ _ _ _ _ _ _ HW).mono ?_
    rintro r w' ⟨hr, hb⟩
    refine ⟨?_, hb⟩
    rw [OCheckRes, if_neg (by simp only; omega)]
    simp only [ev]
    exact hr

set_option maxHeartbeats 1000000 in
set_option maxRecDepth 100000 in
theorem cost_ok (v : Value) (l : List Opx) (w : World) (hv : ORow w v l) (hl : l.length ≤ 1000000) (hs : Short l) :
    Calls Tryd.prog 14 #[v] w fun r w' => r = .returned (.int .i64 (Go.Delta.cost l)) ∧ Below w.heap.size w w' := by
  obtain ⟨a, c, rfl, hv⟩ := hv
  have HV := hide hv
  have HS := hide hs
  have hl' : (l.length : Int) ≤ 1000000 := by omega
  clear hv hs
  go_enter Tryd.func14, Tryd.ntmps14
  go_wp2_with fail
  go_loopw [3, 8] (fun t3 t wr => ∃ j n : Nat, t = .int .i64 j ∧ t3 = .int .i64 n ∧ j ≤ l.length ∧ n ≤ j * 1000000 ∧ Hid (n = Go.Delta.cost (l.take j)) ∧ Hid (Below w.heap.size w wr)) (fun _ t _ => l.length - (intOf t).toNat)
  case atStart => exact ⟨0, 0, rfl, rfl, by omega, by omega, by simp [Hid, Go.Delta.cost], Below.refl _ _⟩
  case round =>
    obtain ⟨j, n, rfl, rfl, hj, hn, Hn, Hb⟩ := hrel
    by_cases hlt : j < l.length
    · have hlt' : (j : Int) < l.length := by omega
      obtain ⟨b, o, rfl, hc⟩ := HV.out (by omega)
      obtain ⟨c0, c1, c2, c3⟩ := hc j hlt
      have d0 := (Hb.out.cell (World.block_lt_of_cell? _ _ c0)).trans c0
      have d1 := (Hb.out.cell (World.block_lt_of_cell? _ _ c1)).trans c1
      have d2 := (Hb.out.cell (World.block_lt_of_cell? _ _ c2)).trans c2
      have d3 := (Hb.out.cell (World.block_lt_of_cell? _ _ c3)).trans c3
      have Hsn := hide (List.take_succ_eq_append_getElem hlt)
      have hsz := HS.out _ (List.getElem_mem hlt)
      clear hc c0 c1 c2 c3
      generalize l[j] = op at *
      have hn' : (n : Int) + (op.data.size : Int) ≤ 1000000000000000 := by
        have : j * 1000000 ≤ 1000000 * 1000000 := Nat.mul_le_mul_right _ (by omega)
        omega
      go_wp2_with fail
      go_roundw
      case rel => exact ⟨j + 1, n + op.data.size, by go_num, by go_num, by omega, by omega, by rw [Hsn.out, Go.Delta.cost_snoc, ← Hn.out]; exact rfl, Hb.out.alloc Hb.out.size _⟩
      case measure => simp [intOf]; omega
    · have hle : (l.length : Int) ≤ (j : Int) := by omega
      have hN := Hn.out
      rw [List.take_of_length_le (by omega)] at hN
      have HN := hide hN
      clear hN
      go_wp2_with fail
      go_ret
      exact ⟨by rw [HN.out]; rfl, Hb.out⟩
end Go.Proofs.YtcenohaadggdiacDoor

namespace Go.Proofs.YtcenohaadggdiacDoor
open Go.RowKit

theorem Tryd.info5 : (Tryd.prog.info? 5).map (fun i => (i.zero, i.size, i.bytes)) = some (some (.int .u8 0), 1, 1) := by kernel_rfl

def cellOf (b : UInt8) : Value := .int .u8 b.toNat

/-- The writer at block p, with no error, holds the bytes bs. -/
structure WrAt (p : Nat) (w : World) (bs : List UInt8) (v : Value) : Prop where
  c0 : w.cell? ⟨p, 0, none⟩ = some v
  c1 : w.cell? ⟨p, 1, none⟩ = some .nilIface
  f0 : w.frozen? ⟨p, 0, none⟩ = false
  f1 : w.frozen? ⟨p, 1, none⟩ = false
  lt : p < w.heap.size
  own : w.ownsRow (p + 1) 5 1 v bs.length (bs.map cellOf)

/-- A byte more: the new slice stored into the writer. -/
theorem WrAt.more {p : Nat} {wr w2 : World} {cur : List UInt8} {v v2 : Value} {x : Int} (h : WrAt p wr cur v) (b : UInt8) (hx : x = b.toNat) (hb2 : Below (p + 1) wr w2)
    (hown : w2.ownsRow (p + 1) 5 1 v2 (cur.length + 1) (cur.map cellOf ++ [.int .u8 x])) : WrAt p (w2.setCell ⟨p, 0, none⟩ v2) (cur ++ [b]) v2 := by
  have k0 := (hb2.cell (p := ⟨p, 0, none⟩) (by simp)).trans h.c0
  have k1 := (hb2.cell (p := ⟨p, 1, none⟩) (by simp)).trans h.c1
  have e0 := (hb2.frozen (p := ⟨p, 0, none⟩) (by simp)).trans h.f0
  have e1 := (hb2.frozen (p := ⟨p, 1, none⟩) (by simp)).trans h.f1
  have hz := hb2.size
  have hl := h.lt
  refine ⟨World.cell?_setCell_same _ _ _ k0, by rw [World.cell?_setCell_other _ _ _ _ (by simp)]; exact k1, by simpa using e0, by simpa using e1, by simp; omega, ?_⟩
  subst hx
  have := ownsRow_setCell_below hown (a := ⟨p, 0, none⟩) (by simp) v2
  simpa [cellOf] using this

/-- Every block but p that holds no bytes stays as it was. -/
def KeptT (p : Nat) (w w' : World) : Prop := ∀ g c t f, g ≠ p → t ≠ 5 → w.heap[g]? = some (.cells c t f) → w'.heap[g]? = some (.cells c t f)
theorem KeptT.refl (p : Nat) (w : World) : KeptT p w w := fun _ _ _ _ _ _ h => h
theorem KeptT.trans {p : Nat} {a b c : World} (h : KeptT p a b) (k : KeptT p b c) : KeptT p a c := fun g x t f h1 h2 h3 => k g x t f h1 h2 (h g x t f h1 h2 h3)
theorem KeptT.step {p n : Nat} {wr w2 : World} {v v2 : Value} {xs : List Value} {o : Obj} (own : wr.ownsRow (p + 1) 5 1 v n xs) (hg : (wr.alloc o).grownBy w2 v.ownBlock) : KeptT p wr (w2.setCell ⟨p, 0, none⟩ v2) := by
  intro g c t f hp ht h
  have hlt : g < wr.heap.size := (Array.getElem?_eq_some_iff.1 h).1
  have hne : some g ≠ v.ownBlock := by
    intro e
    rcases own.2 with ⟨rfl, _⟩ | ⟨g', cap, cur, rfl, _, hh, _⟩
    · cases e
    · simp only [Value.ownBlock, Option.some.injEq] at e
      subst e
      rw [hh] at h
      cases h
      exact ht rfl
  rw [Below.heap_setCell _ _ _ _ hp, hg.block g (by simp; omega) hne, Below.heap_alloc _ _ _ hlt]
  exact h

set_option maxHeartbeats 400000 in
set_option maxRecDepth 100000 in
theorem num_ok4 (p n : Nat) (bs : List UInt8) (v : Value) (w : World) (hn : n ≤ 1099511627776) (hb : bs.length ≤ 1000000) (h : WrAt p w bs v) :
    Calls Tryd.prog 54 #[.pointer (some ⟨p, 0, none⟩), .int .i64 n] w fun e w' => e = .returned (.tuple #[]) ∧ (∃ v', WrAt p w' (bs ++ Go.Num.enc n) v') ∧ Below p w w' ∧ KeptT p w w' := by
  obtain ⟨i0, hi, hz0, hz1, hz2⟩ := info_parts Tryd.info5
  have HW : Hid (WrAt p w bs v) := h
  obtain ⟨c0, c1, f0, f1, lt, own⟩ := h
  have hn0 : 0 ≤ (n : Int) := by omega
  have hn1 : (n : Int) ≤ 1099511627776 := by omega
  have hd0 : decide ((n : Int) < 0) = false := by simp
  have hd1 : decide ((1099511627776 : Int) < n) = false := by simp; omega
  have hlen := Go.Num.enc_length_le n
  go_enter Tryd.func54, Tryd.ntmps54
  go_wp2_with fail
  go_loopw [1] (fun t wr => ∃ (k m : Nat) (cur : List UInt8) (v' : Value), t = .int .i64 m ∧ m ≤ 1099511627776 ∧ m < 128 ^ (k + 1) ∧ Hid (cur ++ Go.Num.encF k m = bs ++ Go.Num.enc n) ∧ WrAt p wr cur v' ∧ Below p w wr ∧ Hid (KeptT p w wr)) (fun t _ => (intOf t).toNat)
  case atStart => exact ⟨5, n, bs, v, rfl, hn, by omega, rfl, HW.out, Below.refl _ _, KeptT.refl _ _⟩
  case round =>
    obtain ⟨k, m, cur, v', rfl, hm, hmk, He, hat, hbel, Hkt⟩ := hrel
    have HW' : Hid (WrAt p wr cur v') := hat
    have Hbel : Hid (Below p w wr) := hbel
    have hcur : cur.length ≤ 1000006 := by
      have := congrArg List.length He.out
      simp at this; omega
    clear hbel HW c0 c1 f0 f1 lt own
    obtain ⟨c0, c1, f0, f1, lt, own⟩ := hat
    by_cases hlt : 128 ≤ m
    · have hlt' : (128 : Int) ≤ m := by omega
      have hm1 : (m : Int) ≤ 1099511627776 := by omega
      go_wp2_with (at_builtin; refine wpList_append_own _ rfl (.tmp 24) (.tmp 29) 70 rfl (p + 1) 5 i0 (.int .u8 0) 1 1 Tryd.underlying70 hi hz0 hz1 hz2 rfl (by decide) v' cur.length (cur.map cellOf) rfl ?own ⟨wr.heap.size, 0, none⟩ 1 1 [.int .u8 ((m : Int) % 128 + 128)] rfl rfl ?c1 ?c2 ?b1 ?b2 ?b3 ?next)
      case own => exact own.alloc _
      case c1 => intro j u hj; match j, hj with | 0, hj => simp at hj; subst hj; simp [Addr.add]
      case c2 => intro u hu; simp at hu; subst hu; rfl
      case b1 => unfold maxLen; omega
      case b2 => omega
      case b3 => simp; omega
      case next =>
        intro v2 w2 hown hgrow _
        have hb2 : Below (p + 1) wr w2 := ((Below.refl _ _).alloc (by omega) _).grown hgrow (by simp; omega) (fun k hk => (own.lt k hk).1)
        have hfin := HW'.out.more (UInt8.ofNat (m % 128 + 128)) (by rw [Go.Num.toNat_ofNat _ (by omega)]; simp) hb2 hown
        have k0 := (hb2.cell (p := ⟨p, 0, none⟩) (by simp)).trans c0
        have e0 := (hb2.frozen (p := ⟨p, 0, none⟩) (by simp)).trans f0
        have Hk2 := hide (Hkt.out.trans (KeptT.step (v2 := v2) own hgrow))
        obtain ⟨g, c', rfl⟩ := own_form hown
        have Hfin := hide hfin
        have Hb2 := hide hb2
        clear hfin hb2 hown hgrow
        go_wp2
        go_roundw
        case rel =>
          match k with
          | 0 => simp at hmk; omega
          | k + 1 =>
            refine ⟨k, m / 128, _, _, by go_num, by omega, ?_, ?_, Hfin.out, (Hbel.out.trans (Hb2.out.mono (by omega))).setCell (by simp) _, Hk2.out⟩
            · rw [Nat.div_lt_iff_lt_mul (by omega)]
              rw [Nat.pow_succ] at hmk; exact hmk
            · have := He.out
              rw [Go.Num.encF_big _ _ hlt] at this
              simpa [Hid] using this
        case measure => simp [intOf]; omega
    · have hm1 : (m : Int) < 128 := by omega
      go_wp2_with (at_builtin; refine wpList_append_own _ rfl (.tmp 39) (.tmp 42) 70 rfl (p + 1) 5 i0 (.int .u8 0) 1 1 Tryd.underlying70 hi hz0 hz1 hz2 rfl (by decide) v' cur.length (cur.map cellOf) rfl ?own ⟨wr.heap.size, 0, none⟩ 1 1 [.int .u8 (m : Int)] rfl rfl ?c1 ?c2 ?b1 ?b2 ?b3 ?next)
      case own => exact own.alloc _
      case c1 => intro j u hj; match j, hj with | 0, hj => simp at hj; subst hj; simp [Addr.add]
      case c2 => intro u hu; simp at hu; subst hu; rfl
      case b1 => unfold maxLen; omega
      case b2 => omega
      case b3 => simp; omega
      case next =>
        intro v2 w2 hown hgrow _
        have hb2 : Below (p + 1) wr w2 := ((Below.refl _ _).alloc (by omega) _).grown hgrow (by simp; omega) (fun k hk => (own.lt k hk).1)
        have hfin := HW'.out.more (UInt8.ofNat m) (by rw [Go.Num.toNat_ofNat _ (by omega)]) hb2 hown
        have k0 := (hb2.cell (p := ⟨p, 0, none⟩) (by simp)).trans c0
        have e0 := (hb2.frozen (p := ⟨p, 0, none⟩) (by simp)).trans f0
        have Hk2 := hide (Hkt.out.trans (KeptT.step (v2 := v2) own hgrow))
        obtain ⟨g, c', rfl⟩ := own_form hown
        have Hfin := hide hfin
        have Hb2 := hide hb2
        clear hfin hb2 hown hgrow
        go_wp2
        go_end0
        have he := He.out
        rw [Go.Num.encF_small _ _ (by omega)] at he
        rw [← he]
        exact ⟨rfl, ⟨_, Hfin.out⟩, (Hbel.out.trans (Hb2.out.mono (by omega))).setCell (by simp) _, Hk2.out⟩

theorem num_ok (p n : Nat) (bs : List UInt8) (v : Value) (w : World) (hn : n ≤ 1099511627776) (hb : bs.length ≤ 1000000) (h : WrAt p w bs v) :
    Calls Tryd.prog 54 #[.pointer (some ⟨p, 0, none⟩), .int .i64 n] w fun e w' => e = .returned (.tuple #[]) ∧ (∃ v', WrAt p w' (bs ++ Go.Num.enc n) v') ∧ Below p w w' :=
  (num_ok4 p n bs v w hn hb h).mono fun _ _ ⟨h1, h2, h3, _⟩ => ⟨h1, h2, h3⟩
end Go.Proofs.YtcenohaadggdiacDoor

namespace Go.Proofs.YtcenohaadggdiacDoor
open Go.RowKit

theorem strOfNums_str (bs : List UInt8) : strOfNums (bs.map fun b => (b.toNat : Int)) = str bs := by
  have : (bs.map fun b => (b.toNat : Int)).map (fun n => UInt8.ofNat n.toNat) = bs := by
    rw [List.map_map]
    conv => rhs; rw [← List.map_id bs]
    apply List.map_congr_left
    intro b _
    simp
  unfold strOfNums
  rw [this]
  rfl

theorem WrAt.conv {p : Nat} {w : World} {bs : List UInt8} {v : Value} (h : WrAt p w bs v) : (convert 70 9 v).run Tryd.prog w = .ok (.string (str bs)) w := by
  rcases h.own.2 with ⟨rfl, hl⟩ | ⟨g, cap, cur, rfl, _, hg, hn, _, hs, ht⟩
  · have hb : bs = [] := List.length_eq_zero_iff.1 hl
    subst hb
    exact run_convert_bytes_nil w 70 5 Tryd.underlying70 Tryd.underlying5 0 0 9 Tryd.underlying9
  · have := run_convert_bytes_arg (P := Tryd.prog) w 70 5 Tryd.underlying70 Tryd.underlying5 g 0 bs.length cap (bs.map fun b => (b.toNat : Int)) (by simp) (fun i hi => by
      have := h.own.cells (g := g) rfl i (.int .u8 (bs[i]).toNat) (by simp [cellOf, hi])
      rw [Addr.add_lit] at this
      simpa [List.getD, hi] using this) 9 Tryd.underlying9
    rw [this, strOfNums_str]

set_option maxHeartbeats 400000 in
theorem done_ok (p : Nat) (bs : List UInt8) (v : Value) (w : World) (h : WrAt p w bs v) :
    Calls Tryd.prog 56 #[.pointer (some ⟨p, 0, none⟩)] w fun e w' => e = .returned (.tuple #[.string (str bs), .nilIface]) ∧ w' = w := by
  have hcv := h.conv
  obtain ⟨c0, c1, f0, f1, lt, own⟩ := h
  clear own
  go_enter Tryd.func56, Tryd.ntmps56
  go_wp2
  go_ret2
  exact ⟨rfl, rfl⟩

theorem new_ok (w : World) : Calls Tryd.prog 53 #[] w fun e w' => e = .returned (.pointer (some ⟨w.heap.size, 0, none⟩)) ∧ w.alloc (.cells #[.slice none 0 0, .nilIface] 124) = w' := by
  go_enter Tryd.func53, Tryd.ntmps53
  go_wp2
  go_ret
  exact ⟨rfl, rfl⟩

theorem WrAt.fresh (w : World) : WrAt w.heap.size (w.alloc (.cells #[.slice none 0 0, .nilIface] 124)) [] (.slice none 0 0) :=
  ⟨by simp, by simp, by simp, by simp, by simp, by simpa using World.ownsRow_nil _ _ _ _⟩
end Go.Proofs.YtcenohaadggdiacDoor
