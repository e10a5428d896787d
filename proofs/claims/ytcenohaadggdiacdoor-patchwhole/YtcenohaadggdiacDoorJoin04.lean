/-
  Contract of patch.Apply over this dump, at any file, size and ops.
  What the laws PatchParts and PatchWhole ask of Apply, as a contract over whatever the errors' variables hold; the closed fact of stage 6.
  Contract of patch.Apply over this dump, in one form.
  Plain mathematics of sums that roll: 'wa' (all bytes), 'wb' (each byte times its place from the end), 'weak' (both modulo 65536); what is rolled, and what is joined. No program, no walk.
  Contracts of the halves of a sum that rolls (package weak) over this dump: what a sum alone reaches.
-/
import Derived.Test.YtcenohaadggdiacDoorJoin03
import Derived.Deep.QuietTactic
import Derived.Test.YtcenohaadggdiacDoorJoin02
import Derived.Test.YtcenohaadggdiacDoorJoin01
import Derived.Deep.RegionHeld3
namespace Go.Proofs.YtcenohaadggdiacDoor
open Go.RowKit
open Go.Delta (Opx copyOp dataOp kCopy kData noBytes)

/-- An error by its number. -/
def errP (e : PV) : Nat → Value
  | 6 => .iface e.tN e.xN
  | c => errO e.o c
/-- What Apply answers beside the bytes. -/
def ARes (e : PV) (c : Nat) (at_ : Int) (w' : World) (x : Value) : Prop :=
  if c = 0 then x = .nilIface else if at_ = -1 then x = errP e c else ∃ q, x = .iface 66 (.pointer (some ⟨q, 0, none⟩)) ∧ w'.cell? ⟨q, 0, none⟩ = some (.int .i64 at_) ∧ w'.cell? ⟨q, 1, none⟩ = some (errP e c)

theorem add_ok {p : Nat} {w : World} {old : ByteArray} {size : Nat} {a v : Value} {bs : List UInt8} (e : PV) (o : Opx) (h : BdAt p w old size a v bs) (ha : fresh2 p a) (he : PEr e w) (hf : Go.Delta.opFault o = 0) (hb : bs.length ≤ 4000) (h1 : 1 ≤ size) (h2 : size ≤ 64) (ho : old.size ≤ 4000) :
    Calls Tryd.prog 38 #[.pointer (some ⟨p, 0, none⟩), .agg #[.string o.kind, .int .i64 o.at_, .int .i64 o.n, .string o.data]] w fun r w' => AddRes e p old size bs (pieceO old.data.toList size o) r w' ∧ Below p w w' := by
  rcases Go.Delta.op_right hf with ⟨k, n, rfl, hk, hn1, hn2⟩ | ⟨d, rfl, hd1, hd2⟩
  · rw [pieceO_copy, lenL]
    exact add_copy e k n h ha he hk hn1 hn2 hb h1 h2 ho
  · rw [pieceO_data]
    exact add_data e d h ha he hd1 hd2 hb

set_option maxHeartbeats 1000000 in
set_option maxRecDepth 100000 in
theorem apply_bound (old : ByteArray) (size : Int) (oa : Option Addr) (n oc : Nat) (e : PV) (w : World) (he : PEr e w) (h : ¬ (1 ≤ size ∧ size ≤ 64 ∧ old.size ≤ 4000)) :
    Calls Tryd.prog 21 #[.string old, .int .i64 size, .slice oa n oc] w fun r w' => r = .returned (.tuple #[.string ⟨#[]⟩, errP e 2]) ∧ Below w.heap.size w w' := by
  have hB := he.three.bound
  clear he
  by_cases h1 : size < 1
  · have h1' : decide (size < 1) = true := by simp; omega
    clear h
    go_enter Tryd.func21, Tryd.ntmps21
    go_wp2_with fail
    go_quiet (fail)
    go_wp2_with fail
    go_ret2
    exact ⟨rfl, below_drewN w nq⟩
  · have h1' : decide (size < 1) = false := by simp; omega
    by_cases h2 : 64 < size
    · have h2' : decide (64 < size) = true := by simp; omega
      clear h
      go_enter Tryd.func21, Tryd.ntmps21
      go_wp2_with fail
      go_quiet (fail)
      go_wp2_with fail
      go_ret2
      exact ⟨rfl, below_drewN w nq⟩
    · have h2' : decide (64 < size) = false := by simp; omega
      have h3' : decide ((4000 : Int) < old.size) = true := by simp; omega
      clear h
      go_enter Tryd.func21, Tryd.ntmps21
      go_wp2_with fail
      go_quiet (fail)
      go_wp2_with fail
      go_ret2
      exact ⟨rfl, below_drewN w nq⟩

set_option maxHeartbeats 1000000 in
set_option maxRecDepth 100000 in
theorem apply_wrong (old : ByteArray) (size : Int) (v : Value) (ops : List Opx) (e : PV) (w : World) (hv : ORow w v ops) (hl : ops.length ≤ 1000000) (hs : Short ops) (he : PEr e w) (h1 : 1 ≤ size) (h2 : size ≤ 64) (ho : old.size ≤ 4000) (hf : (Go.Delta.faultO ops).1 ≠ 0) :
    Calls Tryd.prog 21 #[.string old, .int .i64 size, v] w fun r w' => (∃ q, r = .returned (.tuple #[.string ⟨#[]⟩, .iface 66 (.pointer (some ⟨q, 0, none⟩))]) ∧ w'.cell? ⟨q, 0, none⟩ = some (.int .i64 (Go.Delta.faultO ops).2) ∧ w'.cell? ⟨q, 1, none⟩ = some (errO e.o (Go.Delta.faultO ops).1)) ∧ Below w.heap.size w w' := by
  have HC := hide (ocheck_ok v ops e.o w hv hl hs he.three)
  unfold OCheckRes at HC
  simp only [if_neg hf] at HC
  obtain ⟨oa, oc, rfl, _⟩ := hv
  have h1' : decide (size < 1) = false := by simp; omega
  have h2' : decide (64 < size) = false := by simp; omega
  have h3' : decide ((4000 : Int) < old.size) = false := by simp; omega
  clear he hs
  generalize errO e.o (Go.Delta.faultO ops).1 = er at *
  generalize (Go.Delta.faultO ops).2 = at_ at *
  clear hf
  go_enter Tryd.func21, Tryd.ntmps21
  go_wp2_with fail
  refine HC.out.mono ?_
  rintro r w1 ⟨⟨q, rfl, _, d0, d1⟩, hb1⟩
  have Hd := hide (And.intro d0 d1)
  have Hb1 := hide hb1
  clear hb1 d0 d1
  go_wp2_with fail
  go_ret2
  exact ⟨⟨q, rfl, Hd.out.1, Hd.out.2⟩, Hb1.out⟩

set_option maxHeartbeats 2000000 in
set_option maxRecDepth 100000 in
theorem apply_main (old : ByteArray) (size : Nat) (v : Value) (ops : List Opx) (e : PV) (w : World) (hv : ORow w v ops) (hl : ops.length ≤ 1000000) (hs : Short ops) (he : PEr e w) (h1 : 1 ≤ size) (h2 : size ≤ 64) (ho : old.size ≤ 4000) (hf : (Go.Delta.faultO ops).1 = 0) :
    Calls Tryd.prog 21 #[.string old, .int .i64 size, v] w fun r w' => (match patchL old.data.toList size ops 0 [] with
      | .ok all => r = .returned (.tuple #[.string (str all), .nilIface])
      | .error (c, i) => ∃ q, r = .returned (.tuple #[.string ⟨#[]⟩, .iface 66 (.pointer (some ⟨q, 0, none⟩))]) ∧ w'.cell? ⟨q, 0, none⟩ = some (.int .i64 (i : Int)) ∧ w'.cell? ⟨q, 1, none⟩ = some (errP e c)) ∧ Below w.heap.size w w' := by
  have HC := hide (ocheck_ok v ops e.o w hv hl hs he.three)
  unfold OCheckRes at HC
  simp only [if_pos hf] at HC
  obtain ⟨oa, oc, rfl, hv⟩ := hv
  have HV := hide hv
  have HF := hide (Go.Delta.faultO_zero hf)
  have HE := hide he
  have HAdd := hide (fun (p : Nat) (W : World) (a v : Value) (bs : List UInt8) (o : Opx) => add_ok (p := p) (w := W) (old := old) (size := size) (a := a) (v := v) (bs := bs) e o)
  have h1' : decide ((size : Int) < 1) = false := by simp; omega
  have h2' : decide ((64 : Int) < size) = false := by simp; omega
  have h3' : decide ((4000 : Int) < old.size) = false := by simp; omega
  have hl' : (ops.length : Int) ≤ 1000000 := by omega
  clear he hs hf hv
  generalize hR : patchL old.data.toList size ops 0 [] = R
  have HR := hide hR
  clear hR
  go_enter Tryd.func21, Tryd.ntmps21
  go_wp2_with fail
  refine HC.out.mono ?_
  rintro r w1 ⟨rfl, hb1⟩
  have Hb1 := hide hb1
  clear hb1 HC
  go_wp2_with fail
  have hfr : BdAt w1.heap.size (w1.alloc (.cells #[.string old, .int .i64 size, .pointer none, .slice none 0 0] 74)) old size (.pointer none) (.slice none 0 0) [] :=
    ⟨heap_alloc_new w1 _, ⟨rfl, Or.inl ⟨rfl, rfl⟩⟩, fun _ => rfl⟩
  have Hfr := hide hfr
  have Hb2 := hide (Hb1.out.alloc Hb1.out.size (.cells #[.string old, .int .i64 size, .pointer none, .slice none 0 0] 74))
  have Hp : Hid (w.heap.size ≤ w1.heap.size) := Hb1.out.size
  clear hfr Hb1
  generalize w1.alloc (.cells #[.string old, .int .i64 size, .pointer none, .slice none 0 0] 74) = w2 at *
  generalize w1.heap.size = p at *
  go_loopw [35] (fun t wr => ∃ (j : Nat) (out : List UInt8) (a v : Value), t = .int .i64 j ∧ j ≤ ops.length ∧ Hid (BdAt p wr old size a v out) ∧ Hid (fresh2 p a) ∧ Hid (out.length ≤ 4000) ∧ Hid (Below w.heap.size w wr) ∧ Hid (patchL old.data.toList size (ops.drop j) j out = R)) (fun t _ => ops.length - (intOf t).toNat)
  case atStart => exact ⟨0, [], _, _, rfl, by omega, Hfr.out, Or.inl rfl, by simp [Hid], Hb2.out, HR.out⟩
  case round =>
    clear HR Hfr Hb2
    obtain ⟨j, out, a, v, rfl, hj, HBd, Hfa, Hout, Hb, HI⟩ := hrel
    by_cases hlt : j < ops.length
    · have hlt' : (j : Int) < ops.length := by omega
      have HI' := hide (patchL_step old.data.toList size ops j out hlt)
      rw [HI.out] at HI'
      obtain ⟨b, o, rfl, hc⟩ := HV.out (by omega)
      obtain ⟨c0, c1, c2, c3⟩ := hc j hlt
      have d0 := (Hb.out.cell (World.block_lt_of_cell? _ _ c0)).trans c0
      have d1 := (Hb.out.cell (World.block_lt_of_cell? _ _ c1)).trans c1
      have d2 := (Hb.out.cell (World.block_lt_of_cell? _ _ c2)).trans c2
      have d3 := (Hb.out.cell (World.block_lt_of_cell? _ _ c3)).trans c3
      have hok := HF.out ops[j] (List.getElem_mem hlt)
      have hba := (Below.refl wr.heap.size wr).alloc (Nat.le_refl _) (.cells #[.string ops[j].kind, .int .i64 ops[j].at_, .int .i64 ops[j].n, .string ops[j].data] 61)
      have Hba := hide (bthen Hb.out hba)
      have HA := hide (HAdd.out p _ a v out ops[j] (HBd.out.kept hba) Hfa.out (HE.out.below (bthen Hb.out hba)) hok Hout.out h1 h2 ho)
      clear hc c0 c1 c2 c3 HI HV hok hba HAdd HBd
      generalize ops[j] = op at *
      generalize pieceO old.data.toList size op = pc at *
      unfold AddRes at HA
      cases pc with
      | none =>
        have hR := HI'.out
        simp only at hR HA
        subst hR
        clear HI'
        go_wp2_with fail
        refine HA.out.mono ?_
        rintro r w3 ⟨rfl, hb3⟩
        have Hb3 := hide (Hba.out.trans (hb3.mono Hp.out))
        clear hb3
        go_wp2_with fail
        go_ret2
        exact ⟨⟨w3.heap.size, rfl, by simp, by simp [errP]⟩, Hb3.out.alloc Hb3.out.size _⟩
      | some l =>
        have hR := HI'.out
        simp only at hR HA
        clear HI'
        by_cases hfull : 4000 < out.length + l.length
        · rw [if_pos hfull] at hR
          simp only [if_pos hfull] at HA
          subst hR
          go_wp2_with fail
          refine HA.out.mono ?_
          rintro r w3 ⟨rfl, hb3⟩
          have Hb3 := hide (Hba.out.trans (hb3.mono Hp.out))
          clear hb3
          go_wp2_with fail
          go_ret2
          exact ⟨⟨w3.heap.size, rfl, by simp, by simp [errP, errO, errV]⟩, Hb3.out.alloc Hb3.out.size _⟩
        · rw [if_neg hfull] at hR
          simp only [if_neg hfull] at HA
          have HR := hide hR
          clear hR
          go_wp2_with fail
          refine HA.out.mono ?_
          rintro r w3 ⟨⟨rfl, a3, v3, h3, hf3⟩, hb3⟩
          have Hb3 := hide (Hba.out.trans (hb3.mono Hp.out))
          have H3 := hide h3
          have Hf3 := hide hf3
          clear hb3 h3 hf3
          go_wp2_with fail
          go_roundw
          case rel => exact ⟨j + 1, out ++ l, a3, v3, by go_num, by omega, H3.out, Hf3.out, by simp only [Hid, List.length_append]; omega, Hb3.out, HR.out.symm⟩
          case measure => simp [intOf]; omega
    · have hle : (ops.length : Int) ≤ (j : Int) := by omega
      have hR : R = .ok out := by have := HI.out; rw [List.drop_eq_nil_of_le (by omega), patchL] at this; exact this.symm
      subst hR
      have HS := hide (bstr_ok HBd.out)
      clear HI HBd HAdd HV
      go_wp2_with fail
      refine HS.out.mono ?_
      rintro r w3 ⟨rfl, hb3⟩
      have Hb3 := hide (Hb.out.trans (hb3.mono (Nat.le_succ_of_le Hp.out)))
      clear hb3 Hb
      go_wp2_with fail
      go_ret2
      exact ⟨rfl, Hb3.out⟩
end Go.Proofs.YtcenohaadggdiacDoor

namespace Go.Proofs.YtcenohaadggdiacDoor
open Go.RowKit
open Go.Delta (Opx copyOp dataOp)

/-- Nil where there is no error. -/
structure NilOr (x : Value) (c : Nat) : Prop where
  none : c = 0 → x = .nilIface
  some : c ≠ 0 → ∃ t y, x = .iface t y
/-- The contracts of Apply and Whole where it is asked no more than whether there is an error: Env: what the errors' variables hold. -/
def ApplyEnv (Env : World → Prop) (old : ByteArray) (size : Int) (ops : List Opx) : Prop :=
  ∀ v W, ORow W v ops → Env W → Calls Tryd.prog 21 #[.string old, .int .i64 size, v] W fun r w' =>
    (∃ x, r = .returned (.tuple #[.string (str (patchOut old.data.toList size ops).1), x]) ∧ NilOr x (patchOut old.data.toList size ops).2.1) ∧ Below W.heap.size W w'
def ApplyAll (Env : World → Prop) : Prop := ∀ old size ops, ops.length ≤ 1000 → (∀ o ∈ ops, o.data.size ≤ 1000000) → ApplyEnv Env old size ops

set_option maxHeartbeats 1000000 in
set_option maxRecDepth 100000 in
/-- The closed fact. -/
theorem patched_ok (Env : World → Prop) (w : World) (hS : Env w) (hEB : ∀ w w', Env w → Below w.heap.size w w' → Env w') (hA : ApplyAll Env) :
    Calls Tryd.prog 19 #[] w fun r w' => r = .returned (.bool true) ∧ Below w.heap.size w w' := by
  have HA := hide (hA ⟨#[97, 98, 99, 100, 101, 102, 103]⟩ 3 [copyOp 1 2, dataOp [120]] (by decide) (by decide))
  have e : patchOut (⟨#[97, 98, 99, 100, 101, 102, 103]⟩ : ByteArray).data.toList 3 [copyOp 1 2, dataOp [120]] = ([100, 101, 102, 103, 120], 0, -1) := by decide
  unfold ApplyEnv at HA
  rw [e] at HA
  simp only [show str [100, 101, 102, 103, 120] = ⟨#[100, 101, 102, 103, 120]⟩ from rfl] at HA
  have HE := hide hS
  have HEB := hide hEB
  clear hS hA e hEB
  go_enter Tryd.func19, Tryd.ntmps19
  go_wp2_with fail
  have hb0 : Below w.heap.size w (w.alloc (.cells #[.string ⟨#[99, 111, 112, 121]⟩, .int .i64 1, .int .i64 2, .string ⟨#[]⟩, .string ⟨#[100, 97, 116, 97]⟩, .int .i64 0, .int .i64 0, .string ⟨#[120]⟩] 61)) := (Below.refl _ _).alloc (Nat.le_refl _) _
  refine (HA.out _ _ ⟨_, _, rfl, fun _ => ⟨w.heap.size, 0, rfl, fun j hj => ?_⟩⟩ (HEB.out _ _ HE.out hb0)).mono ?_
  · match j, hj with
    | 0, _ => exact ⟨by simp [copyOp, Go.Delta.kCopy], by simp [copyOp], by simp [copyOp], by simp [copyOp, Go.Delta.noBytes]⟩
    | 1, _ => exact ⟨by simp [dataOp, Go.Delta.kData], by simp [dataOp], by simp [dataOp], by simp [dataOp, str]⟩
  · rintro r w1 ⟨⟨x, rfl, hx⟩, hb1⟩
    have hn := hx.none rfl
    subst hn
    have Hb1 := hide (bthen hb0 hb1)
    clear hb1 hb0 hx
    go_wp2
    go_ret
    exact ⟨rfl, Hb1.out⟩
end Go.Proofs.YtcenohaadggdiacDoor

namespace Go.Proofs.YtcenohaadggdiacDoor
open Go.RowKit
open Go.Delta (Opx)

theorem errP_form (e : PV) (c : Nat) (h : c ≠ 0) : ∃ t x, errP e c = .iface t x := by
  unfold errP
  split
  · exact ⟨_, _, rfl⟩
  · exact errO_form e.o c h
theorem ARes.nilOr {e : PV} {c : Nat} {at_ : Int} {w : World} {x : Value} (h : ARes e c at_ w x) : NilOr x c := by
  unfold ARes at h
  refine ⟨fun hc => ?_, fun hc => ?_⟩
  · rw [if_pos hc] at h
    exact h
  · rw [if_neg hc] at h
    split at h
    · rw [h]; exact errP_form e c hc
    · obtain ⟨q, rfl, _⟩ := h
      exact ⟨_, _, rfl⟩
theorem ARes.below {e : PV} {c : Nat} {at_ : Int} {w w' : World} {x : Value} (h : ARes e c at_ w x) (hb : Below w.heap.size w w') : ARes e c at_ w' x := by
  unfold ARes at h ⊢
  split
  · rename_i hc
    rw [if_pos hc] at h
    exact h
  · rename_i hc
    rw [if_neg hc] at h
    split
    · rename_i ha
      rw [if_pos ha] at h
      exact h
    · rename_i ha
      rw [if_neg ha] at h
      obtain ⟨q, rfl, d0, d1⟩ := h
      exact ⟨q, rfl, (hb.cell (World.block_lt_of_cell? _ _ d0)).trans d0, (hb.cell (World.block_lt_of_cell? _ _ d1)).trans d1⟩

theorem apply_ok (old : ByteArray) (size : Int) (v : Value) (ops : List Opx) (e : PV) (w : World) (hv : ORow w v ops) (hl : ops.length ≤ 1000000) (hs : Short ops) (he : PEr e w) :
    Calls Tryd.prog 21 #[.string old, .int .i64 size, v] w fun r w' => (∃ x, r = .returned (.tuple #[.string (str (patchOut old.data.toList size ops).1), x]) ∧ ARes e (patchOut old.data.toList size ops).2.1 (patchOut old.data.toList size ops).2.2 w' x) ∧ Below w.heap.size w w' := by
  unfold patchOut
  rw [lenL]
  by_cases h : 1 ≤ size ∧ size ≤ 64 ∧ old.size ≤ 4000
  · rw [if_pos h]
    obtain ⟨h1, h2, h3⟩ := h
    by_cases hf : (Go.Delta.faultO ops).1 = 0
    · rw [if_pos hf]
      obtain ⟨z, rfl⟩ := Int.eq_ofNat_of_zero_le (show 0 ≤ size by omega)
      refine (apply_main old z v ops e w hv hl hs he (by omega) (by omega) h3 hf).mono ?_
      rintro r w' ⟨hr, hb⟩
      refine ⟨?_, hb⟩
      rw [Int.toNat_natCast]
      cases hp : patchL old.data.toList z ops 0 [] with
      | ok all =>
        rw [hp] at hr
        exact ⟨_, hr, by rw [ARes, if_pos rfl]⟩
      | error ci =>
        obtain ⟨c, i⟩ := ci
        rw [hp] at hr
        obtain ⟨q, hr, d0, d1⟩ := hr
        have hc := (patchL_code _ _ _ _ _ _ _ hp).1
        exact ⟨_, hr, by rw [ARes, if_neg (by simp only; omega), if_neg (by simp only; omega)]; exact ⟨q, rfl, d0, d1⟩⟩
    · rw [if_neg hf]
      refine (apply_wrong old size v ops e w hv hl hs he h1 h2 h3 hf).mono ?_
      rintro r w' ⟨⟨q, hr, d0, d1⟩, hb⟩
      have hc := faultO_code ops
      have he6 : errP e (Go.Delta.faultO ops).1 = errO e.o (Go.Delta.faultO ops).1 := by
        rcases hc with h | h | h | h <;> rw [h] <;> rfl
      have hat : (Go.Delta.faultO ops).2 ≠ -1 := by
        unfold Go.Delta.faultO at hf ⊢
        split
        · rename_i hx
          rw [hx] at hf
          exact absurd rfl hf
        · simp only; omega
      exact ⟨⟨_, hr, by rw [ARes, if_neg hf, if_neg hat, he6]; exact ⟨q, rfl, d0, d1⟩⟩, hb⟩
  · rw [if_neg h]
    obtain ⟨a, c, rfl, _⟩ := hv
    refine (apply_bound old size a _ c e w he h).mono ?_
    rintro r w' ⟨hr, hb⟩
    exact ⟨⟨_, hr, by rw [ARes, if_neg (by decide), if_pos rfl]⟩, hb⟩
theorem applyAll (e : PV) : ApplyAll (PEr e) := fun old size ops hl hs v W hv hE => by
  refine (apply_ok old size v ops e W hv (by omega) hs hE).mono ?_
  rintro r w' ⟨⟨x, hr, hx⟩, hb⟩
  exact ⟨⟨x, hr, hx.nilOr⟩, hb⟩
end Go.Proofs.YtcenohaadggdiacDoor

namespace Go.Weak

def wa : List UInt8 → Nat
  | [] => 0
  | b :: r => b.toNat + wa r
def wb : List UInt8 → Nat
  | [] => 0
  | b :: r => (r.length + 1) * b.toNat + wb r
def weak (l : List UInt8) : Nat := wa l % 65536 + 65536 * (wb l % 65536)

theorem wa_append (l m : List UInt8) : wa (l ++ m) = wa l + wa m := by
  induction l with
  | nil => simp [wa]
  | cons b r ih => simp only [List.cons_append, wa, ih]; omega

theorem wb_append (l m : List UInt8) : wb (l ++ m) = wb l + m.length * wa l + wb m := by
  induction l with
  | nil => simp [wa, wb]
  | cons b r ih =>
    simp only [List.cons_append, wa, wb, ih, List.length_append, Nat.mul_add, Nat.add_mul]
    omega

theorem wa_snoc (l : List UInt8) (b : UInt8) : wa (l ++ [b]) = wa l + b.toNat := by rw [wa_append]; simp [wa]
theorem wb_snoc (l : List UInt8) (b : UInt8) : wb (l ++ [b]) = wb l + wa l + b.toNat := by rw [wb_append]; simp [wb]

theorem weak_lt (l : List UInt8) : weak l < 4294967296 := by unfold weak; omega

/-- The halves of a sum. -/
theorem weak_mod (l : List UInt8) : weak l % 65536 = wa l % 65536 := by unfold weak; omega
theorem weak_div (l : List UInt8) : weak l / 65536 = wb l % 65536 := by unfold weak; omega

theorem take_snoc (l : List UInt8) (i : Nat) (h : i < l.length) : l.take (i + 1) = l.take i ++ [l[i]] := List.take_succ_eq_append_getElem h
theorem drop_cons (l : List UInt8) (i : Nat) (h : i < l.length) : l.drop i = l[i] :: l.drop (i + 1) := List.drop_eq_getElem_cons h

/-- The part of n bytes from i on. -/
def part (l : List UInt8) (i n : Nat) : List UInt8 := (l.drop i).take n

theorem part_length (l : List UInt8) (i n : Nat) (h : i + n ≤ l.length) : (part l i n).length = n := by simp [part]; omega

theorem part_slide (l : List UInt8) (i n : Nat) (hn : 0 < n) (h : i + n < l.length) :
    ∃ r, part l i n = l[i] :: r ∧ part l (i + 1) n = r ++ [l[i + n]] ∧ r.length + 1 = n := by
  obtain ⟨m, rfl⟩ : ∃ m, n = m + 1 := ⟨n - 1, by omega⟩
  refine ⟨(l.drop (i + 1)).take m, ?_, ?_, ?_⟩
  · rw [part, drop_cons l i (by omega), List.take_succ_cons]
  · rw [part, List.take_succ_eq_append_getElem (by simp; omega)]
    simp [Nat.add_comm, Nat.add_left_comm]
  · simp; omega

/-- Rolling, on the halves: the first byte goes, one comes behind. -/
theorem roll_a (b c : UInt8) (r : List UInt8) : (wa (b :: r) : Int) - b.toNat + c.toNat = wa (r ++ [c]) := by
  rw [wa_snoc]; simp only [wa]; omega
theorem roll_b (b c : UInt8) (r : List UInt8) : (wb (b :: r) : Int) - ((r.length + 1 : Nat) : Int) * b.toNat + wa (r ++ [c]) = wb (r ++ [c]) := by
  rw [wb_snoc, wa_snoc]; simp only [wb]
  have := Int.natCast_mul (r.length + 1) b.toNat
  omega

end Go.Weak

namespace Go.Proofs.YtcenohaadggdiacDoor
open Go.RowKit

def hv (a b : Int) : Value := .agg #[.int .i64 a, .int .i64 b]

/-- Two numbers at block p. -/
structure HvAt (p : Nat) (w : World) (a b : Int) : Prop where
  c0 : w.cell? ⟨p, 0, none⟩ = some (.int .i64 a)
  c1 : w.cell? ⟨p, 1, none⟩ = some (.int .i64 b)
  f0 : w.frozen? ⟨p, 0, none⟩ = false
  f1 : w.frozen? ⟨p, 1, none⟩ = false
  lt : p < w.heap.size

theorem HvAt.below {p k : Nat} {w w' : World} {a b : Int} (h : HvAt p w a b) (hb : Below k w w') (hp : p < k) : HvAt p w' a b :=
  ⟨(hb.cell (p := ⟨p, 0, none⟩) (by simpa using hp)).trans h.c0, (hb.cell (p := ⟨p, 1, none⟩) (by simpa using hp)).trans h.c1, (hb.frozen (p := ⟨p, 0, none⟩) (by simpa using hp)).trans h.f0, (hb.frozen (p := ⟨p, 1, none⟩) (by simpa using hp)).trans h.f1, Nat.lt_of_lt_of_le h.lt hb.size⟩

theorem HvAt.set {p : Nat} {w : World} {a b : Int} (h : HvAt p w a b) (c d : Int) : HvAt p ((w.setCell ⟨p, 0, none⟩ (.int .i64 c)).setCell ⟨p, 1, none⟩ (.int .i64 d)) c d := by
  obtain ⟨c0, c1, f0, f1, lt⟩ := h
  refine ⟨?_, ?_, by simpa using f0, by simpa using f1, by simpa using lt⟩
  · rw [World.cell?_setCell_other _ _ _ _ (by simp)]; exact World.cell?_setCell_same _ _ _ c0
  · exact World.cell?_setCell_same _ _ _ (by rw [World.cell?_setCell_other _ _ _ _ (by simp)]; exact c1)

theorem HvAt.drew {p : Nat} {w : World} {a b : Int} (h : HvAt p w a b) : HvAt p w.drew a b := ⟨h.c0, h.c1, h.f0, h.f1, h.lt⟩

theorem HvAt.fresh (w : World) (a b : Int) (t : TypeId) : HvAt w.heap.size (w.alloc (.cells #[.int .i64 a, .int .i64 b] t)) a b :=
  ⟨by simp, by simp, by simp, by simp, by simp⟩

theorem wrap_id (x : Int) (h0 : -9223372036854775808 ≤ x) (h1 : x ≤ 9223372036854775807) : wrap64 x = x := by unfold wrap64; omega


theorem mod_eq (n : Int) : (wrap64 (n.tmod 65536 + 65536)).tmod 65536 = n % 65536 := by
  have := Int.tmod_eq_emod (a := n) (b := 65536)
  have h1 : -65536 < n.tmod 65536 := by split at this <;> omega
  have h2 : n.tmod 65536 < 65536 := by split at this <;> omega
  rw [wrap_id _ (by omega) (by omega), Int.tmod_eq_emod_of_nonneg (by omega)]
  split at this <;> omega

theorem hmod_ok (n : Int) (w : World) : Calls Tryd.prog 93 #[.int .i64 n] w fun r w' => r = .returned (.int .i64 (n % 65536)) ∧ w' = w := by
  go_enter Tryd.func93, Tryd.ntmps93
  go_wp2
  go_ret
  exact ⟨ret_int (mod_eq n), rfl⟩

theorem hwhole_ok (a b : Int) (w : World) (a0 : 0 ≤ a) (a1 : a < 65536) (b0 : 0 ≤ b) (b1 : b < 65536) : Calls Tryd.prog 46 #[hv a b] w fun r w' => r = .returned (.int .i64 (a + 65536 * b)) ∧ Below w.heap.size w w' := by
  unfold hv
  go_enter Tryd.func46, Tryd.ntmps46
  go_wp2
  go_ret
  exact ⟨rfl, (Below.refl _ _).alloc (Nat.le_refl _) _⟩

theorem hadd_ok (a b x : Int) (w : World) (a0 : 0 ≤ a) (a1 : a < 65536) (b0 : 0 ≤ b) (b1 : b < 65536) (x0 : 0 ≤ x) (x1 : x < 256) : Calls Tryd.prog 69 #[hv a b, .int .u8 x] w fun r w' => r = .returned (hv ((a + x) % 65536) ((b + (a + x) % 65536) % 65536)) ∧ Below w.heap.size w w' := by
  unfold hv
  go_enter Tryd.func69, Tryd.ntmps69
  go_wp2_with fail
  refine (hmod_ok _ _).mono ?_
  rintro e w1 ⟨rfl, rfl⟩
  go_wp2_with fail
  refine (hmod_ok _ _).mono ?_
  rintro e w1 ⟨rfl, rfl⟩
  go_wp2_with fail
  (try simp only [Exit.inBlock, Exit.then])
  refine bodyPost_ret (v := hv ((a + x) % 65536) ((b + (a + x) % 65536) % 65536)) ?_ rfl ⟨rfl, ((Below.refl _ _).alloc (Nat.le_refl _) _).alloc (by simp) _⟩
  simp only [results, show Tryd.f69.results = #[.cell 4 84] from rfl]
  go_simp
  rfl

theorem lt_mod (n : Int) : n % 65536 < 65536 := Int.emod_lt_of_pos _ (by decide)

theorem ge_mod (n : Int) : 0 ≤ n % 65536 := Int.emod_nonneg _ (by decide)

/-- The halves of a text. -/
def hA (l : List UInt8) : Int := ((Go.Weak.wa l % 65536 : Nat) : Int)

def hB (l : List UInt8) : Int := ((Go.Weak.wb l % 65536 : Nat) : Int)

theorem hA_snoc (l : List UInt8) (b : UInt8) : (hA l + b.toNat) % 65536 = hA (l ++ [b]) := by
  unfold hA; rw [Go.Weak.wa_snoc]; omega

theorem hB_snoc (l : List UInt8) (b : UInt8) : (hB l + hA (l ++ [b])) % 65536 = hB (l ++ [b]) := by
  unfold hA hB; rw [Go.Weak.wa_snoc, Go.Weak.wb_snoc]; omega

theorem hA_nonneg (l : List UInt8) : 0 ≤ hA l := by unfold hA; omega

theorem hA_lt (l : List UInt8) : hA l < 65536 := by unfold hA; omega

theorem hB_nonneg (l : List UInt8) : 0 ≤ hB l := by unfold hB; omega

theorem hB_lt (l : List UInt8) : hB l < 65536 := by unfold hB; omega
end Go.Proofs.YtcenohaadggdiacDoor
