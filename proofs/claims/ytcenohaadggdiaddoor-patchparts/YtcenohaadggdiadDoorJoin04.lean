/-
  Contract of patch.Apply over this dump, at any file, size and ops.
  What the laws PatchParts and PatchWhole ask of Apply, as a contract over whatever the errors' variables hold; the closed fact of stage 6.
  Contract of patch.Apply over this dump, in one form.
  An argument of type []api.Op reads as ops.
  An argument of type []api.Op is no longer than its room; nil has none.
-/
import Derived.Test.YtcenohaadggdiadDoorJoin03
import Derived.Deep.QuietTactic
import Derived.Test.YtcenohaadggdiadDoorJoin02
import Derived.Deep.Slices
import Derived.Deep.Strs
namespace Go.Proofs.YtcenohaadggdiadDoor
open Go.RowKit
open Go.Delta (Opx copyOp dataOp kCopy kData noBytes)

/-- An error by its number. -/
def errP (e : PV) : Nat → Value
  | 6 => .iface e.tN e.xN
  | c => errO e.o c
/-- What Apply answers beside the bytes. -/
def ARes (e : PV) (c : Nat) (at_ : Int) (w' : World) (x : Value) : Prop :=
  if c = 0 then x = .nilIface else if at_ = -1 then x = errP e c else ∃ q, x = .iface 42 (.pointer (some ⟨q, 0, none⟩)) ∧ w'.cell? ⟨q, 0, none⟩ = some (.int .i64 at_) ∧ w'.cell? ⟨q, 1, none⟩ = some (errP e c)

theorem add_ok {p : Nat} {w : World} {old : ByteArray} {size : Nat} {a v : Value} {bs : List UInt8} (e : PV) (o : Opx) (h : BdAt p w old size a v bs) (ha : fresh2 p a) (he : PEr e w) (hf : Go.Delta.opFault o = 0) (hb : bs.length ≤ 4000) (h1 : 1 ≤ size) (h2 : size ≤ 64) (ho : old.size ≤ 4000) :
    Calls Tryd.prog 10 #[.pointer (some ⟨p, 0, none⟩), .agg #[.string o.kind, .int .i64 o.at_, .int .i64 o.n, .string o.data]] w fun r w' => AddRes e p old size bs (pieceO old.data.toList size o) r w' ∧ Below p w w' := by
  rcases Go.Delta.op_right hf with ⟨k, n, rfl, hk, hn1, hn2⟩ | ⟨d, rfl, hd1, hd2⟩
  · rw [pieceO_copy, lenL]
    exact add_copy e k n h ha he hk hn1 hn2 hb h1 h2 ho
  · rw [pieceO_data]
    exact add_data e d h ha he hd1 hd2 hb

set_option maxHeartbeats 1000000 in
set_option maxRecDepth 100000 in
theorem apply_bound (old : ByteArray) (size : Int) (oa : Option Addr) (n oc : Nat) (e : PV) (w : World) (he : PEr e w) (h : ¬ (1 ≤ size ∧ size ≤ 64 ∧ old.size ≤ 4000)) :
    Calls Tryd.prog 6 #[.string old, .int .i64 size, .slice oa n oc] w fun r w' => r = .returned (.tuple #[.string ⟨#[]⟩, errP e 2]) ∧ Below w.heap.size w w' := by
  have hB := he.three.bound
  clear he
  by_cases h1 : size < 1
  · have h1' : decide (size < 1) = true := by simp; omega
    clear h
    go_enter Tryd.func6, Tryd.ntmps6
    go_wp2_with fail
    go_quiet (fail)
    go_wp2_with fail
    go_ret2
    exact ⟨rfl, below_drewN w nq⟩
  · have h1' : decide (size < 1) = false := by simp; omega
    by_cases h2 : 64 < size
    · have h2' : decide (64 < size) = true := by simp; omega
      clear h
      go_enter Tryd.func6, Tryd.ntmps6
      go_wp2_with fail
      go_quiet (fail)
      go_wp2_with fail
      go_ret2
      exact ⟨rfl, below_drewN w nq⟩
    · have h2' : decide (64 < size) = false := by simp; omega
      have h3' : decide ((4000 : Int) < old.size) = true := by simp; omega
      clear h
      go_enter Tryd.func6, Tryd.ntmps6
      go_wp2_with fail
      go_quiet (fail)
      go_wp2_with fail
      go_ret2
      exact ⟨rfl, below_drewN w nq⟩

set_option maxHeartbeats 1000000 in
set_option maxRecDepth 100000 in
theorem apply_wrong (old : ByteArray) (size : Int) (v : Value) (ops : List Opx) (e : PV) (w : World) (hv : ORow w v ops) (hl : ops.length ≤ 1000000) (hs : Short ops) (he : PEr e w) (h1 : 1 ≤ size) (h2 : size ≤ 64) (ho : old.size ≤ 4000) (hf : (Go.Delta.faultO ops).1 ≠ 0) :
    Calls Tryd.prog 6 #[.string old, .int .i64 size, v] w fun r w' => (∃ q, r = .returned (.tuple #[.string ⟨#[]⟩, .iface 42 (.pointer (some ⟨q, 0, none⟩))]) ∧ w'.cell? ⟨q, 0, none⟩ = some (.int .i64 (Go.Delta.faultO ops).2) ∧ w'.cell? ⟨q, 1, none⟩ = some (errO e.o (Go.Delta.faultO ops).1)) ∧ Below w.heap.size w w' := by
  have HC := hide (ocheck_ok v ops e.o w hv hl hs he.three)
  unfold OCheckRes at HC
  simp only [if_neg hf] at HC
  obtain ⟨oa, oc, rfl, _⟩ := hv
  have h1' : decide (size < 1) = false := by simp; omega
  have h2' : decide (64 < size) = false := by simp; omega
  have h3' : decide ((4000 : Int) < old.size) = false := by simp; omega
  clear he hs
  generalize errO e.o (Go.Delta.faultO ops).1 = er at *
  generalize (Go.Delta.faultO ops).2 = at_ at *
  clear hf
  go_enter Tryd.func6, Tryd.ntmps6
  go_wp2_with fail
  refine HC.out.mono ?_
  rintro r w1 ⟨⟨q, rfl, _, d0, d1⟩, hb1⟩
  have Hd := hide (And.intro d0 d1)
  have Hb1 := hide hb1
  clear hb1 d0 d1
  go_wp2_with fail
  go_ret2
  exact ⟨⟨q, rfl, Hd.out.1, Hd.out.2⟩, Hb1.out⟩

set_option maxHeartbeats 2000000 in
set_option maxRecDepth 100000 in
theorem apply_main (old : ByteArray) (size : Nat) (v : Value) (ops : List Opx) (e : PV) (w : World) (hv : ORow w v ops) (hl : ops.length ≤ 1000000) (hs : Short ops) (he : PEr e w) (h1 : 1 ≤ size) (h2 : size ≤ 64) (ho : old.size ≤ 4000) (hf : (Go.Delta.faultO ops).1 = 0) :
    Calls Tryd.prog 6 #[.string old, .int .i64 size, v] w fun r w' => (match patchL old.data.toList size ops 0 [] with
      | .ok all => r = .returned (.tuple #[.string (str all), .nilIface])
      | .error (c, i) => ∃ q, r = .returned (.tuple #[.string ⟨#[]⟩, .iface 42 (.pointer (some ⟨q, 0, none⟩))]) ∧ w'.cell? ⟨q, 0, none⟩ = some (.int .i64 (i : Int)) ∧ w'.cell? ⟨q, 1, none⟩ = some (errP e c)) ∧ Below w.heap.size w w' := by
  have HC := hide (ocheck_ok v ops e.o w hv hl hs he.three)
  unfold OCheckRes at HC
  simp only [if_pos hf] at HC
  obtain ⟨oa, oc, rfl, hv⟩ := hv
  have HV := hide hv
  have HF := hide (Go.Delta.faultO_zero hf)
  have HE := hide he
  have HAdd := hide (fun (p : Nat) (W : World) (a v : Value) (bs : List UInt8) (o : Opx) => add_ok (p := p) (w := W) (old := old) (size := size) (a := a) (v := v) (bs := bs) e o)
  have h1' : decide ((size : Int) < 1) = false := by simp; omega
  have h2' : decide ((64 : Int) < size) = false := by simp; omega
  have h3' : decide ((4000 : Int) < old.size) = false := by simp; omega
  have hl' : (ops.length : Int) ≤ 1000000 := by omega
  clear he hs hf hv
  generalize hR : patchL old.data.toList size ops 0 [] = R
  have HR := hide hR
  clear hR
  go_enter Tryd.func6, Tryd.ntmps6
  go_wp2_with fail
  refine HC.out.mono ?_
  rintro r w1 ⟨rfl, hb1⟩
  have Hb1 := hide hb1
  clear hb1 HC
  go_wp2_with fail
  have hfr : BdAt w1.heap.size (w1.alloc (.cells #[.string old, .int .i64 size, .pointer none, .slice none 0 0] 40)) old size (.pointer none) (.slice none 0 0) [] :=
    ⟨heap_alloc_new w1 _, ⟨rfl, Or.inl ⟨rfl, rfl⟩⟩, fun _ => rfl⟩
  have Hfr := hide hfr
  have Hb2 := hide (Hb1.out.alloc Hb1.out.size (.cells #[.string old, .int .i64 size, .pointer none, .slice none 0 0] 40))
  have Hp : Hid (w.heap.size ≤ w1.heap.size) := Hb1.out.size
  clear hfr Hb1
  generalize w1.alloc (.cells #[.string old, .int .i64 size, .pointer none, .slice none 0 0] 40) = w2 at *
  generalize w1.heap.size = p at *
  go_loopw [35] (fun t wr => ∃ (j : Nat) (out : List UInt8) (a v : Value), t = .int .i64 j ∧ j ≤ ops.length ∧ Hid (BdAt p wr old size a v out) ∧ Hid (fresh2 p a) ∧ Hid (out.length ≤ 4000) ∧ Hid (Below w.heap.size w wr) ∧ Hid (patchL old.data.toList size (ops.drop j) j out = R)) (fun t _ => ops.length - (intOf t).toNat)
  case atStart => exact ⟨0, [], _, _, rfl, by omega, Hfr.out, Or.inl rfl, by simp [Hid], Hb2.out, HR.out⟩
  case round =>
    clear HR Hfr Hb2
    obtain ⟨j, out, a, v, rfl, hj, HBd, Hfa, Hout, Hb, HI⟩ := hrel
    by_cases hlt : j < ops.length
    · have hlt' : (j : Int) < ops.length := by omega
      have HI' := hide (patchL_step old.data.toList size ops j out hlt)
      rw [HI.out] at HI'
      obtain ⟨b, o, rfl, hc⟩ := HV.out (by omega)
      obtain ⟨c0, c1, c2, c3⟩ := hc j hlt
      have d0 := (Hb.out.cell (World.block_lt_of_cell? _ _ c0)).trans c0
      have d1 := (Hb.out.cell (World.block_lt_of_cell? _ _ c1)).trans c1
      have d2 := (Hb.out.cell (World.block_lt_of_cell? _ _ c2)).trans c2
      have d3 := (Hb.out.cell (World.block_lt_of_cell? _ _ c3)).trans c3
      have hok := HF.out ops[j] (List.getElem_mem hlt)
      have hba := (Below.refl wr.heap.size wr).alloc (Nat.le_refl _) (.cells #[.string ops[j].kind, .int .i64 ops[j].at_, .int .i64 ops[j].n, .string ops[j].data] 33)
      have Hba := hide (bthen Hb.out hba)
      have HA := hide (HAdd.out p _ a v out ops[j] (HBd.out.kept hba) Hfa.out (HE.out.below (bthen Hb.out hba)) hok Hout.out h1 h2 ho)
      clear hc c0 c1 c2 c3 HI HV hok hba HAdd HBd
      generalize ops[j] = op at *
      generalize pieceO old.data.toList size op = pc at *
      unfold AddRes at HA
      cases pc with
      | none =>
        have hR := HI'.out
        simp only at hR HA
        subst hR
        clear HI'
        go_wp2_with fail
        refine HA.out.mono ?_
        rintro r w3 ⟨rfl, hb3⟩
        have Hb3 := hide (Hba.out.trans (hb3.mono Hp.out))
        clear hb3
        go_wp2_with fail
        go_ret2
        exact ⟨⟨w3.heap.size, rfl, by simp, by simp [errP]⟩, Hb3.out.alloc Hb3.out.size _⟩
      | some l =>
        have hR := HI'.out
        simp only at hR HA
        clear HI'
        by_cases hfull : 4000 < out.length + l.length
        · rw [if_pos hfull] at hR
          simp only [if_pos hfull] at HA
          subst hR
          go_wp2_with fail
          refine HA.out.mono ?_
          rintro r w3 ⟨rfl, hb3⟩
          have Hb3 := hide (Hba.out.trans (hb3.mono Hp.out))
          clear hb3
          go_wp2_with fail
          go_ret2
          exact ⟨⟨w3.heap.size, rfl, by simp, by simp [errP, errO, errV]⟩, Hb3.out.alloc Hb3.out.size _⟩
        · rw [if_neg hfull] at hR
          simp only [if_neg hfull] at HA
          have HR := hide hR
          clear hR
          go_wp2_with fail
          refine HA.out.mono ?_
          rintro r w3 ⟨⟨rfl, a3, v3, h3, hf3⟩, hb3⟩
          have Hb3 := hide (Hba.out.trans (hb3.mono Hp.out))
          have H3 := hide h3
          have Hf3 := hide hf3
          clear hb3 h3 hf3
          go_wp2_with fail
          go_roundw
          case rel => exact ⟨j + 1, out ++ l, a3, v3, by go_num, by omega, H3.out, Hf3.out, by simp only [Hid, List.length_append]; omega, Hb3.out, HR.out.symm⟩
          case measure => simp [intOf]; omega
    · have hle : (ops.length : Int) ≤ (j : Int) := by omega
      have hR : R = .ok out := by have := HI.out; rw [List.drop_eq_nil_of_le (by omega), patchL] at this; exact this.symm
      subst hR
      have HS := hide (bstr_ok HBd.out)
      clear HI HBd HAdd HV
      go_wp2_with fail
      refine HS.out.mono ?_
      rintro r w3 ⟨rfl, hb3⟩
      have Hb3 := hide (Hb.out.trans (hb3.mono (Nat.le_succ_of_le Hp.out)))
      clear hb3 Hb
      go_wp2_with fail
      go_ret2
      exact ⟨rfl, Hb3.out⟩
end Go.Proofs.YtcenohaadggdiadDoor

namespace Go.Proofs.YtcenohaadggdiadDoor
open Go.RowKit
open Go.Delta (Opx copyOp dataOp)

/-- Nil where there is no error. -/
structure NilOr (x : Value) (c : Nat) : Prop where
  none : c = 0 → x = .nilIface
  some : c ≠ 0 → ∃ t y, x = .iface t y
/-- The contracts of Apply and Whole where it is asked no more than whether there is an error: Env: what the errors' variables hold. -/
def ApplyEnv (Env : World → Prop) (old : ByteArray) (size : Int) (ops : List Opx) : Prop :=
  ∀ v W, ORow W v ops → Env W → Calls Tryd.prog 6 #[.string old, .int .i64 size, v] W fun r w' =>
    (∃ x, r = .returned (.tuple #[.string (str (patchOut old.data.toList size ops).1), x]) ∧ NilOr x (patchOut old.data.toList size ops).2.1) ∧ Below W.heap.size W w'
def ApplyAll (Env : World → Prop) : Prop := ∀ old size ops, ops.length ≤ 1000 → (∀ o ∈ ops, o.data.size ≤ 1000000) → ApplyEnv Env old size ops

set_option maxHeartbeats 1000000 in
set_option maxRecDepth 100000 in
/-- The closed fact. -/
theorem patched_ok (Env : World → Prop) (w : World) (hS : Env w) (hEB : ∀ w w', Env w → Below w.heap.size w w' → Env w') (hA : ApplyAll Env) :
    Calls Tryd.prog 4 #[] w fun r w' => r = .returned (.bool true) ∧ Below w.heap.size w w' := by
  have HA := hide (hA ⟨#[97, 98, 99, 100, 101, 102, 103]⟩ 3 [copyOp 1 2, dataOp [120]] (by decide) (by decide))
  have e : patchOut (⟨#[97, 98, 99, 100, 101, 102, 103]⟩ : ByteArray).data.toList 3 [copyOp 1 2, dataOp [120]] = ([100, 101, 102, 103, 120], 0, -1) := by decide
  unfold ApplyEnv at HA
  rw [e] at HA
  simp only [show str [100, 101, 102, 103, 120] = ⟨#[100, 101, 102, 103, 120]⟩ from rfl] at HA
  have HE := hide hS
  have HEB := hide hEB
  clear hS hA e hEB
  go_enter Tryd.func4, Tryd.ntmps4
  go_wp2_with fail
  have hb0 : Below w.heap.size w (w.alloc (.cells #[.string ⟨#[99, 111, 112, 121]⟩, .int .i64 1, .int .i64 2, .string ⟨#[]⟩, .string ⟨#[100, 97, 116, 97]⟩, .int .i64 0, .int .i64 0, .string ⟨#[120]⟩] 33)) := (Below.refl _ _).alloc (Nat.le_refl _) _
  refine (HA.out _ _ ⟨_, _, rfl, fun _ => ⟨w.heap.size, 0, rfl, fun j hj => ?_⟩⟩ (HEB.out _ _ HE.out hb0)).mono ?_
  · match j, hj with
    | 0, _ => exact ⟨by simp [copyOp, Go.Delta.kCopy], by simp [copyOp], by simp [copyOp], by simp [copyOp, Go.Delta.noBytes]⟩
    | 1, _ => exact ⟨by simp [dataOp, Go.Delta.kData], by simp [dataOp], by simp [dataOp], by simp [dataOp, str]⟩
  · rintro r w1 ⟨⟨x, rfl, hx⟩, hb1⟩
    have hn := hx.none rfl
    subst hn
    have Hb1 := hide (bthen hb0 hb1)
    clear hb1 hb0 hx
    go_wp2
    go_ret
    exact ⟨rfl, Hb1.out⟩
end Go.Proofs.YtcenohaadggdiadDoor

namespace Go.Proofs.YtcenohaadggdiadDoor
open Go.RowKit
open Go.Delta (Opx)

theorem errP_form (e : PV) (c : Nat) (h : c ≠ 0) : ∃ t x, errP e c = .iface t x := by
  unfold errP
  split
  · exact ⟨_, _, rfl⟩
  · exact errO_form e.o c h
theorem ARes.nilOr {e : PV} {c : Nat} {at_ : Int} {w : World} {x : Value} (h : ARes e c at_ w x) : NilOr x c := by
  unfold ARes at h
  refine ⟨fun hc => ?_, fun hc => ?_⟩
  · rw [if_pos hc] at h
    exact h
  · rw [if_neg hc] at h
    split at h
    · rw [h]; exact errP_form e c hc
    · obtain ⟨q, rfl, _⟩ := h
      exact ⟨_, _, rfl⟩
theorem ARes.below {e : PV} {c : Nat} {at_ : Int} {w w' : World} {x : Value} (h : ARes e c at_ w x) (hb : Below w.heap.size w w') : ARes e c at_ w' x := by
  unfold ARes at h ⊢
  split
  · rename_i hc
    rw [if_pos hc] at h
    exact h
  · rename_i hc
    rw [if_neg hc] at h
    split
    · rename_i ha
      rw [if_pos ha] at h
      exact h
    · rename_i ha
      rw [if_neg ha] at h
      obtain ⟨q, rfl, d0, d1⟩ := h
      exact ⟨q, rfl, (hb.cell (World.block_lt_of_cell? _ _ d0)).trans d0, (hb.cell (World.block_lt_of_cell? _ _ d1)).trans d1⟩

theorem apply_ok (old : ByteArray) (size : Int) (v : Value) (ops : List Opx) (e : PV) (w : World) (hv : ORow w v ops) (hl : ops.length ≤ 1000000) (hs : Short ops) (he : PEr e w) :
    Calls Tryd.prog 6 #[.string old, .int .i64 size, v] w fun r w' => (∃ x, r = .returned (.tuple #[.string (str (patchOut old.data.toList size ops).1), x]) ∧ ARes e (patchOut old.data.toList size ops).2.1 (patchOut old.data.toList size ops).2.2 w' x) ∧ Below w.heap.size w w' := by
  unfold patchOut
  rw [lenL]
  by_cases h : 1 ≤ size ∧ size ≤ 64 ∧ old.size ≤ 4000
  · rw [if_pos h]
    obtain ⟨h1, h2, h3⟩ := h
    by_cases hf : (Go.Delta.faultO ops).1 = 0
    · rw [if_pos hf]
      obtain ⟨z, rfl⟩ := Int.eq_ofNat_of_zero_le (show 0 ≤ size by omega)
      refine (apply_main old z v ops e w hv hl hs he (by omega) (by omega) h3 hf).mono ?_
      rintro r w' ⟨hr, hb⟩
      refine ⟨?_, hb⟩
      rw [Int.toNat_natCast]
      cases hp : patchL old.data.toList z ops 0 [] with
      | ok all =>
        rw [hp] at hr
        exact ⟨_, hr, by rw [ARes, if_pos rfl]⟩
      | error ci =>
        obtain ⟨c, i⟩ := ci
        rw [hp] at hr
        obtain ⟨q, hr, d0, d1⟩ := hr
        have hc := (patchL_code _ _ _ _ _ _ _ hp).1
        exact ⟨_, hr, by rw [ARes, if_neg (by simp only; omega), if_neg (by simp only; omega)]; exact ⟨q, rfl, d0, d1⟩⟩
    · rw [if_neg hf]
      refine (apply_wrong old size v ops e w hv hl hs he h1 h2 h3 hf).mono ?_
      rintro r w' ⟨⟨q, hr, d0, d1⟩, hb⟩
      have hc := faultO_code ops
      have he6 : errP e (Go.Delta.faultO ops).1 = errO e.o (Go.Delta.faultO ops).1 := by
        rcases hc with h | h | h | h <;> rw [h] <;> rfl
      have hat : (Go.Delta.faultO ops).2 ≠ -1 := by
        unfold Go.Delta.faultO at hf ⊢
        split
        · rename_i hx
          rw [hx] at hf
          exact absurd rfl hf
        · simp only; omega
      exact ⟨⟨_, hr, by rw [ARes, if_neg hf, if_neg hat, he6]; exact ⟨q, rfl, d0, d1⟩⟩, hb⟩
  · rw [if_neg h]
    obtain ⟨a, c, rfl, _⟩ := hv
    refine (apply_bound old size a _ c e w he h).mono ?_
    rintro r w' ⟨hr, hb⟩
    exact ⟨⟨_, hr, by rw [ARes, if_neg (by decide), if_pos rfl]⟩, hb⟩
theorem applyAll (e : PV) : ApplyAll (PEr e) := fun old size ops hl hs v W hv hE => by
  refine (apply_ok old size v ops e W hv (by omega) hs hE).mono ?_
  rintro r w' ⟨⟨x, hr, hx⟩, hb⟩
  exact ⟨⟨x, hr, hx.nilOr⟩, hb⟩
end Go.Proofs.YtcenohaadggdiadDoor

namespace Go.Proofs.YtcenohaadggdiadDoor
open Go.ChangeShapes Go.WideShapes Go.ChangeAt Go.RowKit
open Go.Delta (Opx)

theorem Tryd.ocells33 : Tryd.prog.cellsOf 33 = 4 := by kernel_rfl
theorem Tryd.ocells3 : Tryd.prog.cellsOf 3 = 1 := by kernel_rfl
theorem Tryd.ocells9 : Tryd.prog.cellsOf 9 = 1 := by kernel_rfl
theorem list4 {α : Type} {l : List α} (h : l.length = 4) : ∃ a b c d, l = [a, b, c, d] := by
  match l, h with
  | [a, b, c, d], _ => exact ⟨a, b, c, d, rfl⟩

/-- A struct of four fields. -/
theorem trod_struct4 {H : Type} {enc : TypeId × Value → H} {P : Program} {w : World} {base : Nat} {spare : Nat → Bool} {held : Bool} {t : TypeId} {f0 f1 f2 f3 : Field} {fuel : Nat} {cs : List Value} {x : DataW H × List MemPlace} (ht : P.underlying t = some (.struct #[f0, f1, f2, f3])) (h : DataW.trod enc P w base spare held fuel t cs = some x) :
    ∃ y0 y1 y2 y3 n, DataW.trod enc P w base spare held n f0.type ((cs.drop f0.offset).take (P.cellsOf f0.type)) = some y0 ∧ DataW.trod enc P w base spare held n f1.type ((cs.drop f1.offset).take (P.cellsOf f1.type)) = some y1 ∧
      DataW.trod enc P w base spare held n f2.type ((cs.drop f2.offset).take (P.cellsOf f2.type)) = some y2 ∧ DataW.trod enc P w base spare held n f3.type ((cs.drop f3.offset).take (P.cellsOf f3.type)) = some y3 := by
  obtain ⟨xs, n, _, rfl, hl, hlen, hf⟩ := DataW.trod_struct ht h
  match xs, hlen with
  | [y0, y1, y2, y3], _ => exact ⟨y0, y1, y2, y3, n, by simpa using hf 0 f0 rfl, by simpa using hf 1 f1 rfl, by simpa using hf 2 f2 rfl, by simpa using hf 3 f3 rfl⟩

set_option maxRecDepth 100000 in
/-- One element. -/
theorem op_of_trod {H : Type} {enc : TypeId × Value → H} {W : World} {base : Nat} {spare : Nat → Bool} {held : Bool} {n : Nat} {ad : Addr} {cs : List Value} {x : DataW H × List MemPlace}
    (h1 : W.cells? base ad 4 = some cs) (h2 : DataW.trod enc Tryd.prog W base spare held n 33 cs = some x) :
    ∃ o : Opx, W.cell? (ad.add 0) = some (.string o.kind) ∧ W.cell? (ad.add 1) = some (.int .i64 o.at_) ∧ W.cell? (ad.add 2) = some (.int .i64 o.n) ∧ W.cell? (ad.add 3) = some (.string o.data) := by
  obtain ⟨_, hlen, hcell⟩ := World.cells?_some h1
  obtain ⟨v0, v1, v2, v3, rfl⟩ := list4 hlen
  obtain ⟨y0, y1, y2, y3, k, g0, g1, g2, g3⟩ := trod_struct4 Tryd.underlying33 h2
  simp only [Tryd.ocells3, Tryd.ocells9] at g0 g1 g2 g3
  obtain ⟨z0, e0, _, _⟩ := DataW.trod_string Tryd.underlying9 g0
  obtain ⟨z1, e1, _, _⟩ := DataW.trod_int Tryd.underlying3 g1
  obtain ⟨z2, e2, _, _⟩ := DataW.trod_int Tryd.underlying3 g2
  obtain ⟨z3, e3, _, _⟩ := DataW.trod_string Tryd.underlying9 g3
  simp at e0 e1 e2 e3
  subst e0 e1 e2 e3
  have c0 := hcell 0 (by omega)
  have c1 := hcell 1 (by omega)
  have c2 := hcell 2 (by omega)
  have c3 := hcell 3 (by omega)
  exact ⟨⟨z0, z1, z2, z3⟩, by simpa using c0, by simpa using c1, by simpa using c2, by simpa using c3⟩

theorem orow_of_trod {H : Type} {enc : TypeId × Value → H} {W : World} {base : Nat} {spare : Nat → Bool} {held : Bool} {fuel : Nat} {a : Option Addr} {len cap : Nat} {x : DataW H × List MemPlace}
    (h : DataW.trod enc Tryd.prog W base spare held fuel 22 [.slice a len cap] = some x) : ∃ l : List Opx, l.length = len ∧ ORow W (.slice a l.length cap) l := by
  rcases Go.Deep.open_slice Tryd.underlying22 h with ⟨hcs, _⟩ | ⟨ad, len', cap', m, n, D, Pl, hcs, hb, hl, hm, hmm, rfl, hx⟩
  · simp at hcs
    obtain ⟨rfl, rfl, rfl⟩ := hcs
    exact ⟨[], rfl, ⟨none, 0, rfl, fun h => by simp at h⟩⟩
  · simp at hcs
    obtain ⟨rfl, rfl, rfl⟩ := hcs
    have hlm : len ≤ m := by rw [hmm]; split <;> omega
    have each : ∀ i, i < len → ∃ o : Opx, W.cell? ((ad.add (i * 4)).add 0) = some (.string o.kind) ∧ W.cell? ((ad.add (i * 4)).add 1) = some (.int .i64 o.at_) ∧ W.cell? ((ad.add (i * 4)).add 2) = some (.int .i64 o.n) ∧ W.cell? ((ad.add (i * 4)).add 3) = some (.string o.data) := by
      intro i hi
      obtain ⟨cs', h1, h2⟩ := hx i (by omega)
      rw [Tryd.ocells33] at h1
      exact op_of_trod h1 h2
    obtain ⟨f, hf⟩ := Go.Deep.choose_lt each
    have hll : ((List.range len).map f).length = len := by simp
    refine ⟨(List.range len).map f, hll, ⟨some ad, cap, rfl, fun hp => ?_⟩⟩
    obtain ⟨bl, off, spot⟩ := ad
    have h0 := (hf 0 (by omega)).1
    have hspot : spot = none := by simpa [Addr.add] using World.cell?_spot h0
    subst hspot
    refine ⟨bl, off, rfl, fun j hj => ?_⟩
    have hj' : j < len := by omega
    obtain ⟨k0, k1, k2, k3⟩ := hf j hj'
    have eg : ((List.range len).map f)[j] = f j := by simp
    rw [eg]
    rw [Go.Deep.add_add, add_plain] at k0 k1 k2 k3
    exact ⟨by simpa using k0, by simpa [Nat.add_assoc] using k1, by simpa [Nat.add_assoc] using k2, by simpa [Nat.add_assoc] using k3⟩
end Go.Proofs.YtcenohaadggdiadDoor

namespace Go.Proofs.YtcenohaadggdiadDoor
open Go.ChangeShapes Go.WideShapes Go.ChangeAt Go.RowKit

theorem u32b {a : Int} (h : (Lit.int .u32 a).wf = true) : 0 ≤ a ∧ a < 4294967296 := by
  simp only [Lit.wf, Bool.and_eq_true, decide_eq_true_eq] at h
  have h1 : IntKind.u32.min = 0 := rfl
  have h2 : IntKind.u32.max = 4294967295 := rfl
  omega
theorem ocap_of_trod {H : Type} {enc : TypeId × Value → H} {W : World} {base : Nat} {spare : Nat → Bool} {held : Bool} {fuel : Nat} {a : Option Addr} {len cap : Nat} {x : DataW H × List MemPlace}
    (h : DataW.trod enc Tryd.prog W base spare held fuel 22 [.slice a len cap] = some x) : len ≤ cap ∧ (a = none → cap = 0) := by
  rcases Go.Deep.open_slice Tryd.underlying22 h with ⟨hcs, _⟩ | ⟨ad, len', cap', m, n, D, Pl, hcs, hb, hl, hm, hmm, rfl, hx⟩
  · simp at hcs
    obtain ⟨rfl, rfl, rfl⟩ := hcs
    exact ⟨Nat.le_refl _, fun _ => rfl⟩
  · simp at hcs
    obtain ⟨rfl, rfl, rfl⟩ := hcs
    exact ⟨by omega, fun h => by cases h⟩
end Go.Proofs.YtcenohaadggdiadDoor
