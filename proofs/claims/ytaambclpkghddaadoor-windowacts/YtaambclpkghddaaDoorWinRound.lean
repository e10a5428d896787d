/-
  Contracts of window.round (over whatever function it calls) and frames.has.
-/
import Derived.Test.YtaambclpkghddaaDoorWinFn
import Derived.Test.YtaambclpkghddaaDoorWinDef
namespace Go.Proofs.YtaambclpkghddaaDoor
open Go.RowKit

set_option maxHeartbeats 1000000 in
set_option maxRecDepth 100000 in
theorem round1_ok (f : FuncId) (p : Nat) (first count : Nat) (w : World) (Inv : Nat → World → Prop) (hf : first < 65536) (hc : count ≤ 1000000) (hent : ∀ a q (W : World), (callFunc f #[a, q]).run Tryd.prog W = .ok (.enter f #[a, q]) W)
    (hstep : ∀ i W, i < count → Inv i W → Calls Tryd.prog f #[.int .i64 (((first + i) % 65536 : Nat) : Int), .pointer (some ⟨p, 0, none⟩)] W fun e w' => e = .returned (.tuple #[]) ∧ Inv (i + 1) w') (h0 : Inv 0 w) :
    Calls Tryd.prog 29 #[.int .i64 (first : Int), .int .i64 (count : Int), .func (.func f) #[] #[.pointer (some ⟨p, 0, none⟩)]] w fun e w' => e = .returned (.tuple #[]) ∧ Inv count w' := by
  have HS := hide hstep
  have H0 := hide h0
  have HA := hide (fun a W (h : a < 65536) => after_ok a W h)
  have hc' : (count : Int) ≤ 1000000 := by omega
  have hz : first = (first + 0) % 65536 := by omega
  have hfr : Hid (((first : Nat) : Int) = (((first + 0) % 65536 : Nat) : Int)) := by rw [← hz]; rfl
  clear hstep h0 hf hz
  go_enter Tryd.func29, Tryd.ntmps29
  go_wp2_with fail
  go_loopw [1, 6] (fun t1 t6 wr => ∃ i : Nat, t1 = .int .i64 ((count : Int) - i) ∧ t6 = .int .i64 (((first + i) % 65536 : Nat) : Int) ∧ i ≤ count ∧ Hid (Inv i wr)) (fun t1 _ _ => (intOf t1).toNat)
  case atStart => exact ⟨0, by simp, by rw [← hfr.out], by omega, H0.out⟩
  case round =>
    clear H0 hfr
    obtain ⟨i, rfl, rfl, hi, Hi⟩ := hrel
    by_cases hlt : i < count
    · have hlt' : (0 : Int) < (count : Int) - i := by omega
      have Hst := hide (HS.out i wr hlt Hi.out)
      have Haf := hide (fun W => HA.out ((first + i) % 65536) W (Nat.mod_lt _ (by decide)))
      have Hnx := hide (show ((first + i) % 65536 + 1) % 65536 = (first + (i + 1)) % 65536 by omega)
      rw [Hnx.out] at Haf
      clear HS HA Hi Hnx
      generalize (first + i) % 65536 = a at *
      generalize hb : (first + (i + 1)) % 65536 = b at *
      go_wp2_with fail
      refine Hst.out.mono ?_
      rintro e w1 ⟨rfl, h1⟩
      have H1 := hide h1
      clear h1 Hst
      go_wp2_with fail
      refine (Haf.out _).mono ?_
      rintro e w2 ⟨rfl, rfl⟩
      go_wp2_with fail
      go_roundw
      case rel => exact ⟨i + 1, by go_num, by rw [hb], by omega, H1.out⟩
      case measure => simp [intOf]; omega
    · have hle : (count : Int) - i ≤ 0 := by omega
      have he : i = count := by omega
      have H1 := hide (he ▸ Hi.out : Inv count wr)
      clear Hi he hlt
      go_wp2_with fail
      go_end0
      exact ⟨rfl, H1.out⟩

set_option maxHeartbeats 1000000 in
set_option maxRecDepth 100000 in
theorem round2_ok (f : FuncId) (p q : Nat) (first count : Nat) (w : World) (Inv : Nat → World → Prop) (hf : first < 65536) (hc : count ≤ 1000000) (hent : ∀ a x y (W : World), (callFunc f #[a, x, y]).run Tryd.prog W = .ok (.enter f #[a, x, y]) W)
    (hstep : ∀ i W, i < count → Inv i W → Calls Tryd.prog f #[.int .i64 (((first + i) % 65536 : Nat) : Int), .pointer (some ⟨p, 0, none⟩), .pointer (some ⟨q, 0, none⟩)] W fun e w' => e = .returned (.tuple #[]) ∧ Inv (i + 1) w') (h0 : Inv 0 w) :
    Calls Tryd.prog 29 #[.int .i64 (first : Int), .int .i64 (count : Int), .func (.func f) #[] #[.pointer (some ⟨p, 0, none⟩), .pointer (some ⟨q, 0, none⟩)]] w fun e w' => e = .returned (.tuple #[]) ∧ Inv count w' := by
  have HS := hide hstep
  have H0 := hide h0
  have HA := hide (fun a W (h : a < 65536) => after_ok a W h)
  have hc' : (count : Int) ≤ 1000000 := by omega
  have hz : first = (first + 0) % 65536 := by omega
  have hfr : Hid (((first : Nat) : Int) = (((first + 0) % 65536 : Nat) : Int)) := by rw [← hz]; rfl
  clear hstep h0 hf hz
  go_enter Tryd.func29, Tryd.ntmps29
  go_wp2_with fail
  go_loopw [1, 6] (fun t1 t6 wr => ∃ i : Nat, t1 = .int .i64 ((count : Int) - i) ∧ t6 = .int .i64 (((first + i) % 65536 : Nat) : Int) ∧ i ≤ count ∧ Hid (Inv i wr)) (fun t1 _ _ => (intOf t1).toNat)
  case atStart => exact ⟨0, by simp, by rw [← hfr.out], by omega, H0.out⟩
  case round =>
    clear H0 hfr
    obtain ⟨i, rfl, rfl, hi, Hi⟩ := hrel
    by_cases hlt : i < count
    · have hlt' : (0 : Int) < (count : Int) - i := by omega
      have Hst := hide (HS.out i wr hlt Hi.out)
      have Haf := hide (fun W => HA.out ((first + i) % 65536) W (Nat.mod_lt _ (by decide)))
      have Hnx := hide (show ((first + i) % 65536 + 1) % 65536 = (first + (i + 1)) % 65536 by omega)
      rw [Hnx.out] at Haf
      clear HS HA Hi Hnx
      generalize (first + i) % 65536 = a at *
      generalize hb : (first + (i + 1)) % 65536 = b at *
      go_wp2_with fail
      refine Hst.out.mono ?_
      rintro e w1 ⟨rfl, h1⟩
      have H1 := hide h1
      clear h1 Hst
      go_wp2_with fail
      refine (Haf.out _).mono ?_
      rintro e w2 ⟨rfl, rfl⟩
      go_wp2_with fail
      go_roundw
      case rel => exact ⟨i + 1, by go_num, by rw [hb], by omega, H1.out⟩
      case measure => simp [intOf]; omega
    · have hle : (count : Int) - i ≤ 0 := by omega
      have he : i = count := by omega
      have H1 := hide (he ▸ Hi.out : Inv count wr)
      clear Hi he hlt
      go_wp2_with fail
      go_end0
      exact ⟨rfl, H1.out⟩

theorem enter_order (a x y : Value) (W : World) : (callFunc 40 #[a, x, y]).run Tryd.prog W = .ok (.enter 40 #[a, x, y]) W := by kernel_rfl
theorem enter_take (a q : Value) (W : World) : (callFunc 28 #[a, q]).run Tryd.prog W = .ok (.enter 28 #[a, q]) W := by kernel_rfl
theorem zeroFr (w : World) : (zeroValue 72).run Tryd.prog w = .ok (wfV ⟨#[]⟩) w := by kernel_rfl
/-- A look-up. -/
theorem look_fr {P0 : Foot} {w0 w : World} {b : Nat} {l : Assoc} {L : List Fam} (h : Sep P0 w0 (MapL Tryd.prog 3 b l :: L) w) {n : Int} (hn : WfI n) :
    (Instr.lookup 65 (.map (some b)) (.int .i64 n) true).run Tryd.prog w = .ok (.tuple #[(l.at_ n).getD (wfV ⟨#[]⟩), .bool (l.at_ n).isSome]) w :=
  h.mapLook Tryd.underlying3 Tryd.underlying65 (zeroFr w) hn
theorem look_fr1 {P0 : Foot} {w0 w : World} {b : Nat} {l : Assoc} {L : List Fam} (h : Sep P0 w0 (MapL Tryd.prog 3 b l :: L) w) {n : Int} (hn : WfI n) :
    (Instr.lookup 65 (.map (some b)) (.int .i64 n) false).run Tryd.prog w = .ok ((l.at_ n).getD (wfV ⟨#[]⟩)) w :=
  h.mapLook1 Tryd.underlying3 Tryd.underlying65 (zeroFr w) hn

/-- What the maps of this package hold. -/
def AllFr (l : Assoc) : Prop := ∀ p ∈ l, ∃ d, p.2 = wfV d
theorem AllFr.at_ {l : Assoc} (h : AllFr l) (n : Int) : ∃ d, (l.at_ n).getD (wfV ⟨#[]⟩) = wfV d := by
  unfold Assoc.at_
  cases e : l.find? fun p => p.1 == n with
  | none => exact ⟨_, rfl⟩
  | some p =>
    obtain ⟨d, hd⟩ := h p (List.mem_of_find?_eq_some e)
    exact ⟨d, hd⟩
theorem allFr_kept (l : List (Nat × ByteArray)) : AllFr (keptA l) := by
  intro p hp
  obtain ⟨q, _, rfl⟩ := List.mem_map.1 hp
  exact ⟨_, rfl⟩
theorem allFr_waits (l : List (Option ByteArray)) (n : Nat) : AllFr (wA n l) := by
  intro p hp
  obtain ⟨k, d, _, rfl⟩ := (mem_wA l n p).1 hp
  exact ⟨_, rfl⟩
theorem AllFr.del {l : Assoc} (h : AllFr l) (n : Int) : AllFr (l.del n) := fun p hp => h p (List.mem_filter.1 hp).1

set_option maxHeartbeats 1000000 in
set_option maxRecDepth 100000 in
theorem has_ok {P0 : Foot} {w0 w : World} {b : Nat} {l : Assoc} {L : List Fam} (h : Sep P0 w0 (MapL Tryd.prog 3 b l :: L) w) (ha : AllFr l) (n : Int) (hn : WfI n) :
    Calls Tryd.prog 34 #[.map (some b), .int .i64 n] w fun r w' => r = .returned (.bool (l.at_ n).isSome) ∧ Below w.heap.size w w' := by
  have hlook := look_fr h hn
  obtain ⟨d, hd⟩ := ha.at_ n
  rw [hd] at hlook
  generalize (l.at_ n).isSome = x at *
  unfold wfV at hlook
  clear h ha hn hd
  go_enter Tryd.func34, Tryd.ntmps34
  go_wp2_with fail
  go_ret
  exact ⟨rfl, (Below.refl _ _).alloc (Nat.le_refl _) _⟩
end Go.Proofs.YtaambclpkghddaaDoor
