/-
  Contracts of patch.Apply and patch.Whole over this dump, in one form, and as the laws ask them.
  PatchTells is true for every input: what package patch answers is the document's answer, for any ops over any file. Condition: the twelve errors' variables, and package errors' own one, start as the program's text lays them (the card ties them).
-/
import Derived.Test.YtcenohaadggdiacDoorJoin11
import Derived.Test.YtcenohaadggdiacDoorJoin10
import Derived.Test.YtcenohaadggdiacDoorCards
import Derived.Test.YtcenohaadggdiacDoorTie
import Derived.Test.YtcenohaadggdiacDoorJoin02
import Derived.Test.YtcenohaadggdiacDoorJoin03
import Derived.ChangeOld
import Derived.Carry
namespace Go.Proofs.YtcenohaadggdiacDoor
open Go.RowKit
open Go.Delta (Opx)

/-- What Whole answers beside the bytes. -/
def WRes (e : PV) (tM : TypeId) (xM : Value) (po : List UInt8 × Nat × Int) (n : Int) (c : Nat) (w' : World) (x : Value) : Prop :=
  if po.2.1 = 0 then (if (po.1.length : Int) = n ∧ Go.Crc.crc 0 po.1 = c then x = .nilIface else x = .iface tM xM) else ARes e po.2.1 po.2.2 w' x

section
variable (old : ByteArray) (size : Int) (oa : Option Addr) (ln oc : Nat) (n : Int) (c : Nat) (w : World)
set_option maxHeartbeats 1000000 in
set_option maxRecDepth 100000 in
theorem whole_err (Z : Value → World → Prop)
    (h : Calls Tryd.prog 21 #[.string old, .int .i64 size, .slice oa ln oc] w fun r w' => (∃ t y, r = .returned (.tuple #[.string ⟨#[]⟩, .iface t y]) ∧ Z (.iface t y) w') ∧ Below w.heap.size w w') :
    Calls Tryd.prog 25 #[.string old, .int .i64 size, .slice oa ln oc, .int .i64 n, .int .u32 c] w fun r w' => (∃ x, r = .returned (.tuple #[.string ⟨#[]⟩, x]) ∧ Z x w') ∧ Below w.heap.size w w' := by
  have H := hide h
  clear h
  go_enter Tryd.func25, Tryd.ntmps25
  go_wp2_with fail
  refine H.out.mono ?_
  rintro r w1 ⟨⟨t, y, rfl, hz⟩, hb1⟩
  have Hz := hide hz
  have Hb1 := hide hb1
  clear hz hb1
  go_wp2_with fail
  go_ret2
  exact ⟨⟨_, rfl, Hz.out⟩, Hb1.out⟩
set_option maxHeartbeats 1000000 in
set_option maxRecDepth 100000 in
theorem whole_good (all : List UInt8) (tM : TypeId) (xM : Value) (hc : c < 4294967296) (hall : all.length ≤ 4000) (hM : w.cell? ⟨1, 0, none⟩ = some (.iface tM xM))
    (h : Calls Tryd.prog 21 #[.string old, .int .i64 size, .slice oa ln oc] w fun r w' => r = .returned (.tuple #[.string (str all), .nilIface]) ∧ Below w.heap.size w w') :
    Calls Tryd.prog 25 #[.string old, .int .i64 size, .slice oa ln oc, .int .i64 n, .int .u32 c] w fun r w' => r = .returned (if (all.length : Int) = n ∧ Go.Crc.crc 0 all = c then .tuple #[.string (str all), .nilIface] else .tuple #[.string ⟨#[]⟩, .iface tM xM]) ∧ Below w.heap.size w w' := by
  have H := hide h
  have lM := World.block_lt_of_cell? _ _ hM
  have hs : (str all).size = all.length := str_len all
  have HS := hide (fun W => sum_ok (str all) W (by omega))
  rw [strL] at HS
  have hk : Go.Crc.crc 0 all < 4294967296 := Go.Crc.crc_lt 0 _ (by decide)
  generalize Go.Crc.crc 0 all = k at *
  clear h
  by_cases h1 : (all.length : Int) = n
  · subst h1
    have h1' : (((str all).size : Int) != (all.length : Int)) = false := by rw [hs]; simp
    by_cases h2 : k = c
    · subst h2
      rw [if_pos ⟨rfl, rfl⟩]
      generalize str all = S at *
      go_enter Tryd.func25, Tryd.ntmps25
      go_wp2_with fail
      refine H.out.mono ?_
      rintro r w1 ⟨rfl, hb1⟩
      have Hb1 := hide hb1
      clear hb1
      go_wp2_with fail
      refine (HS.out _).mono ?_
      rintro r w2 ⟨rfl, rfl⟩
      go_wp2_with fail
      go_ret2
      exact ⟨rfl, Hb1.out⟩
    · rw [if_neg (fun h => h2 h.2)]
      have h2' : ((k : Int) != (c : Int)) = true := by simp; omega
      clear h2
      generalize str all = S at *
      go_enter Tryd.func25, Tryd.ntmps25
      go_wp2_with fail
      refine H.out.mono ?_
      rintro r w1 ⟨rfl, hb1⟩
      have g := (hb1.cell (p := ⟨1, 0, none⟩) lM).trans hM
      have Hb1 := hide hb1
      clear hb1
      go_wp2_with fail
      refine (HS.out _).mono ?_
      rintro r w2 ⟨rfl, rfl⟩
      go_wp2_with fail
      go_quiet (fail)
      go_wp2_with fail
      go_ret2
      exact ⟨rfl, bthen Hb1.out (below_drewN _ nq)⟩
  · rw [if_neg (fun h => h1 h.1)]
    have h1' : (((str all).size : Int) != n) = true := by rw [hs]; simpa using h1
    clear h1 hs HS
    generalize str all = S at *
    go_enter Tryd.func25, Tryd.ntmps25
    go_wp2_with fail
    refine H.out.mono ?_
    rintro r w1 ⟨rfl, hb1⟩
    have g := (hb1.cell (p := ⟨1, 0, none⟩) lM).trans hM
    have Hb1 := hide hb1
    clear hb1
    go_wp2_with fail
    go_quiet (fail)
    go_wp2_with fail
    go_ret2
    exact ⟨rfl, bthen Hb1.out (below_drewN _ nq)⟩
end

/-- The errors that Whole meets. -/
structure PEs (e : PV) (tM : TypeId) (xM : Value) (w : World) : Prop where
  er : PEr e w
  sum : w.cell? ⟨1, 0, none⟩ = some (.iface tM xM)
theorem PEs.below {e : PV} {tM : TypeId} {xM : Value} {w w' : World} (h : PEs e tM xM w) (hb : Below w.heap.size w w') : PEs e tM xM w' := ⟨h.er.below hb, (hb.cell (World.block_lt_of_cell? _ _ h.sum)).trans h.sum⟩

theorem whole_ok (old : ByteArray) (size : Int) (v : Value) (ops : List Opx) (n : Int) (c : Nat) (e : PV) (tM : TypeId) (xM : Value) (w : World) (hv : ORow w v ops) (hl : ops.length ≤ 1000000) (hs : Short ops) (hc : c < 4294967296) (he : PEs e tM xM w) :
    Calls Tryd.prog 25 #[.string old, .int .i64 size, v, .int .i64 n, .int .u32 c] w fun r w' => (∃ x, r = .returned (.tuple #[.string (str (wholeOut old.data.toList size ops n c).1), x]) ∧ WRes e tM xM (patchOut old.data.toList size ops) n c w' x) ∧ Below w.heap.size w w' := by
  have HA := apply_ok old size v ops e w hv hl hs he.er
  have hlen := patchOut_len old.data.toList size ops
  have hbad := patchOut_bad old.data.toList size ops
  obtain ⟨oa, oc, rfl, _⟩ := hv
  unfold wholeOut WRes
  generalize patchOut old.data.toList size ops = po at *
  obtain ⟨pb, pc, pa⟩ := po
  simp only at HA hlen hbad ⊢
  by_cases hz : pc = 0
  · subst hz
    simp only [if_true]
    have HA' : Calls Tryd.prog 21 #[.string old, .int .i64 size, .slice oa ops.length oc] w fun r w' => r = .returned (.tuple #[.string (str pb), .nilIface]) ∧ Below w.heap.size w w' :=
      HA.mono fun _ _ ⟨⟨x, hr, hx⟩, hb⟩ => ⟨by rw [hr, hx.nilOr.none rfl], hb⟩
    refine (whole_good old size oa _ oc n c w pb tM xM hc hlen he.sum HA').mono ?_
    rintro r w' ⟨hr, hb⟩
    refine ⟨?_, hb⟩
    by_cases hh : (pb.length : Int) = n ∧ Go.Crc.crc 0 pb = c
    · rw [if_pos hh] at hr
      rw [if_pos hh]
      exact ⟨_, hr, by rw [if_pos hh]⟩
    · rw [if_neg hh] at hr
      rw [if_neg hh]
      exact ⟨_, hr, by rw [if_neg hh]⟩
  · simp only [if_neg hz]
    obtain rfl := hbad hz
    have HA' : Calls Tryd.prog 21 #[.string old, .int .i64 size, .slice oa ops.length oc] w fun r w' => (∃ t y, r = .returned (.tuple #[.string ⟨#[]⟩, .iface t y]) ∧ ARes e pc pa w' (.iface t y)) ∧ Below w.heap.size w w' :=
      HA.mono fun _ _ ⟨⟨x, hr, hx⟩, hb⟩ => by
        obtain ⟨t, y, rfl⟩ := hx.nilOr.some hz
        exact ⟨⟨t, y, hr, hx⟩, hb⟩
    exact whole_err old size oa _ oc n c w (fun x W => ARes e pc pa W x) HA'

/-! ### As the laws ask them -/
theorem patchOut_code (old : List UInt8) (size : Int) (ops : List Opx) : (patchOut old size ops).2.1 = 0 ∨ (patchOut old size ops).2.1 = 2 ∨ (patchOut old size ops).2.1 = 3 ∨ (patchOut old size ops).2.1 = 4 ∨ (patchOut old size ops).2.1 = 6 ∨ (patchOut old size ops).2.1 = 8 := by
  unfold patchOut
  split
  · split
    · split
      · exact Or.inl rfl
      · rename_i c i h
        have := (patchL_code _ _ _ _ _ _ _ h).1
        simp only
        omega
    · have := faultO_code ops
      simp only
      omega
  · exact Or.inr (Or.inl rfl)
/-- The errors among the twelve. -/
def pvOf (a : Nat → Addr) : PV := ⟨ovOf a, 161, .pointer (some (a 5))⟩
theorem Sents.per {w : World} {a : Nat → Addr} (h : Sents w a) : PEr (pvOf a) w := ⟨h.oer.three, h.c7, h.c5⟩
theorem errP_sent {a : Nat → Addr} {c : Nat} (h : c = 2 ∨ c = 3 ∨ c = 4 ∨ c = 6 ∨ c = 8) : ∃ k, k < 12 ∧ c = k + 1 ∧ errP (pvOf a) c = .iface 161 (.pointer (some (a k))) := by
  rcases h with rfl | rfl | rfl | rfl | rfl
  · exact ⟨1, by decide, rfl, rfl⟩
  · exact ⟨2, by decide, rfl, rfl⟩
  · exact ⟨3, by decide, rfl, rfl⟩
  · exact ⟨5, by decide, rfl, rfl⟩
  · exact ⟨7, by decide, rfl, rfl⟩
theorem ARes.errOf {a : Nat → Addr} {c : Nat} {at_ : Int} {w : World} {x : Value} (hS : Sents w a) (hc : c = 0 ∨ c = 2 ∨ c = 3 ∨ c = 4 ∨ c = 6 ∨ c = 8) (h : ARes (pvOf a) c at_ w x) : ErrOf w x c at_ := by
  unfold ARes at h
  rcases hc with rfl | hc
  · rw [if_pos rfl] at h
    subst h
    exact errOf_nil w at_
  · obtain ⟨k, hk, rfl, ev⟩ := errP_sent (a := a) hc
    rw [if_neg (by omega)] at h
    split at h
    · rename_i ha
      subst ha
      rw [h, ev]
      exact errOf_bare w a hS k hk
    · obtain ⟨q, rfl, d0, d1⟩ := h
      rw [ev] at d1
      exact errOf_at w a hS k hk q at_ d0 d1
theorem patchOk (a : Nat → Addr) : PatchOk a where
  apply := fun old size ops hl hs v W hv hS => by
    refine (apply_ok old size v ops (pvOf a) W hv (by omega) hs hS.per).mono ?_
    rintro r w' ⟨⟨x, hr, hx⟩, hb⟩
    exact ⟨⟨x, hr, hx.errOf (hS.below hb) (patchOut_code _ _ _)⟩, hb⟩
  whole := fun old size ops hl hs n c v W hc hv hS => by
    refine (whole_ok old size v ops n c (pvOf a) 161 (.pointer (some (a 9))) W hv (by omega) hs hc ⟨hS.per, hS.c9⟩).mono ?_
    rintro r w' ⟨⟨x, hr, hx⟩, hb⟩
    refine ⟨⟨x, hr, ?_⟩, hb⟩
    have hcode := patchOut_code old.data.toList size ops
    unfold WRes at hx
    unfold wholeOut
    generalize patchOut old.data.toList size ops = po at *
    obtain ⟨pb, pc, pa⟩ := po
    simp only at hx hcode ⊢
    by_cases hz : pc = 0
    · rw [if_pos hz] at hx
      simp only [if_pos hz]
      by_cases hh : (pb.length : Int) = n ∧ Go.Crc.crc 0 pb = c
      · rw [if_pos hh] at hx
        simp only [if_pos hh]
        subst hx
        exact ⟨errOf_nil w' _, fun _ h => by omega⟩
      · rw [if_neg hh] at hx
        simp only [if_neg hh]
        subst hx
        exact ⟨errOf_bare w' a (hS.below hb) 9 (by decide), fun _ _ => rfl⟩
    · rw [if_neg hz] at hx
      simp only [if_neg hz]
      exact ⟨hx.errOf (hS.below hb) hcode, fun _ h => by omega⟩
theorem applyAllS (e : PV) (tM : TypeId) (xM : Value) : ApplyAll (PEs e tM xM) := fun old size ops hl hs v W hv hE => applyAll e old size ops hl hs v W hv hE.er
/-- The contract of Whole where it is asked no more than whether there is an error. -/
def WholeEnv (Env : World → Prop) (old : ByteArray) (size : Int) (ops : List Opx) : Prop :=
  ∀ (n : Int) (c : Nat) v W, c < 4294967296 → ORow W v ops → Env W → Calls Tryd.prog 25 #[.string old, .int .i64 size, v, .int .i64 n, .int .u32 c] W fun r w' =>
    (∃ x, r = .returned (.tuple #[.string (str (wholeOut old.data.toList size ops n c).1), x]) ∧ NilOr x (wholeOut old.data.toList size ops n c).2.1) ∧ Below W.heap.size W w'
def WholeAll (Env : World → Prop) : Prop := ∀ old size ops, ops.length ≤ 1000 → (∀ o ∈ ops, o.data.size ≤ 1000000) → WholeEnv Env old size ops
theorem wholeAll (e : PV) (tM : TypeId) (xM : Value) : WholeAll (PEs e tM xM) := fun old size ops hl hs n c v W hc hv hE => by
  refine (whole_ok old size v ops n c e tM xM W hv (by omega) hs hc hE).mono ?_
  rintro r w' ⟨⟨x, hr, hx⟩, hb⟩
  refine ⟨⟨x, hr, ?_⟩, hb⟩
  unfold WRes at hx
  unfold wholeOut
  generalize patchOut old.data.toList size ops = po at *
  obtain ⟨pb, pc, pa⟩ := po
  simp only at hx ⊢
  by_cases hz : pc = 0
  · rw [if_pos hz] at hx
    simp only [if_pos hz]
    by_cases hh : (pb.length : Int) = n ∧ Go.Crc.crc 0 pb = c
    · rw [if_pos hh] at hx
      simp only [if_pos hh]
      subst hx
      exact ⟨fun _ => rfl, fun h => absurd rfl h⟩
    · rw [if_neg hh] at hx
      simp only [if_neg hh]
      subst hx
      exact ⟨fun h => absurd h (by decide), fun _ => ⟨_, _, rfl⟩⟩
  · rw [if_neg hz] at hx
    simp only [if_neg hz]
    exact hx.nilOr
end Go.Proofs.YtcenohaadggdiacDoor

namespace Go.Proofs.YtcenohaadggdiacDoor
open Go.ChangeShapes Go.WideShapes Go.ChangeAt Go.RowKit
open Go.ChangeMaps (open_string shut_string)

theorem Tryd.laidOutpatchTells : laidOutB Tryd.prog = true := by kernel_rfl

set_option maxRecDepth 100000 in
theorem patchTells_lifted (os : Os) (started : os.Started) (H : Type) (enc : TypeId × Value → H) :
    ReturnsInHanded {} Tryd.checked os 6 .any (fun w args => (Rows.patchTellsSpec.pre enc Tryd.prog Tryd.f6 [] false w args ∧ laidMetH Tryd.prog laid13 w) ∧ sizedMet enc Tryd.prog Tryd.f6 (OpenSpec.ofChange Rows.patchTellsSpec) false w args)
      (Rows.patchTellsSpec.post enc Tryd.prog Tryd.f6 false true false false) := by
  refine returnsInHanded_of_change_and (C := Tryd.checked) (X := fun w _ => laidMetH Tryd.prog laid13 w) (fun _ _ _ hh h => h.of_heap hh) Tryd.own started (by kernel_rfl) Tryd.func6
    (ChangeSpec.witness_shaped (enc := enc) (C := Tryd.checked) (os := os) (X := fun w _ => laidMetH Tryd.prog laid13 w) false (World.doorLaid Tryd.prog 400 os) #[.string ByteArray.empty, .int .i64 0, .slice none 0 0, .int .i64 0, .int .u32 0] 8 rfl (World.shaped_of_RefB (by kernel_rfl) (by kernel_rfl)) (by kernel_rfl) (by kernel_rfl) (by kernel_rfl) (door_met13 os _)) ?_
  intro W base args ds gs before hval0 hW _ _ hL _
  have hval : ∀ (j : Nat) t v, Tryd.f6.params[j]? = some t → args[j]? = some v → Value.okWide Tryd.prog W .any base t v := hval0
  have hW' := hW
  obtain ⟨p, q, hA0, hV, rfl, hfz, hnd⟩ := hW
  have hA : DataW.TrodAll enc Tryd.prog W 0 (fun _ => true) true Tryd.f6.params.toList args.toList ds p := hA0
  rw [Tryd.params6] at hA hval
  obtain ⟨v0, vs0, d0, ds0, p0, q0, hargs, rfl, rfl, h0, r0⟩ := trodAll_cons hA
  obtain ⟨v1, vs1, d1, ds1, p1, q1, rfl, rfl, rfl, h1, r1⟩ := trodAll_cons r0
  obtain ⟨v2, vs2, d2, ds2, p2, q2, rfl, rfl, rfl, h2, r2⟩ := trodAll_cons r1
  obtain ⟨v3, vs3, d3, ds3, p3, q3, rfl, rfl, rfl, h3, r3⟩ := trodAll_cons r2
  obtain ⟨v4, vs4, d4, ds4, p4, q4, rfl, rfl, rfl, h4, r4⟩ := trodAll_cons r3
  obtain ⟨rfl, rfl, rfl⟩ := trodAll_nil r4
  obtain rfl : args = #[v0, v1, v2, v3, v4] := by cases args; simp_all
  obtain ⟨rfl, rfl⟩ := trodVars_none hV
  obtain ⟨a0, rfl, rfl, rfl, w0⟩ := open_string Tryd.underlying9 (hval 0 9 v0 rfl rfl) h0
  obtain ⟨a1, rfl, rfl, rfl, w1⟩ := open_int Tryd.underlying3 (hval 1 3 v1 rfl rfl) h1
  obtain ⟨a3, rfl, rfl, rfl, w3⟩ := open_int Tryd.underlying3 (hval 3 3 v3 rfl rfl) h3
  obtain ⟨a4, rfl, rfl, rfl, w4⟩ := open_int Tryd.underlying41 (hval 4 41 v4 rfl rfl) h4
  obtain ⟨a2, len2, cap2, rfl⟩ := okWide_slice Tryd.underlying30 (hval 2 30 v2 rfl rfl)
  have k2 := h2
  have lt2 : ∀ x ∈ p2, x.block < W.heap.size := by obtain ⟨m, hm⟩ := k2; exact DataW.trod_lt m _ _ _ hm
  obtain ⟨ops, hoo, horow⟩ : ∃ ops : List Go.Delta.Opx, ops.length = len2 ∧ ORow W (.slice a2 ops.length cap2) ops := by
    obtain ⟨fuel, hf⟩ := h2
    exact orow_of_trod hf
  subst hoo
  obtain ⟨x4, hx4⟩ : ∃ x : Nat, a4 = x := ⟨a4.toNat, by have := (u32b w4).1; omega⟩
  subst hx4
  obtain ⟨sa, hS⟩ := sents_of_laid hL
  clear hA0 hval0
  refine (ptells_walk a0 a1 a2 cap2 ops a3 x4 sa W hS (patchOk sa) horow (by have := (u32b w4).2; omega)).mono fun e W' ⟨he, hg⟩ => ?_
  subst he
  exact ⟨_, rfl, _, _, _, [], _, [], hW', trodAll_cons_mk (shut_bool Tryd.underlying4 _) trodAll_mk0,
    trodAll_cons_mk (shut_string Tryd.underlying9 w0) (trodAll_cons_mk (shut_int Tryd.underlying3 w1) (trodAll_cons_mk (Below.trod Tryd.laidOutpatchTells (by kernel_rfl) (of_decide_eq_true (by kernel_rfl)) k2 hg lt2) (trodAll_cons_mk (shut_int Tryd.underlying3 w3) (trodAll_cons_mk (shut_int Tryd.underlying41 w4) trodAll_mk0)))), rfl, hg.frame _, fun h => by cases h⟩

theorem patchTells_holds : Rows.PatchTellsSaid :=
  OpenClaim.holds_of_wide 6 Tryd.f6 rfl rfl rfl rfl rfl rfl rfl ⟨rfl, rfl, rfl, rfl, rfl⟩ rfl rfl rfl rfl rfl (by kernel_rfl) Tryd.func6 (by kernel_rfl)
    (of_decide_eq_true (by kernel_rfl)) (by unfold Func.isWrapper; first | (rw [if_pos (by decide +kernel)]; kernel_rfl) | (rw [if_neg (by decide +kernel)]; exact ⟨rfl, rfl⟩))
    (fun os started H enc _ => patchTells_lifted os started H enc)

theorem patchTells_card : Rows.PatchTellsCardSaid :=
  Claim7.holds_tied_plain_at .later [] [.handle, .sentinel, .sentinel, .sentinel, .sentinel, .sentinel, .sentinel, .sentinel, .sentinel, .sentinel, .sentinel, .sentinel, .sentinel] true (true, "5c58136eca1d255c60c2f8e883c9959683a538db73927d46f8df856497e1e40e") true
    patchTells_holds (fun _ h => by cases h) (by kernel_rfl) (fun _ h => by cases h) patchTells_row_tie rfl ⟨rfl, rfl⟩ (by kernel_rfl) rfl
    (fun f fn hf hfn => by
      obtain rfl : f = 6 := Option.some.inj ((show Tryd.prog.funcNamed "packhorse/packhorselaw1.PatchTells" = some 6 by kernel_rfl).symm.trans hf) |>.symm
      obtain rfl : fn = Tryd.f6 := (Option.some.inj (Tryd.func6.symm.trans hfn)).symm
      exact ⟨by kernel_rfl, fun j t ht => by
        rw [Tryd.params6] at ht
        have hm : t ∈ [9, 3, 30, 3, 41] := by simpa using Array.mem_of_getElem? ht
        have hall : ([9, 3, 30, 3, 41].all fun u => !Tryd.prog.wantsStandIn u) = true := by kernel_rfl
        exact (show Tryd.prog.wantsStandIn t = false by simpa using List.all_eq_true.1 hall t hm)⟩)
    (by kernel_rfl)
#print axioms patchTells_card
end Go.Proofs.YtcenohaadggdiacDoor
