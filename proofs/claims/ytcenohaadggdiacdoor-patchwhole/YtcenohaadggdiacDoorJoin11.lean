/-
  What the laws of stage 6 ask of package patch, as contracts (Apply, Whole: shown elsewhere over the program's own text), and the document's PatchOf in one form.
  Contract of the laws' longOps over this dump: every list of ops.
  Contract of the laws' ownOps over this dump.
  The walk of the law PatchTells over the contracts.
  Contracts of patch.Apply and patch.Whole over this dump, in one form, and as the laws ask them.
-/
import Derived.Test.YtcenohaadggdiacDoorJoin04
import Derived.Test.YtcenohaadggdiacDoorJoin08
import Derived.Test.YtcenohaadggdiacDoorJoin10
import Derived.Test.YtcenohaadggdiacDoorJoin02
import Derived.Deep.DeepCutAuto
import Derived.Deep.RegionHeld3
namespace Go.Proofs.YtcenohaadggdiacDoor
open Go.RowKit
open Go.Delta (Opx copyOp dataOp)

/-- An error that is the fault (c, at), nil where there is none. -/
structure ErrOf (w' : World) (x : Value) (c : Nat) (at_ : Int) : Prop where
  tells : Tells w' x c at_
  none : c = 0 → x = .nilIface
  some : c ≠ 0 → ∃ t y, x = .iface t y
theorem errOf_nil (w : World) (at_ : Int) : ErrOf w .nilIface 0 at_ := ⟨tells_nil w at_, fun _ => rfl, fun h => absurd rfl h⟩
theorem errOf_bare (w : World) (a : Nat → Addr) (hS : Sents w a) (j : Nat) (hj : j < 12) : ErrOf w (.iface 161 (.pointer (some (a j)))) (j + 1) (-1) := ⟨tells_bare w a hS j hj, fun h => by omega, fun _ => ⟨_, _, rfl⟩⟩
theorem errOf_at (w : World) (a : Nat → Addr) (hS : Sents w a) (j : Nat) (hj : j < 12) (p : Nat) (at_ : Int) (c0 : w.cell? ⟨p, 0, Option.none⟩ = Option.some (.int .i64 at_)) (c1 : w.cell? ⟨p, 1, Option.none⟩ = Option.some (.iface 161 (.pointer (Option.some (a j))))) :
    ErrOf w (.iface 66 (.pointer (Option.some ⟨p, 0, Option.none⟩))) (j + 1) at_ := ⟨tells_at w a hS j hj p at_ c0 c1, fun h => by omega, fun _ => ⟨_, _, rfl⟩⟩
theorem ErrOf.below {w w' : World} {x : Value} {c : Nat} {at_ : Int} (h : ErrOf w x c at_) (hb : Below w.heap.size w w') : ErrOf w' x c at_ := ⟨h.tells.below hb, h.none, h.some⟩

/-- The contract of Apply at a file, a size and ops. -/
def ApplyOk (a : Nat → Addr) (old : ByteArray) (size : Int) (ops : List Opx) : Prop :=
  ∀ v W, ORow W v ops → Sents W a → Calls Tryd.prog 21 #[.string old, .int .i64 size, v] W fun r w' =>
    (∃ x, r = .returned (.tuple #[.string (str (patchOut old.data.toList size ops).1), x]) ∧ ErrOf w' x (patchOut old.data.toList size ops).2.1 (patchOut old.data.toList size ops).2.2) ∧ Below W.heap.size W w'
/-- What is whole: the bytes, an error's number, its place. -/
def wholeOut (old : List UInt8) (size : Int) (ops : List Opx) (n : Int) (c : Nat) : List UInt8 × Nat × Int :=
  if (patchOut old size ops).2.1 = 0 then (if ((patchOut old size ops).1.length : Int) = n ∧ Go.Crc.crc 0 (patchOut old size ops).1 = c then ((patchOut old size ops).1, 0, -1) else ([], 10, -1)) else ([], (patchOut old size ops).2.1, (patchOut old size ops).2.2)
/-- The contract of Whole. -/
def WholeOk (a : Nat → Addr) (old : ByteArray) (size : Int) (ops : List Opx) : Prop :=
  ∀ (n : Int) (c : Nat) v W, c < 4294967296 → ORow W v ops → Sents W a → Calls Tryd.prog 25 #[.string old, .int .i64 size, v, .int .i64 n, .int .u32 c] W fun r w' =>
    (∃ x, r = .returned (.tuple #[.string (str (wholeOut old.data.toList size ops n c).1), x]) ∧ ErrOf w' x (wholeOut old.data.toList size ops n c).2.1 (wholeOut old.data.toList size ops n c).2.2 ∧
      ((wholeOut old.data.toList size ops n c).2.2 = -1 → (wholeOut old.data.toList size ops n c).2.1 = 10 → x = .iface 161 (.pointer (some (a 9))))) ∧ Below W.heap.size W w'

theorem patchOf_uni (old : ByteArray) (size : Int) (v : Value) (ops : List Opx) (w : World) (hv : ORow w v ops) (hl : ops.length ≤ 1000000) (hs : ∀ o ∈ ops, o.data.size ≤ 1000000) :
    Calls Tryd.prog 23 #[.string old, .int .i64 size, v] w fun r w' => r = .returned (.tuple #[.string (str (patchOut old.data.toList size ops).1), .agg #[.int .i64 (patchOut old.data.toList size ops).2.1, .int .i64 (patchOut old.data.toList size ops).2.2]]) ∧ Below w.heap.size w w' := by
  unfold patchOut
  rw [lenL]
  by_cases h : 1 ≤ size ∧ size ≤ 64 ∧ old.size ≤ 4000
  · rw [if_pos h]
    obtain ⟨h1, h2, h3⟩ := h
    by_cases hf : (Go.Delta.faultO ops).1 = 0
    · rw [if_pos hf]
      obtain ⟨z, rfl⟩ := Int.eq_ofNat_of_zero_le (show 0 ≤ size by omega)
      refine (patchOf_main old z v ops w (by omega) (by omega) h3 hv hl hs hf).mono ?_
      rintro r w' ⟨rfl, hb⟩
      refine ⟨?_, hb⟩
      rw [Int.toNat_natCast]
      cases patchL old.data.toList z ops 0 [] with
      | ok all => rfl
      | error e => rfl
    · rw [if_neg hf]
      exact patchOf_fault old size v ops w h1 h2 h3 hv hl hs hf
  · rw [if_neg h]
    obtain ⟨a, c, rfl, _⟩ := hv
    exact patchOf_bound old size a _ c w h
theorem ApplyOk.env {a : Nat → Addr} {old : ByteArray} {size : Int} {ops : List Opx} (h : ApplyOk a old size ops) : ApplyEnv (fun W => Sents W a) old size ops := fun v W hv hS => (h v W hv hS).mono fun _ _ ⟨⟨x, e, hx⟩, hb⟩ => ⟨⟨x, e, hx.none, hx.some⟩, hb⟩
end Go.Proofs.YtcenohaadggdiacDoor

namespace Go.Proofs.YtcenohaadggdiacDoor
open Go.RowKit
open Go.Delta (Opx)

/-- Is an op too long for a law? -/
def longO (o : Opx) : Bool := (decide (100 < o.data.size) && decide (o.data.size ≠ 4001)) || decide (20 < o.kind.size)
/-- Are ops too many, or one too long? -/
def longB (l : List Opx) : Bool := decide (40 < l.length) || l.any longO
theorem longB_false {l : List Opx} (h : longB l = false) : l.length ≤ 40 ∧ ∀ o ∈ l, (o.data.size ≤ 100 ∨ o.data.size = 4001) := by
  simp only [longB, Bool.or_eq_false_iff, decide_eq_false_iff_not, List.any_eq_false] at h
  refine ⟨by omega, fun o ho => ?_⟩
  have := h.2 o ho
  simp only [longO, Bool.or_eq_true, Bool.and_eq_true, decide_eq_true_eq] at this
  omega

set_option maxHeartbeats 2000000 in
set_option maxRecDepth 100000 in
theorem longOps_ok (v : Value) (l : List Opx) (w : World) (hv : ORow w v l) :
    Calls Tryd.prog 20 #[v] w fun r w' => r = .returned (.bool (longB l)) ∧ w' = w := by
  obtain ⟨a, c, rfl, hv⟩ := hv
  have HV := hide hv
  clear hv
  by_cases h40 : 40 < l.length
  · have h40' : (40 : Int) < l.length := by omega
    have HB : Hid (longB l = true) := by simp [Hid, longB, h40]
    go_enter Tryd.func20, Tryd.ntmps20
    go_wp2_with fail
    go_ret
    exact ⟨by rw [HB.out]; rfl, rfl⟩
  · have h40' : (l.length : Int) ≤ 40 := by omega
    have HB : Hid (longB l = l.any longO) := by simp only [Hid, longB]; rw [decide_eq_false (by omega)]; rfl
    have H0 : Hid ((l.drop 0).any longO = longB l) := by rw [List.drop_zero, HB.out]; exact rfl
    generalize longB l = B at *
    clear HB
    go_enter Tryd.func20, Tryd.ntmps20
    go_wp2_with fail
    go_loopw [3] (fun t3 wr => ∃ j : Nat, t3 = .int .i64 j ∧ j ≤ l.length ∧ Hid ((l.drop j).any longO = B) ∧ wr = w) (fun t3 _ => l.length - (intOf t3).toNat)
    case atStart => exact ⟨0, rfl, by omega, H0.out, rfl⟩
    case round =>
      clear H0
      obtain ⟨j, rfl, hj, HI, rfl⟩ := hrel
      by_cases hlt : j < l.length
      · have hlt' : (j : Int) < l.length := by omega
        obtain ⟨b, o, rfl, hc⟩ := HV.out (by omega)
        obtain ⟨d0, _, _, d3⟩ := hc j hlt
        have hI := HI.out
        rw [List.drop_eq_getElem_cons hlt, List.any_cons] at hI
        have HI' := hide hI
        clear hc HV HI hI
        generalize l[j] = op at *
        obtain ⟨k, at_, n, d⟩ := op
        simp only [longO] at d0 d3 HI'
        by_cases g1 : 100 < d.size
        · have c1 : decide ((100 : Int) < d.size) = true := by simp; omega
          by_cases g2 : d.size = 4001
          · have c2 : ((d.size : Int) != 4001) = false := by simp; omega
            by_cases g3 : 20 < k.size
            · have c3 : decide ((20 : Int) < k.size) = true := by simp; omega
              have hI := HI'.out
              rw [decide_eq_true g3, Bool.or_true, Bool.true_or] at hI
              subst hI
              clear g1 g2 g3 HI'
              go_wp2_with fail
              go_ret
              exact ⟨rfl, rfl⟩
            · have c3 : decide ((20 : Int) < k.size) = false := by simp; omega
              have hI := HI'.out
              rw [decide_eq_false g3, decide_eq_false (show ¬ d.size ≠ 4001 by omega), Bool.and_false, Bool.false_or, Bool.false_or] at hI
              have HI := hide hI
              clear g1 g2 g3 HI' hI
              go_wp2_with fail
              go_roundw
              case rel => exact ⟨j + 1, by go_num, by omega, HI.out, trivial⟩
              case measure => simp [intOf]; omega
          · have c2 : ((d.size : Int) != 4001) = true := by simp; omega
            have hI := HI'.out
            rw [decide_eq_true g1, decide_eq_true (show d.size ≠ 4001 from g2), Bool.and_true, Bool.true_or, Bool.true_or] at hI
            subst hI
            clear g1 g2 HI'
            go_wp2_with fail
            go_ret
            exact ⟨rfl, rfl⟩
        · have c1 : decide ((100 : Int) < d.size) = false := by simp; omega
          by_cases g3 : 20 < k.size
          · have c3 : decide ((20 : Int) < k.size) = true := by simp; omega
            have hI := HI'.out
            rw [decide_eq_true g3, Bool.or_true, Bool.true_or] at hI
            subst hI
            clear g1 g3 HI'
            go_wp2_with fail
            go_ret
            exact ⟨rfl, rfl⟩
          · have c3 : decide ((20 : Int) < k.size) = false := by simp; omega
            have hI := HI'.out
            rw [decide_eq_false g3, decide_eq_false g1, Bool.false_and, Bool.false_or, Bool.false_or] at hI
            have HI := hide hI
            clear g1 g3 HI' hI
            go_wp2_with fail
            go_roundw
            case rel => exact ⟨j + 1, by go_num, by omega, HI.out, trivial⟩
            case measure => simp [intOf]; omega
      · have hle : (l.length : Int) ≤ (j : Int) := by omega
        have hI := HI.out
        rw [List.drop_eq_nil_of_le (by omega), List.any_nil] at hI
        subst hI
        clear HI
        go_wp2_with fail
        go_ret
        exact ⟨rfl, rfl⟩
end Go.Proofs.YtcenohaadggdiacDoor

namespace Go.Proofs.YtcenohaadggdiacDoor
open Go.RowKit
open Go.Delta (Opx)

/-- Cells of a slice that reads as blocks, one by one. -/
theorem ORow.news {w : World} {a : Option Addr} {c : Nat} {l : List Opx} (h : ORow w (.slice a l.length c) l) (hp : 0 < l.length) : ∃ b o, a = some ⟨b, o, none⟩ ∧ ∀ j u, (ocs l)[j]? = some u → w.cell? ((⟨b, o, none⟩ : Addr).add j) = some u := by
  obtain ⟨a', c', e, h⟩ := h
  obtain ⟨b, o, rfl, hc⟩ := h hp
  have ea : a = some ⟨b, o, none⟩ := by simp at e; exact e.1
  refine ⟨b, o, ea, fun j u hu => ?_⟩
  rw [Go.WideShapes.add_plain]
  have hj : j < l.length * 4 := by
    have := (List.getElem?_eq_some_iff.1 hu).1
    rw [ocs_length] at this
    exact this
  have hd : j / 4 < l.length := by omega
  obtain ⟨g0, g1, g2, g3⟩ := ocs_get l (j / 4) hd
  obtain ⟨c0, c1, c2, c3⟩ := hc (j / 4) hd
  rcases (show j = j / 4 * 4 ∨ j = j / 4 * 4 + 1 ∨ j = j / 4 * 4 + 2 ∨ j = j / 4 * 4 + 3 by omega) with e | e | e | e
  · rw [← e] at g0
    rw [g0] at hu
    cases hu
    rw [← e] at c0
    exact c0
  · rw [← e] at g1
    rw [g1] at hu
    cases hu
    rw [Nat.add_assoc, ← e] at c1
    exact c1
  · rw [← e] at g2
    rw [g2] at hu
    cases hu
    rw [Nat.add_assoc, ← e] at c2
    exact c2
  · rw [← e] at g3
    rw [g3] at hu
    cases hu
    rw [Nat.add_assoc, ← e] at c3
    exact c3

set_option maxHeartbeats 1000000 in
set_option maxRecDepth 100000 in
theorem ownOps_ok (v : Value) (l : List Opx) (w : World) (hv : ORow w v l) (hl : l.length ≤ 1000) :
    Calls Tryd.prog 22 #[v] w fun r w' => ∃ u, r = .returned u ∧ ORow w' u l ∧ Below w.heap.size w w' := by
  obtain ⟨i0, hi, hz0, hz1, hz2⟩ := info_parts Tryd.info61
  have hv' := hv
  obtain ⟨a, c, rfl, _⟩ := hv'
  by_cases hp : 0 < l.length
  · obtain ⟨b, o, rfl, hn⟩ := hv.news hp
    have Hn := hide hn
    clear hn hv
    go_enter Tryd.func22, Tryd.ntmps22
    go_wp2_with (first | (at_builtin; refine wpList_append_own _ rfl (.tmp 4) (.tmp 5) 30 rfl w.heap.size 61 i0 (.agg #[.string ⟨#[]⟩, .int .i64 0, .int .i64 0, .string ⟨#[]⟩]) 4 48 Tryd.underlying30 hi hz0 hz1 hz2 rfl (by decide) (.slice none 0 0) 0 [] rfl ?own ⟨b, o, none⟩ l.length c (ocs l) rfl ?c0 ?c1 ?c2 ?b1 ?b2 ?b3 ?next))
    case own => exact World.ownsRow_nil _ _ _ _
    case c0 => exact ocs_length l
    case c1 => exact Hn.out
    case c2 => intro u hu; simp only [ocs, List.mem_flatMap, ocells] at hu; obtain ⟨x, _, hu⟩ := hu; simp at hu; rcases hu with rfl | rfl | rfl | rfl <;> rfl
    case b1 => unfold maxLen; omega
    case b2 => omega
    case b3 => exact Nat.le_refl _
    case next =>
      intro v5 w5 hown5 hgrow5 _
      have Hb5 := hide ((Below.refl w.heap.size w).grown hgrow5 (Nat.le_refl _) (fun k hk => by cases hk))
      have Hown5 := hide hown5
      clear hown5 hgrow5
      go_wp2_with fail
      go_ret
      refine ⟨_, rfl, ?_, Hb5.out⟩
      have h := Hown5.out
      exact ORow.of_own h
  · have hz : l = [] := by cases l with
      | nil => rfl
      | cons x r => simp at hp
    subst hz
    clear hv
    rename_i hrest
    clear hrest hp
    simp only [List.length_nil]
    cases a with
    | none =>
      go_enter Tryd.func22, Tryd.ntmps22
      go_wp2
      go_ret
      exact ⟨_, rfl, ⟨none, 0, rfl, fun h => by simp at h⟩, Below.refl _ _⟩
    | some ad =>
      go_enter Tryd.func22, Tryd.ntmps22
      go_wp2_with (first | (at_builtin; refine wpList_append_own _ rfl (.tmp 4) (.tmp 5) 30 rfl w.heap.size 61 i0 (.agg #[.string ⟨#[]⟩, .int .i64 0, .int .i64 0, .string ⟨#[]⟩]) 4 48 Tryd.underlying30 hi hz0 hz1 hz2 rfl (by decide) (.slice none 0 0) 0 [] rfl ?own ad 0 c [] rfl rfl ?c1 ?c2 ?b1 ?b2 ?b3 ?next))
      case own => exact World.ownsRow_nil _ _ _ _
      case c1 => intro j u hu; simp at hu
      case c2 => intro u hu; cases hu
      case b1 => unfold maxLen; omega
      case b2 => omega
      case b3 => exact Nat.le_refl _
      case next =>
        intro v5 w5 hown5 hgrow5 _
        have Hb5 := hide ((Below.refl w.heap.size w).grown hgrow5 (Nat.le_refl _) (fun k hk => by cases hk))
        have Hown5 := hide hown5
        clear hown5 hgrow5
        go_wp2_with fail
        go_ret
        exact ⟨_, rfl, ORow.of_own (l := []) Hown5.out, Hb5.out⟩
end Go.Proofs.YtcenohaadggdiacDoor

namespace Go.Proofs.YtcenohaadggdiacDoor
open Go.RowKit
open Go.Delta (Opx)

/-- The contracts of package patch, at all that the laws hand in. -/
structure PatchOk (a : Nat → Addr) : Prop where
  apply : ∀ old size ops, ops.length ≤ 1000 → (∀ o ∈ ops, o.data.size ≤ 1000000) → ApplyOk a old size ops
  whole : ∀ old size ops, ops.length ≤ 1000 → (∀ o ∈ ops, o.data.size ≤ 1000000) → WholeOk a old size ops

set_option maxHeartbeats 2000000 in
set_option maxRecDepth 100000 in
theorem ptells_early (old : ByteArray) (size : Int) (oa : Option Addr) (oc : Nat) (ops : List Opx) (n : Int) (c : Nat) (a : Nat → Addr) (w : World) (hS : Sents w a) (hP : PatchOk a) (hO : ORow w (.slice oa ops.length oc) ops)
    (h : (300 < old.size ∧ old.size ≠ 4001) ∨ longB ops = true) :
    Calls Tryd.prog 6 #[.string old, .int .i64 size, .slice oa ops.length oc, .int .i64 n, .int .u32 c] w fun r w' => r = .returned (.bool true) ∧ Below w.heap.size w w' := by
  have HM := hide (patched_ok _ w hS (fun _ _ h hb => h.below hb) (fun old size ops h1 h2 => (hP.apply old size ops h1 h2).env))
  have HO := hide hO
  have H := hide h
  clear h hO hS hP
  go_enter Tryd.func6, Tryd.ntmps6
  go_wp2_with fail
  refine HM.out.mono ?_
  rintro r w1 ⟨rfl, hb1⟩
  have Hb1 := hide hb1
  have HL := hide (longOps_ok (.slice oa ops.length oc) ops w1 (HO.out.below hb1))
  clear hb1 HM HO
  go_upto_region 2 with fail
  go_cut [33] (fun v33 wc => v33 = .bool true ∧ wc = w1)
  case first =>
    by_cases e2 : 300 < old.size
    · have c2 : decide ((300 : Int) < old.size) = true := by simp; omega
      by_cases e3 : old.size = 4001
      · have c3 : ((old.size : Int) != 4001) = false := by simp; omega
        have e4 : longB ops = true := H.out.elim (fun h => absurd e3 h.2) id
        rw [e4] at HL
        clear e2 e3 e4 H
        go_wp2_with fail
        refine HL.out.mono ?_
        rintro r w2 ⟨rfl, rfl⟩
        go_wp2_with fail
        go_meet
        case rel => exact ⟨rfl, rfl⟩
      · have c3 : ((old.size : Int) != 4001) = true := by simp; omega
        clear e2 e3 HL H
        go_wp2_with fail
        go_meet
        case rel => exact ⟨rfl, rfl⟩
    · have c2 : decide ((300 : Int) < old.size) = false := by simp; omega
      have e4 : longB ops = true := H.out.elim (fun h => absurd h.1 e2) id
      rw [e4] at HL
      clear e2 e4 H
      go_wp2_with fail
      refine HL.out.mono ?_
      rintro r w2 ⟨rfl, rfl⟩
      go_wp2_with fail
      go_meet
      case rel => exact ⟨rfl, rfl⟩
  case rest =>
    obtain ⟨rfl, rfl⟩ := hcut
    go_wp2
    go_ret
    exact ⟨rfl, Hb1.out⟩

set_option maxHeartbeats 4000000 in
set_option maxRecDepth 100000 in
theorem ptells_main (old : ByteArray) (size : Int) (oa : Option Addr) (oc : Nat) (ops : List Opx) (n : Int) (c : Nat) (a : Nat → Addr) (w : World) (hS : Sents w a) (hP : PatchOk a) (hO : ORow w (.slice oa ops.length oc) ops)
    (hc : c < 4294967296) (hs : old.size ≤ 300 ∨ old.size = 4001) (hop : longB ops = false) :
    Calls Tryd.prog 6 #[.string old, .int .i64 size, .slice oa ops.length oc, .int .i64 n, .int .u32 c] w fun r w' => r = .returned (.bool true) ∧ Below w.heap.size w w' := by
  have HM := hide (patched_ok _ w hS (fun _ _ h hb => h.below hb) (fun old size ops h1 h2 => (hP.apply old size ops h1 h2).env))
  have HO := hide hO
  have HE := hide hS
  obtain ⟨hn40, hdat⟩ := longB_false hop
  have Hsh : Hid (∀ o ∈ ops, o.data.size ≤ 1000000) := fun o ho => by have := hdat o ho; omega
  have HA := hide (hP.apply old size ops (by omega) Hsh.out)
  have HWh := hide (hP.whole old size ops (by omega) Hsh.out)
  have HPo := hide (fun v W (x : ORow W v ops) => patchOf_uni old size v ops W x (by omega) Hsh.out)
  have Hs := hide hs
  have HL0 := hide hop
  have hlen := patchOut_len old.data.toList size ops
  have HBad := hide (patchOut_bad old.data.toList size ops)
  unfold ApplyOk at HA
  unfold WholeOk at HWh
  unfold wholeOut at HWh
  generalize patchOut old.data.toList size ops = po at *
  obtain ⟨pb, pc, pa⟩ := po
  simp only at HA HPo HWh hlen HBad
  have hPs : (str pb).size = pb.length := str_len pb
  have HSu := hide (fun W => sumOf_ok (str pb) W (by omega))
  rw [strL] at HSu
  have hk : Go.Crc.crc 0 pb < 4294967296 := Go.Crc.crc_lt 0 pb (by decide)
  generalize Go.Crc.crc 0 pb = k at *
  have Hpe : Hid (pc ≠ 0 → str pb = ⟨#[]⟩) := fun h => by rw [HBad.out h]; rfl
  have Hse : Hid (str [] = ⟨#[]⟩) := rfl
  clear hS hO hP hdat hs hop HBad
  go_enter Tryd.func6, Tryd.ntmps6
  go_wp2_with fail
  refine HM.out.mono ?_
  rintro r w1 ⟨rfl, hb1⟩
  have Hb1 := hide hb1
  have HL := hide (longOps_ok (.slice oa ops.length oc) ops w1 (HO.out.below hb1))
  rw [HL0.out] at HL
  clear hb1 HM HL0
  go_upto_region 2 with fail
  go_cut [33] (fun v33 wc => v33 = .bool false ∧ wc = w1)
  case first =>
    by_cases e2 : 300 < old.size
    · have c2 : decide ((300 : Int) < old.size) = true := by simp; omega
      have c3 : ((old.size : Int) != 4001) = false := by have := Hs.out; simp; omega
      clear e2
      go_wp2_with fail
      refine HL.out.mono ?_
      rintro r w2 ⟨rfl, rfl⟩
      go_wp2_with fail
      go_meet
      case rel => exact ⟨rfl, rfl⟩
    · have c2 : decide ((300 : Int) < old.size) = false := by simp; omega
      clear e2
      go_wp2_with fail
      refine HL.out.mono ?_
      rintro r w2 ⟨rfl, rfl⟩
      go_wp2_with fail
      go_meet
      case rel => exact ⟨rfl, rfl⟩
  case rest =>
    obtain ⟨rfl, rfl⟩ := hcut
    clear HL
    go_wp2_with fail
    refine (ownOps_ok _ ops _ (HO.out.below Hb1.out) (by omega)).mono ?_
    rintro r w2 ⟨u, rfl, hu2, hb2⟩
    have Hu2 := hide hu2
    obtain ⟨au, cu, rfl, _⟩ := hu2
    have Hb2 := hide (bthen Hb1.out hb2)
    clear hb2 Hb1
    go_wp2_with fail
    refine (HA.out _ _ Hu2.out (HE.out.below Hb2.out)).mono ?_
    rintro r w3 ⟨⟨x3, rfl, hx3⟩, hb3⟩
    have Hx3 := hide hx3
    have Hb3 := hide (bthen Hb2.out hb3)
    clear hb3 hx3 Hb2 Hu2 HA
    go_wp2_with fail
    refine (HPo.out _ _ (HO.out.below Hb3.out)).mono ?_
    rintro r w4 ⟨rfl, hb4⟩
    have hba := hb4.alloc hb4.size (.cells #[.int .i64 (pc : Int), .int .i64 pa] 46)
    have hq4 := HvAt.fresh w4 pc pa 46
    have Hq4 := hide hq4
    have Hx4 := hide (Hx3.out.below hba).tells
    have Hb4 := hide (bthen Hb3.out hba)
    clear hb4 hba Hx3 Hb3 HPo
    obtain ⟨q0, q1, p0, p1, qlt⟩ := hq4
    go_wp2_with fail
    refine (Hx4.out _ (Below.refl _ _)).mono ?_
    rintro r w5 ⟨rfl, hb5⟩
    have Hq5 := hide (Hq4.out.below hb5 Hq4.out.lt)
    have Hb5 := hide (bthen Hb4.out hb5)
    clear hb5 Hx4 Hb4 Hq4 q0 q1 p0 p1 qlt
    generalize w4.heap.size = q at *
    go_wp2_with fail
    refine (ownOps_ok _ ops _ (HO.out.below Hb5.out) (by omega)).mono ?_
    rintro r w6 ⟨u6, rfl, hu6, hb6⟩
    have Hu6 := hide hu6
    obtain ⟨au6, cu6, rfl, _⟩ := hu6
    have Hq6 := hide (Hq5.out.below hb6 Hq5.out.lt)
    have Hb6 := hide (bthen Hb5.out hb6)
    clear hb6 Hb5 Hq5
    go_wp2_with fail
    refine (HWh.out n c _ _ hc Hu6.out (HE.out.below Hb6.out)).mono ?_
    rintro r w7 ⟨⟨x7, rfl, hx7, hs7⟩, hb7⟩
    have Hx7 := hide hx7
    have Hs7 := hide hs7
    have hq7 := Hq6.out.below hb7 Hq6.out.lt
    have Hb7 := hide (bthen Hb6.out hb7)
    clear hb7 hx7 hs7 Hb6 Hq6 Hu6
    obtain ⟨q0, q1, p0, p1, qlt⟩ := hq7
    by_cases hpc : pc = 0
    · subst hpc
      simp only [if_true] at Hx7 Hs7 ⊢
      have HWl : Hid (∀ v W, ORow W v ops → Sents W a → Calls Tryd.prog 25 #[.string old, .int .i64 size, v, .int .i64 pb.length, .int .u32 k] W fun r w' => r = .returned (.tuple #[.string (str pb), .nilIface]) ∧ Below W.heap.size W w') := by
        intro v W x y
        refine (HWh.out pb.length k v W hk x y).mono ?_
        rintro r w' ⟨⟨z, rfl, hz, _⟩, hb⟩
        simp only [if_true, and_self] at hz ⊢
        rw [hz.none rfl]
        exact ⟨rfl, hb⟩
      have hk' : (k : Int) < 4294967296 := by omega
      have hkm : (k : Int) % 4294967296 = (k : Int) := by omega
      have hc' : (c : Int) < 4294967296 := by omega
      clear HWh
      by_cases hmt : (pb.length : Int) = n ∧ k = c
      · rw [if_pos hmt] at Hx7 Hs7 ⊢
        simp only at Hx7 Hs7 ⊢
        have hx := Hx7.out.none rfl
        subst hx
        obtain ⟨hm1, hm2⟩ := hmt
        subst hm1 hm2
        clear Hx7 Hs7
        go_wp2_with fail
        refine (HSu.out _).mono ?_
        rintro r w8 ⟨rfl, rfl⟩
        go_wp2_with fail
        have Hb8 := Hb7
        clear Hb7
        refine (ownOps_ok _ ops _ (HO.out.below Hb8.out) (by omega)).mono ?_
        rintro r w9 ⟨u9, rfl, hu9, hb9⟩
        have Hu9 := hide hu9
        obtain ⟨au9, cu9, rfl, _⟩ := hu9
        have Hb9 := hide (bthen Hb8.out hb9)
        clear hb9 Hb8
        go_wp2_with fail
        refine (HSu.out _).mono ?_
        rintro r w10 ⟨rfl, rfl⟩
        go_wp2_with fail
        refine (HWl.out _ _ Hu9.out (HE.out.below Hb9.out)).mono ?_
        rintro r w11 ⟨rfl, hb11⟩
        have Hb11 := hide (bthen Hb9.out hb11)
        clear hb11 Hb9
        go_wp2
        go_ret
        exact ⟨rfl, Hb11.out⟩
      · rw [if_neg hmt] at Hx7 Hs7 ⊢
        simp only at Hx7 Hs7 ⊢
        have hx := Hs7.out trivial trivial
        subst hx
        have HCd := hide (fun W (h : Sents W a) => coded_sent 9 (by decide) a 10 W h)
        rw [Hse.out]
        clear Hx7 Hs7
        by_cases hm1 : (pb.length : Int) = n
        · have hm2 : ((k : Int) != (c : Int)) = true := by
            have : k ≠ c := fun e => hmt ⟨hm1, e⟩
            simp; omega
          subst hm1
          clear hmt
          go_wp2_with fail
          refine (HSu.out _).mono ?_
          rintro r w8 ⟨rfl, rfl⟩
          go_wp2_with fail
          refine (HCd.out _ (HE.out.below Hb7.out)).mono ?_
          rintro r w8 ⟨rfl, hb8⟩
          have Hb8 := hide (bthen Hb7.out hb8)
          clear hb8 Hb7 HCd
          go_wp2_with fail
          refine (ownOps_ok _ ops _ (HO.out.below Hb8.out) (by omega)).mono ?_
          rintro r w9 ⟨u9, rfl, hu9, hb9⟩
          have Hu9 := hide hu9
          obtain ⟨au9, cu9, rfl, _⟩ := hu9
          have Hb9 := hide (bthen Hb8.out hb9)
          clear hb9 Hb8
          go_wp2_with fail
          refine (HSu.out _).mono ?_
          rintro r w10 ⟨rfl, rfl⟩
          go_wp2_with fail
          refine (HWl.out _ _ Hu9.out (HE.out.below Hb9.out)).mono ?_
          rintro r w11 ⟨rfl, hb11⟩
          have Hb11 := hide (bthen Hb9.out hb11)
          clear hb11 Hb9
          go_wp2
          go_ret
          exact ⟨rfl, Hb11.out⟩
        · have hm1' : ((pb.length : Int) != n) = true := by simpa using hm1
          clear hmt hm1
          go_wp2_with fail
          refine (HCd.out _ (HE.out.below Hb7.out)).mono ?_
          rintro r w8 ⟨rfl, hb8⟩
          have Hb8 := hide (bthen Hb7.out hb8)
          clear hb8 Hb7 HCd
          go_wp2_with fail
          refine (ownOps_ok _ ops _ (HO.out.below Hb8.out) (by omega)).mono ?_
          rintro r w9 ⟨u9, rfl, hu9, hb9⟩
          have Hu9 := hide hu9
          obtain ⟨au9, cu9, rfl, _⟩ := hu9
          have Hb9 := hide (bthen Hb8.out hb9)
          clear hb9 Hb8
          go_wp2_with fail
          refine (HSu.out _).mono ?_
          rintro r w10 ⟨rfl, rfl⟩
          go_wp2_with fail
          refine (HWl.out _ _ Hu9.out (HE.out.below Hb9.out)).mono ?_
          rintro r w11 ⟨rfl, hb11⟩
          have Hb11 := hide (bthen Hb9.out hb11)
          clear hb11 Hb9
          go_wp2
          go_ret
          exact ⟨rfl, Hb11.out⟩
    · have hpc' : 0 < (pc : Int) := by omega
      rw [if_neg hpc] at Hx7 ⊢
      simp only at Hx7 ⊢
      rw [Hse.out]
      have Ht7 := hide Hx7.out.tells
      clear Hx7 Hs7 hpc
      go_wp2_with fail
      refine (Ht7.out _ (Below.refl _ _)).mono ?_
      rintro r w8 ⟨rfl, hb8⟩
      have Hb8 := hide (bthen Hb7.out hb8)
      clear hb8 Hb7
      go_wp2
      go_ret
      exact ⟨rfl, Hb8.out⟩
theorem ptells_walk (old : ByteArray) (size : Int) (oa : Option Addr) (oc : Nat) (ops : List Opx) (n : Int) (c : Nat) (a : Nat → Addr) (w : World) (hS : Sents w a) (hP : PatchOk a) (hO : ORow w (.slice oa ops.length oc) ops) (hc : c < 4294967296) :
    Calls Tryd.prog 6 #[.string old, .int .i64 size, .slice oa ops.length oc, .int .i64 n, .int .u32 c] w fun r w' => r = .returned (.bool true) ∧ Below w.heap.size w w' := by
  by_cases h : (300 < old.size ∧ old.size ≠ 4001) ∨ longB ops = true
  · exact ptells_early old size oa oc ops n c a w hS hP hO h
  · simp only [not_or] at h
    exact ptells_main old size oa oc ops n c a w hS hP hO hc (by omega) (by simpa using h.2)
end Go.Proofs.YtcenohaadggdiacDoor

namespace Go.Proofs.YtcenohaadggdiacDoor
open Go.RowKit
open Go.Delta (Opx)

/-- What Whole answers beside the bytes. -/
def WRes (e : PV) (tM : TypeId) (xM : Value) (po : List UInt8 × Nat × Int) (n : Int) (c : Nat) (w' : World) (x : Value) : Prop :=
  if po.2.1 = 0 then (if (po.1.length : Int) = n ∧ Go.Crc.crc 0 po.1 = c then x = .nilIface else x = .iface tM xM) else ARes e po.2.1 po.2.2 w' x

section
variable (old : ByteArray) (size : Int) (oa : Option Addr) (ln oc : Nat) (n : Int) (c : Nat) (w : World)
set_option maxHeartbeats 1000000 in
set_option maxRecDepth 100000 in
theorem whole_err (Z : Value → World → Prop)
    (h : Calls Tryd.prog 21 #[.string old, .int .i64 size, .slice oa ln oc] w fun r w' => (∃ t y, r = .returned (.tuple #[.string ⟨#[]⟩, .iface t y]) ∧ Z (.iface t y) w') ∧ Below w.heap.size w w') :
    Calls Tryd.prog 25 #[.string old, .int .i64 size, .slice oa ln oc, .int .i64 n, .int .u32 c] w fun r w' => (∃ x, r = .returned (.tuple #[.string ⟨#[]⟩, x]) ∧ Z x w') ∧ Below w.heap.size w w' := by
  have H := hide h
  clear h
  go_enter Tryd.func25, Tryd.ntmps25
  go_wp2_with fail
  refine H.out.mono ?_
  rintro r w1 ⟨⟨t, y, rfl, hz⟩, hb1⟩
  have Hz := hide hz
  have Hb1 := hide hb1
  clear hz hb1
  go_wp2_with fail
  go_ret2
  exact ⟨⟨_, rfl, Hz.out⟩, Hb1.out⟩
set_option maxHeartbeats 1000000 in
set_option maxRecDepth 100000 in
theorem whole_good (all : List UInt8) (tM : TypeId) (xM : Value) (hc : c < 4294967296) (hall : all.length ≤ 4000) (hM : w.cell? ⟨1, 0, none⟩ = some (.iface tM xM))
    (h : Calls Tryd.prog 21 #[.string old, .int .i64 size, .slice oa ln oc] w fun r w' => r = .returned (.tuple #[.string (str all), .nilIface]) ∧ Below w.heap.size w w') :
    Calls Tryd.prog 25 #[.string old, .int .i64 size, .slice oa ln oc, .int .i64 n, .int .u32 c] w fun r w' => r = .returned (if (all.length : Int) = n ∧ Go.Crc.crc 0 all = c then .tuple #[.string (str all), .nilIface] else .tuple #[.string ⟨#[]⟩, .iface tM xM]) ∧ Below w.heap.size w w' := by
  have H := hide h
  have lM := World.block_lt_of_cell? _ _ hM
  have hs : (str all).size = all.length := str_len all
  have HS := hide (fun W => sum_ok (str all) W (by omega))
  rw [strL] at HS
  have hk : Go.Crc.crc 0 all < 4294967296 := Go.Crc.crc_lt 0 _ (by decide)
  generalize Go.Crc.crc 0 all = k at *
  clear h
  by_cases h1 : (all.length : Int) = n
  · subst h1
    have h1' : (((str all).size : Int) != (all.length : Int)) = false := by rw [hs]; simp
    by_cases h2 : k = c
    · subst h2
      rw [if_pos ⟨rfl, rfl⟩]
      generalize str all = S at *
      go_enter Tryd.func25, Tryd.ntmps25
      go_wp2_with fail
      refine H.out.mono ?_
      rintro r w1 ⟨rfl, hb1⟩
      have Hb1 := hide hb1
      clear hb1
      go_wp2_with fail
      refine (HS.out _).mono ?_
      rintro r w2 ⟨rfl, rfl⟩
      go_wp2_with fail
      go_ret2
      exact ⟨rfl, Hb1.out⟩
    · rw [if_neg (fun h => h2 h.2)]
      have h2' : ((k : Int) != (c : Int)) = true := by simp; omega
      clear h2
      generalize str all = S at *
      go_enter Tryd.func25, Tryd.ntmps25
      go_wp2_with fail
      refine H.out.mono ?_
      rintro r w1 ⟨rfl, hb1⟩
      have g := (hb1.cell (p := ⟨1, 0, none⟩) lM).trans hM
      have Hb1 := hide hb1
      clear hb1
      go_wp2_with fail
      refine (HS.out _).mono ?_
      rintro r w2 ⟨rfl, rfl⟩
      go_wp2_with fail
      go_quiet (fail)
      go_wp2_with fail
      go_ret2
      exact ⟨rfl, bthen Hb1.out (below_drewN _ nq)⟩
  · rw [if_neg (fun h => h1 h.1)]
    have h1' : (((str all).size : Int) != n) = true := by rw [hs]; simpa using h1
    clear h1 hs HS
    generalize str all = S at *
    go_enter Tryd.func25, Tryd.ntmps25
    go_wp2_with fail
    refine H.out.mono ?_
    rintro r w1 ⟨rfl, hb1⟩
    have g := (hb1.cell (p := ⟨1, 0, none⟩) lM).trans hM
    have Hb1 := hide hb1
    clear hb1
    go_wp2_with fail
    go_quiet (fail)
    go_wp2_with fail
    go_ret2
    exact ⟨rfl, bthen Hb1.out (below_drewN _ nq)⟩
end

/-- The errors that Whole meets. -/
structure PEs (e : PV) (tM : TypeId) (xM : Value) (w : World) : Prop where
  er : PEr e w
  sum : w.cell? ⟨1, 0, none⟩ = some (.iface tM xM)
theorem PEs.below {e : PV} {tM : TypeId} {xM : Value} {w w' : World} (h : PEs e tM xM w) (hb : Below w.heap.size w w') : PEs e tM xM w' := ⟨h.er.below hb, (hb.cell (World.block_lt_of_cell? _ _ h.sum)).trans h.sum⟩

theorem whole_ok (old : ByteArray) (size : Int) (v : Value) (ops : List Opx) (n : Int) (c : Nat) (e : PV) (tM : TypeId) (xM : Value) (w : World) (hv : ORow w v ops) (hl : ops.length ≤ 1000000) (hs : Short ops) (hc : c < 4294967296) (he : PEs e tM xM w) :
    Calls Tryd.prog 25 #[.string old, .int .i64 size, v, .int .i64 n, .int .u32 c] w fun r w' => (∃ x, r = .returned (.tuple #[.string (str (wholeOut old.data.toList size ops n c).1), x]) ∧ WRes e tM xM (patchOut old.data.toList size ops) n c w' x) ∧ Below w.heap.size w w' := by
  have HA := apply_ok old size v ops e w hv hl hs he.er
  have hlen := patchOut_len old.data.toList size ops
  have hbad := patchOut_bad old.data.toList size ops
  obtain ⟨oa, oc, rfl, _⟩ := hv
  unfold wholeOut WRes
  generalize patchOut old.data.toList size ops = po at *
  obtain ⟨pb, pc, pa⟩ := po
  simp only at HA hlen hbad ⊢
  by_cases hz : pc = 0
  · subst hz
    simp only [if_true]
    have HA' : Calls Tryd.prog 21 #[.string old, .int .i64 size, .slice oa ops.length oc] w fun r w' => r = .returned (.tuple #[.string (str pb), .nilIface]) ∧ Below w.heap.size w w' :=
      HA.mono fun _ _ ⟨⟨x, hr, hx⟩, hb⟩ => ⟨by rw [hr, hx.nilOr.none rfl], hb⟩
    refine (whole_good old size oa _ oc n c w pb tM xM hc hlen he.sum HA').mono ?_
    rintro r w' ⟨hr, hb⟩
    refine ⟨?_, hb⟩
    by_cases hh : (pb.length : Int) = n ∧ Go.Crc.crc 0 pb = c
    · rw [if_pos hh] at hr
      rw [if_pos hh]
      exact ⟨_, hr, by rw [if_pos hh]⟩
    · rw [if_neg hh] at hr
      rw [if_neg hh]
      exact ⟨_, hr, by rw [if_neg hh]⟩
  · simp only [if_neg hz]
    obtain rfl := hbad hz
    have HA' : Calls Tryd.prog 21 #[.string old, .int .i64 size, .slice oa ops.length oc] w fun r w' => (∃ t y, r = .returned (.tuple #[.string ⟨#[]⟩, .iface t y]) ∧ ARes e pc pa w' (.iface t y)) ∧ Below w.heap.size w w' :=
      HA.mono fun _ _ ⟨⟨x, hr, hx⟩, hb⟩ => by
        obtain ⟨t, y, rfl⟩ := hx.nilOr.some hz
        exact ⟨⟨t, y, hr, hx⟩, hb⟩
    exact whole_err old size oa _ oc n c w (fun x W => ARes e pc pa W x) HA'

/-! ### As the laws ask them -/
theorem patchOut_code (old : List UInt8) (size : Int) (ops : List Opx) : (patchOut old size ops).2.1 = 0 ∨ (patchOut old size ops).2.1 = 2 ∨ (patchOut old size ops).2.1 = 3 ∨ (patchOut old size ops).2.1 = 4 ∨ (patchOut old size ops).2.1 = 6 ∨ (patchOut old size ops).2.1 = 8 := by
  unfold patchOut
  split
  · split
    · split
      · exact Or.inl rfl
      · rename_i c i h
        have := (patchL_code _ _ _ _ _ _ _ h).1
        simp only
        omega
    · have := faultO_code ops
      simp only
      omega
  · exact Or.inr (Or.inl rfl)
/-- The errors among the twelve. -/
def pvOf (a : Nat → Addr) : PV := ⟨ovOf a, 161, .pointer (some (a 5))⟩
theorem Sents.per {w : World} {a : Nat → Addr} (h : Sents w a) : PEr (pvOf a) w := ⟨h.oer.three, h.c7, h.c5⟩
theorem errP_sent {a : Nat → Addr} {c : Nat} (h : c = 2 ∨ c = 3 ∨ c = 4 ∨ c = 6 ∨ c = 8) : ∃ k, k < 12 ∧ c = k + 1 ∧ errP (pvOf a) c = .iface 161 (.pointer (some (a k))) := by
  rcases h with rfl | rfl | rfl | rfl | rfl
  · exact ⟨1, by decide, rfl, rfl⟩
  · exact ⟨2, by decide, rfl, rfl⟩
  · exact ⟨3, by decide, rfl, rfl⟩
  · exact ⟨5, by decide, rfl, rfl⟩
  · exact ⟨7, by decide, rfl, rfl⟩
theorem ARes.errOf {a : Nat → Addr} {c : Nat} {at_ : Int} {w : World} {x : Value} (hS : Sents w a) (hc : c = 0 ∨ c = 2 ∨ c = 3 ∨ c = 4 ∨ c = 6 ∨ c = 8) (h : ARes (pvOf a) c at_ w x) : ErrOf w x c at_ := by
  unfold ARes at h
  rcases hc with rfl | hc
  · rw [if_pos rfl] at h
    subst h
    exact errOf_nil w at_
  · obtain ⟨k, hk, rfl, ev⟩ := errP_sent (a := a) hc
    rw [if_neg (by omega)] at h
    split at h
    · rename_i ha
      subst ha
      rw [h, ev]
      exact errOf_bare w a hS k hk
    · obtain ⟨q, rfl, d0, d1⟩ := h
      rw [ev] at d1
      exact errOf_at w a hS k hk q at_ d0 d1
theorem patchOk (a : Nat → Addr) : PatchOk a where
  apply := fun old size ops hl hs v W hv hS => by
    refine (apply_ok old size v ops (pvOf a) W hv (by omega) hs hS.per).mono ?_
    rintro r w' ⟨⟨x, hr, hx⟩, hb⟩
    exact ⟨⟨x, hr, hx.errOf (hS.below hb) (patchOut_code _ _ _)⟩, hb⟩
  whole := fun old size ops hl hs n c v W hc hv hS => by
    refine (whole_ok old size v ops n c (pvOf a) 161 (.pointer (some (a 9))) W hv (by omega) hs hc ⟨hS.per, hS.c9⟩).mono ?_
    rintro r w' ⟨⟨x, hr, hx⟩, hb⟩
    refine ⟨⟨x, hr, ?_⟩, hb⟩
    have hcode := patchOut_code old.data.toList size ops
    unfold WRes at hx
    unfold wholeOut
    generalize patchOut old.data.toList size ops = po at *
    obtain ⟨pb, pc, pa⟩ := po
    simp only at hx hcode ⊢
    by_cases hz : pc = 0
    · rw [if_pos hz] at hx
      simp only [if_pos hz]
      by_cases hh : (pb.length : Int) = n ∧ Go.Crc.crc 0 pb = c
      · rw [if_pos hh] at hx
        simp only [if_pos hh]
        subst hx
        exact ⟨errOf_nil w' _, fun _ h => by omega⟩
      · rw [if_neg hh] at hx
        simp only [if_neg hh]
        subst hx
        exact ⟨errOf_bare w' a (hS.below hb) 9 (by decide), fun _ _ => rfl⟩
    · rw [if_neg hz] at hx
      simp only [if_neg hz]
      exact ⟨hx.errOf (hS.below hb) hcode, fun _ h => by omega⟩
theorem applyAllS (e : PV) (tM : TypeId) (xM : Value) : ApplyAll (PEs e tM xM) := fun old size ops hl hs v W hv hE => applyAll e old size ops hl hs v W hv hE.er
/-- The contract of Whole where it is asked no more than whether there is an error. -/
def WholeEnv (Env : World → Prop) (old : ByteArray) (size : Int) (ops : List Opx) : Prop :=
  ∀ (n : Int) (c : Nat) v W, c < 4294967296 → ORow W v ops → Env W → Calls Tryd.prog 25 #[.string old, .int .i64 size, v, .int .i64 n, .int .u32 c] W fun r w' =>
    (∃ x, r = .returned (.tuple #[.string (str (wholeOut old.data.toList size ops n c).1), x]) ∧ NilOr x (wholeOut old.data.toList size ops n c).2.1) ∧ Below W.heap.size W w'
def WholeAll (Env : World → Prop) : Prop := ∀ old size ops, ops.length ≤ 1000 → (∀ o ∈ ops, o.data.size ≤ 1000000) → WholeEnv Env old size ops
theorem wholeAll (e : PV) (tM : TypeId) (xM : Value) : WholeAll (PEs e tM xM) := fun old size ops hl hs n c v W hc hv hE => by
  refine (whole_ok old size v ops n c e tM xM W hv (by omega) hs hc hE).mono ?_
  rintro r w' ⟨⟨x, hr, hx⟩, hb⟩
  refine ⟨⟨x, hr, ?_⟩, hb⟩
  unfold WRes at hx
  unfold wholeOut
  generalize patchOut old.data.toList size ops = po at *
  obtain ⟨pb, pc, pa⟩ := po
  simp only at hx ⊢
  by_cases hz : pc = 0
  · rw [if_pos hz] at hx
    simp only [if_pos hz]
    by_cases hh : (pb.length : Int) = n ∧ Go.Crc.crc 0 pb = c
    · rw [if_pos hh] at hx
      simp only [if_pos hh]
      subst hx
      exact ⟨fun _ => rfl, fun h => absurd rfl h⟩
    · rw [if_neg hh] at hx
      simp only [if_neg hh]
      subst hx
      exact ⟨fun h => absurd h (by decide), fun _ => ⟨_, _, rfl⟩⟩
  · rw [if_neg hz] at hx
    simp only [if_neg hz]
    exact hx.nilOr
end Go.Proofs.YtcenohaadggdiacDoor
