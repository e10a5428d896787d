/-
  Contract of the laws' longOps over this dump: every list of ops.
  Contract of the laws' ownOps over this dump.
  The walk of the law PatchParts over the contracts.
  The walk of the law PatchParts over the contracts, where the cut lies at the row's very end.
  The walk of the law PatchParts over the contracts, whole.
-/
import Derived.Test.YtcenohaadggdiadDoorJoin02
import Derived.Test.YtcenohaadggdiadDoorJoin04
import Derived.Test.YtcenohaadggdiadDoorJoin03
import Derived.Deep.DeepCutAuto
import Derived.Deep.RegionHeld3
namespace Go.Proofs.YtcenohaadggdiadDoor
open Go.RowKit
open Go.Delta (Opx)

/-- Is an op too long for a law? -/
def longO (o : Opx) : Bool := (decide (100 < o.data.size) && decide (o.data.size ≠ 4001)) || decide (20 < o.kind.size)
/-- Are ops too many, or one too long? -/
def longB (l : List Opx) : Bool := decide (40 < l.length) || l.any longO
theorem longB_false {l : List Opx} (h : longB l = false) : l.length ≤ 40 ∧ ∀ o ∈ l, (o.data.size ≤ 100 ∨ o.data.size = 4001) := by
  simp only [longB, Bool.or_eq_false_iff, decide_eq_false_iff_not, List.any_eq_false] at h
  refine ⟨by omega, fun o ho => ?_⟩
  have := h.2 o ho
  simp only [longO, Bool.or_eq_true, Bool.and_eq_true, decide_eq_true_eq] at this
  omega

set_option maxHeartbeats 2000000 in
set_option maxRecDepth 100000 in
theorem longOps_ok (v : Value) (l : List Opx) (w : World) (hv : ORow w v l) :
    Calls Tryd.prog 5 #[v] w fun r w' => r = .returned (.bool (longB l)) ∧ w' = w := by
  obtain ⟨a, c, rfl, hv⟩ := hv
  have HV := hide hv
  clear hv
  by_cases h40 : 40 < l.length
  · have h40' : (40 : Int) < l.length := by omega
    have HB : Hid (longB l = true) := by simp [Hid, longB, h40]
    go_enter Tryd.func5, Tryd.ntmps5
    go_wp2_with fail
    go_ret
    exact ⟨by rw [HB.out]; rfl, rfl⟩
  · have h40' : (l.length : Int) ≤ 40 := by omega
    have HB : Hid (longB l = l.any longO) := by simp only [Hid, longB]; rw [decide_eq_false (by omega)]; rfl
    have H0 : Hid ((l.drop 0).any longO = longB l) := by rw [List.drop_zero, HB.out]; exact rfl
    generalize longB l = B at *
    clear HB
    go_enter Tryd.func5, Tryd.ntmps5
    go_wp2_with fail
    go_loopw [3] (fun t3 wr => ∃ j : Nat, t3 = .int .i64 j ∧ j ≤ l.length ∧ Hid ((l.drop j).any longO = B) ∧ wr = w) (fun t3 _ => l.length - (intOf t3).toNat)
    case atStart => exact ⟨0, rfl, by omega, H0.out, rfl⟩
    case round =>
      clear H0
      obtain ⟨j, rfl, hj, HI, rfl⟩ := hrel
      by_cases hlt : j < l.length
      · have hlt' : (j : Int) < l.length := by omega
        obtain ⟨b, o, rfl, hc⟩ := HV.out (by omega)
        obtain ⟨d0, _, _, d3⟩ := hc j hlt
        have hI := HI.out
        rw [List.drop_eq_getElem_cons hlt, List.any_cons] at hI
        have HI' := hide hI
        clear hc HV HI hI
        generalize l[j] = op at *
        obtain ⟨k, at_, n, d⟩ := op
        simp only [longO] at d0 d3 HI'
        by_cases g1 : 100 < d.size
        · have c1 : decide ((100 : Int) < d.size) = true := by simp; omega
          by_cases g2 : d.size = 4001
          · have c2 : ((d.size : Int) != 4001) = false := by simp; omega
            by_cases g3 : 20 < k.size
            · have c3 : decide ((20 : Int) < k.size) = true := by simp; omega
              have hI := HI'.out
              rw [decide_eq_true g3, Bool.or_true, Bool.true_or] at hI
              subst hI
              clear g1 g2 g3 HI'
              go_wp2_with fail
              go_ret
              exact ⟨rfl, rfl⟩
            · have c3 : decide ((20 : Int) < k.size) = false := by simp; omega
              have hI := HI'.out
              rw [decide_eq_false g3, decide_eq_false (show ¬ d.size ≠ 4001 by omega), Bool.and_false, Bool.false_or, Bool.false_or] at hI
              have HI := hide hI
              clear g1 g2 g3 HI' hI
              go_wp2_with fail
              go_roundw
              case rel => exact ⟨j + 1, by go_num, by omega, HI.out, trivial⟩
              case measure => simp [intOf]; omega
          · have c2 : ((d.size : Int) != 4001) = true := by simp; omega
            have hI := HI'.out
            rw [decide_eq_true g1, decide_eq_true (show d.size ≠ 4001 from g2), Bool.and_true, Bool.true_or, Bool.true_or] at hI
            subst hI
            clear g1 g2 HI'
            go_wp2_with fail
            go_ret
            exact ⟨rfl, rfl⟩
        · have c1 : decide ((100 : Int) < d.size) = false := by simp; omega
          by_cases g3 : 20 < k.size
          · have c3 : decide ((20 : Int) < k.size) = true := by simp; omega
            have hI := HI'.out
            rw [decide_eq_true g3, Bool.or_true, Bool.true_or] at hI
            subst hI
            clear g1 g3 HI'
            go_wp2_with fail
            go_ret
            exact ⟨rfl, rfl⟩
          · have c3 : decide ((20 : Int) < k.size) = false := by simp; omega
            have hI := HI'.out
            rw [decide_eq_false g3, decide_eq_false g1, Bool.false_and, Bool.false_or, Bool.false_or] at hI
            have HI := hide hI
            clear g1 g3 HI' hI
            go_wp2_with fail
            go_roundw
            case rel => exact ⟨j + 1, by go_num, by omega, HI.out, trivial⟩
            case measure => simp [intOf]; omega
      · have hle : (l.length : Int) ≤ (j : Int) := by omega
        have hI := HI.out
        rw [List.drop_eq_nil_of_le (by omega), List.any_nil] at hI
        subst hI
        clear HI
        go_wp2_with fail
        go_ret
        exact ⟨rfl, rfl⟩
end Go.Proofs.YtcenohaadggdiadDoor

namespace Go.Proofs.YtcenohaadggdiadDoor
open Go.RowKit
open Go.Delta (Opx)

/-- Cells of a slice that reads as blocks, one by one. -/
theorem ORow.news {w : World} {a : Option Addr} {c : Nat} {l : List Opx} (h : ORow w (.slice a l.length c) l) (hp : 0 < l.length) : ∃ b o, a = some ⟨b, o, none⟩ ∧ ∀ j u, (ocs l)[j]? = some u → w.cell? ((⟨b, o, none⟩ : Addr).add j) = some u := by
  obtain ⟨a', c', e, h⟩ := h
  obtain ⟨b, o, rfl, hc⟩ := h hp
  have ea : a = some ⟨b, o, none⟩ := by simp at e; exact e.1
  refine ⟨b, o, ea, fun j u hu => ?_⟩
  rw [Go.WideShapes.add_plain]
  have hj : j < l.length * 4 := by
    have := (List.getElem?_eq_some_iff.1 hu).1
    rw [ocs_length] at this
    exact this
  have hd : j / 4 < l.length := by omega
  obtain ⟨g0, g1, g2, g3⟩ := ocs_get l (j / 4) hd
  obtain ⟨c0, c1, c2, c3⟩ := hc (j / 4) hd
  rcases (show j = j / 4 * 4 ∨ j = j / 4 * 4 + 1 ∨ j = j / 4 * 4 + 2 ∨ j = j / 4 * 4 + 3 by omega) with e | e | e | e
  · rw [← e] at g0
    rw [g0] at hu
    cases hu
    rw [← e] at c0
    exact c0
  · rw [← e] at g1
    rw [g1] at hu
    cases hu
    rw [Nat.add_assoc, ← e] at c1
    exact c1
  · rw [← e] at g2
    rw [g2] at hu
    cases hu
    rw [Nat.add_assoc, ← e] at c2
    exact c2
  · rw [← e] at g3
    rw [g3] at hu
    cases hu
    rw [Nat.add_assoc, ← e] at c3
    exact c3

set_option maxHeartbeats 1000000 in
set_option maxRecDepth 100000 in
theorem ownOps_ok (v : Value) (l : List Opx) (w : World) (hv : ORow w v l) (hl : l.length ≤ 1000) :
    Calls Tryd.prog 7 #[v] w fun r w' => ∃ u, r = .returned u ∧ ORow w' u l ∧ Below w.heap.size w w' := by
  obtain ⟨i0, hi, hz0, hz1, hz2⟩ := info_parts Tryd.info33
  have hv' := hv
  obtain ⟨a, c, rfl, _⟩ := hv'
  by_cases hp : 0 < l.length
  · obtain ⟨b, o, rfl, hn⟩ := hv.news hp
    have Hn := hide hn
    clear hn hv
    go_enter Tryd.func7, Tryd.ntmps7
    go_wp2_with (first | (at_builtin; refine wpList_append_own _ rfl (.tmp 4) (.tmp 5) 22 rfl w.heap.size 33 i0 (.agg #[.string ⟨#[]⟩, .int .i64 0, .int .i64 0, .string ⟨#[]⟩]) 4 48 Tryd.underlying22 hi hz0 hz1 hz2 rfl (by decide) (.slice none 0 0) 0 [] rfl ?own ⟨b, o, none⟩ l.length c (ocs l) rfl ?c0 ?c1 ?c2 ?b1 ?b2 ?b3 ?next))
    case own => exact World.ownsRow_nil _ _ _ _
    case c0 => exact ocs_length l
    case c1 => exact Hn.out
    case c2 => intro u hu; simp only [ocs, List.mem_flatMap, ocells] at hu; obtain ⟨x, _, hu⟩ := hu; simp at hu; rcases hu with rfl | rfl | rfl | rfl <;> rfl
    case b1 => unfold maxLen; omega
    case b2 => omega
    case b3 => exact Nat.le_refl _
    case next =>
      intro v5 w5 hown5 hgrow5 _
      have Hb5 := hide ((Below.refl w.heap.size w).grown hgrow5 (Nat.le_refl _) (fun k hk => by cases hk))
      have Hown5 := hide hown5
      clear hown5 hgrow5
      go_wp2_with fail
      go_ret
      refine ⟨_, rfl, ?_, Hb5.out⟩
      have h := Hown5.out
      exact ORow.of_own h
  · have hz : l = [] := by cases l with
      | nil => rfl
      | cons x r => simp at hp
    subst hz
    clear hv
    rename_i hrest
    clear hrest hp
    simp only [List.length_nil]
    cases a with
    | none =>
      go_enter Tryd.func7, Tryd.ntmps7
      go_wp2
      go_ret
      exact ⟨_, rfl, ⟨none, 0, rfl, fun h => by simp at h⟩, Below.refl _ _⟩
    | some ad =>
      go_enter Tryd.func7, Tryd.ntmps7
      go_wp2_with (first | (at_builtin; refine wpList_append_own _ rfl (.tmp 4) (.tmp 5) 22 rfl w.heap.size 33 i0 (.agg #[.string ⟨#[]⟩, .int .i64 0, .int .i64 0, .string ⟨#[]⟩]) 4 48 Tryd.underlying22 hi hz0 hz1 hz2 rfl (by decide) (.slice none 0 0) 0 [] rfl ?own ad 0 c [] rfl rfl ?c1 ?c2 ?b1 ?b2 ?b3 ?next))
      case own => exact World.ownsRow_nil _ _ _ _
      case c1 => intro j u hu; simp at hu
      case c2 => intro u hu; cases hu
      case b1 => unfold maxLen; omega
      case b2 => omega
      case b3 => exact Nat.le_refl _
      case next =>
        intro v5 w5 hown5 hgrow5 _
        have Hb5 := hide ((Below.refl w.heap.size w).grown hgrow5 (Nat.le_refl _) (fun k hk => by cases hk))
        have Hown5 := hide hown5
        clear hown5 hgrow5
        go_wp2_with fail
        go_ret
        exact ⟨_, rfl, ORow.of_own (l := []) Hown5.out, Hb5.out⟩
end Go.Proofs.YtcenohaadggdiadDoor

namespace Go.Proofs.YtcenohaadggdiadDoor
open Go.RowKit
open Go.Delta (Opx cost)

theorem patchOut_parts (old : List UInt8) (size : Int) (ops : List Opx) (k : Nat) (h : (patchOut old size ops).2.1 = 0) :
    (patchOut old size (ops.take k)).2.1 = 0 ∧ (patchOut old size (ops.drop k)).2.1 = 0 ∧ (patchOut old size (ops.take k)).1 ++ (patchOut old size (ops.drop k)).1 = (patchOut old size ops).1 ∧ cost ops ≤ (patchOut old size ops).1.length := by
  unfold patchOut at h ⊢
  by_cases h1 : 1 ≤ size ∧ size ≤ 64 ∧ old.length ≤ 4000
  · simp only [if_pos h1] at h ⊢
    by_cases h2 : (Go.Delta.faultO ops).1 = 0
    · simp only [if_pos h2] at h ⊢
      have hw := Go.Delta.faultO_zero h2
      have ht : (Go.Delta.faultO (ops.take k)).1 = 0 := by rw [Go.Delta.faultO_of fun o ho => hw o (List.mem_of_mem_take ho)]
      have hd : (Go.Delta.faultO (ops.drop k)).1 = 0 := by rw [Go.Delta.faultO_of fun o ho => hw o (List.mem_of_mem_drop ho)]
      simp only [if_pos ht, if_pos hd]
      cases hp : patchL old size.toNat ops 0 [] with
      | error e =>
        rw [hp] at h
        have hc := (patchL_code _ _ _ _ _ _ _ hp).1
        simp only at h
        omega
      | ok all =>
        have hp' := hp
        rw [← List.take_append_drop k ops] at hp'
        obtain ⟨x, y, e1, e2, e3⟩ := patchL_parts _ _ _ _ _ hp'
        have hcost := patchL_cost _ _ _ _ _ _ hw hp
        rw [e1, e2]
        simp only [List.length_nil] at hcost ⊢
        exact ⟨trivial, trivial, e3, by omega⟩
    · simp only [if_neg h2] at h
      exact absurd h h2
  · simp only [if_neg h1] at h
    omega

set_option maxHeartbeats 2000000 in
set_option maxRecDepth 100000 in
theorem pparts_early (old : ByteArray) (size : Int) (oa : Option Addr) (oc : Nat) (ops : List Opx) (cut : Int) (Env : World → Prop) (w : World) (hS : Env w) (hEB : ∀ w w', Env w → Below w.heap.size w w' → Env w') (hP : ApplyAll Env) (hO : ORow w (.slice oa ops.length oc) ops)
    (h : 200 < old.size ∨ longB ops = true ∨ cut < 0 ∨ (ops.length : Int) < cut) :
    Calls Tryd.prog 3 #[.string old, .int .i64 size, .slice oa ops.length oc, .int .i64 cut] w fun r w' => r = .returned (.bool true) ∧ Below w.heap.size w w' := by
  have HM := hide (patched_ok Env w hS hEB hP)
  have HEB := hide hEB
  have HO := hide hO
  have H := hide h
  clear h hO hS hP hEB HEB
  go_enter Tryd.func3, Tryd.ntmps3
  go_wp2_with fail
  refine HM.out.mono ?_
  rintro r w1 ⟨rfl, hb1⟩
  have Hb1 := hide hb1
  have HL := hide (longOps_ok (.slice oa ops.length oc) ops w1 (HO.out.below hb1))
  clear hb1 HM HO
  go_upto_region 2 with fail
  go_cut [37] (fun v37 wc => v37 = .bool true ∧ wc = w1)
  case first =>
    by_cases e2 : 200 < old.size
    · have c2 : decide ((200 : Int) < old.size) = true := by simp; omega
      clear e2 H HL
      go_wp2_with fail
      go_meet
      case rel => exact ⟨rfl, rfl⟩
    · have c2 : decide ((200 : Int) < old.size) = false := by simp; omega
      by_cases e4 : longB ops = true
      · rw [e4] at HL
        clear e2 e4 H
        go_wp2_with fail
        refine HL.out.mono ?_
        rintro r w2 ⟨rfl, rfl⟩
        go_wp2_with fail
        go_meet
        case rel => exact ⟨rfl, rfl⟩
      · have e4' : longB ops = false := by simpa using e4
        rw [e4'] at HL
        have h3 : cut < 0 ∨ (ops.length : Int) < cut := H.out.elim (fun h => absurd h e2) fun h => h.elim (fun h => absurd h e4) id
        clear e2 e4 e4' H
        by_cases e5 : cut < 0
        · have c5 : decide (cut < 0) = true := by simp; omega
          clear h3 e5
          go_wp2_with fail
          refine HL.out.mono ?_
          rintro r w2 ⟨rfl, rfl⟩
          go_wp2_with fail
          go_meet
          case rel => exact ⟨rfl, rfl⟩
        · have c5 : decide (cut < 0) = false := by simp; omega
          have c6 : decide ((ops.length : Int) < cut) = true := by simp; omega
          clear h3 e5
          go_wp2_with fail
          refine HL.out.mono ?_
          rintro r w2 ⟨rfl, rfl⟩
          go_wp2_with fail
          go_meet
          case rel => exact ⟨rfl, rfl⟩
  case rest =>
    obtain ⟨rfl, rfl⟩ := hcut
    go_wp2
    go_ret
    exact ⟨rfl, Hb1.out⟩

/-- A part of ops that lie in a row. -/
theorem orow_take {w : World} {ad : Addr} {oc : Nat} {l : List Opx} (h : ORow w (.slice (some ad) l.length oc) l) (k : Nat) (hk : k ≤ l.length) (c : Nat) : ORow w (.slice (some ad) k c) (l.take k) := by
  obtain ⟨a', c', e, hc⟩ := h
  simp only [Value.slice.injEq] at e
  obtain ⟨rfl, _, _⟩ := e
  have hl : (l.take k).length = k := by rw [List.length_take]; omega
  refine ⟨some ad, c, by rw [hl], fun hp => ?_⟩
  obtain ⟨b, o, he, h'⟩ := hc (by omega)
  refine ⟨b, o, he, fun j hj => ?_⟩
  have hj' : j < l.length := by omega
  rw [List.getElem_take]
  exact h' j hj'
theorem orow_drop {w : World} {ad : Addr} {oc : Nat} {l : List Opx} (h : ORow w (.slice (some ad) l.length oc) l) (k : Nat) (hk : k ≤ l.length) (c : Nat) : ORow w (.slice (some (ad.add (k * 4))) (l.length - k) c) (l.drop k) := by
  obtain ⟨a', c', e, hc⟩ := h
  simp only [Value.slice.injEq] at e
  obtain ⟨rfl, _, _⟩ := e
  have hl : (l.drop k).length = l.length - k := List.length_drop
  refine ⟨some (ad.add (k * 4)), c, by rw [hl], fun hp => ?_⟩
  obtain ⟨b, o, he, h'⟩ := hc (by omega)
  cases he
  refine ⟨b, o + k * 4, by rw [Go.WideShapes.add_plain], fun j hj => ?_⟩
  have hj' : k + j < l.length := by omega
  rw [List.getElem_drop]
  have := h' (k + j) hj'
  rw [show o + (k + j) * 4 = o + k * 4 + j * 4 by omega] at this
  exact this

theorem orow_gone {w : World} {ad : Addr} {l : List Opx} {k : Nat} (h : l.length ≤ k) (c : Nat) : ORow w (.slice (some ad) 0 c) (l.drop k) := by
  have e : l.drop k = [] := List.drop_eq_nil_of_le h
  rw [e]
  exact ⟨some ad, c, rfl, fun hp => by simp at hp⟩

set_option maxHeartbeats 4000000 in
set_option maxRecDepth 100000 in
theorem pparts_main (old : ByteArray) (size : Int) (ad : Addr) (oc : Nat) (ops : List Opx) (k : Nat) (Env : World → Prop) (w : World) (hS : Env w) (hEB : ∀ w w', Env w → Below w.heap.size w w' → Env w') (hP : ApplyAll Env) (hO : ORow w (.slice (some ad) ops.length oc) ops)
    (hs : old.size ≤ 200) (hop : longB ops = false) (hk : k ≤ ops.length) (hcap : ops.length ≤ oc) (hko : k < oc) :
    Calls Tryd.prog 3 #[.string old, .int .i64 size, .slice (some ad) ops.length oc, .int .i64 k] w fun r w' => r = .returned (.bool true) ∧ Below w.heap.size w w' := by
  have HM := hide (patched_ok Env w hS hEB hP)
  have HEB := hide hEB
  have HO := hide hO
  have HE := hide hS
  obtain ⟨hn40, hdat⟩ := longB_false hop
  have Hsh : Hid (∀ o ∈ ops, o.data.size ≤ 1000000) := fun o ho => by have := hdat o ho; omega
  have HA := hide (hP old size ops (by omega) Hsh.out)
  unfold ApplyEnv at HA
  have hlen := patchOut_len old.data.toList size ops
  have HBad := hide (patchOut_bad old.data.toList size ops)
  have HPt := hide (patchOut_parts old.data.toList size ops k)
  have HL0 := hide hop
  have HA1 := hide (hP old size (ops.take k) (by rw [List.length_take]; omega) (fun o ho => Hsh.out o (List.mem_of_mem_take ho)))
  have HA2 := hide (hP old size (ops.drop k) (by rw [List.length_drop]; omega) (fun o ho => Hsh.out o (List.mem_of_mem_drop ho)))
  unfold ApplyEnv at HA1 HA2
  have hlen1 := patchOut_len old.data.toList size (ops.take k)
  have hlen2 := patchOut_len old.data.toList size (ops.drop k)
  have hk' : (k : Int) ≤ ops.length := by omega
  have hc' : (ops.length : Int) ≤ oc := by omega
  have hko' : (k : Int) < oc := by omega
  have hoz : oc - k ≠ 0 := by omega
  have hn' : (ops.length : Int) ≤ 40 := by omega
  clear hS hO hP hdat hop hEB
  go_enter Tryd.func3, Tryd.ntmps3
  go_wp2_with fail
  refine HM.out.mono ?_
  rintro r w1 ⟨rfl, hb1⟩
  have Hb1 := hide hb1
  have HL := hide (longOps_ok (.slice (some ad) ops.length oc) ops w1 (HO.out.below hb1))
  rw [HL0.out] at HL
  have c2 : decide ((200 : Int) < old.size) = false := by simp; omega
  have c5 : decide ((k : Int) < 0) = false := by simp
  have c6 : decide ((ops.length : Int) < (k : Int)) = false := by simp; omega
  clear hb1 HM HL0
  go_wp2_with fail
  refine HL.out.mono ?_
  rintro r w2 ⟨rfl, rfl⟩
  go_wp2_with fail
  refine (ownOps_ok _ ops _ (HO.out.below Hb1.out) (by omega)).mono ?_
  rintro r w2 ⟨u, rfl, hu2, hb2⟩
  have Hu2 := hide hu2
  obtain ⟨au, cu, rfl, _⟩ := hu2
  have Hb2 := hide (bthen Hb1.out hb2)
  clear hb2 Hb1 HL
  go_wp2_with fail
  refine (HA.out _ _ Hu2.out (HEB.out _ _ HE.out Hb2.out)).mono ?_
  rintro r w3 ⟨⟨x3, rfl, hx3⟩, hb3⟩
  have Hb3 := hide (bthen Hb2.out hb3)
  by_cases hpc : (patchOut old.data.toList size ops).2.1 = 0
  · have hx := hx3.none hpc
    subst hx
    clear hb3 hx3 Hb2 Hu2 HA
    obtain ⟨hp1, hp2, hcat, hcost⟩ := HPt.out hpc
    have Hcat : Hid (str (patchOut old.data.toList size (ops.take k)).1 ++ str (patchOut old.data.toList size (ops.drop k)).1 = str (patchOut old.data.toList size ops).1) := by rw [str_app, hcat]; exact rfl
    have hsum : cost (ops.take k) + cost (ops.drop k) = cost ops := by rw [← Go.Delta.cost_append, List.take_append_drop]
    have hA : (str (patchOut old.data.toList size (ops.take k)).1).size ≤ 4000 := by rw [str_len]; exact hlen1
    have hB : (str (patchOut old.data.toList size (ops.drop k)).1).size ≤ 4000 := by rw [str_len]; exact hlen2
    have hle : cost ops ≤ (str (patchOut old.data.toList size ops).1).size := by rw [str_len]; exact hcost
    have hPs : (str (patchOut old.data.toList size ops).1).size ≤ 4000 := by rw [str_len]; exact hlen
    have HC1 := hide (fun v W (x : ORow W v (ops.take k)) => cost_ok v _ W x (by rw [List.length_take]; omega) (fun o ho => Hsh.out o (List.mem_of_mem_take ho)))
    have HC2 := hide (fun v W (x : ORow W v (ops.drop k)) => cost_ok v _ W x (by rw [List.length_drop]; omega) (fun o ho => Hsh.out o (List.mem_of_mem_drop ho)))
    have HC0 := hide (fun v W (x : ORow W v ops) => cost_ok v _ W x (by omega) Hsh.out)
    rw [hp1] at HA1
    rw [hp2] at HA2
    generalize str (patchOut old.data.toList size (ops.take k)).1 = A at *
    generalize str (patchOut old.data.toList size (ops.drop k)).1 = B at *
    generalize str (patchOut old.data.toList size ops).1 = P at *
    have p1 := fun W => run_string_add_sum (P := Tryd.prog) W A B (by omega)
    rw [Hcat.out] at p1
    have hw1 : IntKind.i64.wrap ((cost (ops.take k) : Int) + (cost (ops.drop k) : Int)) = (cost ops : Int) := by rw [iwrap_id _ (by omega) (by omega)]; omega
    have hle' : (cost ops : Int) ≤ P.size := by omega
    clear hcat hcost hsum hlen hlen1 hlen2 hp1 hp2 HPt HBad hpc
    generalize cost (ops.take k) = n1 at *
    generalize cost (ops.drop k) = n2 at *
    generalize cost ops = n0 at *
    have HOT := hide (fun W (h : Below w.heap.size w W) c => orow_take (HO.out.below h) k hk c)
    have HOU := hide (fun W (h : Below w.heap.size w W) c => orow_drop (HO.out.below h) k hk c)
    have hlT : (ops.take k).length ≤ 1000 := by rw [List.length_take]; omega
    have hlU : (ops.drop k).length ≤ 1000 := by rw [List.length_drop]; omega
    generalize ops.take k = T at *
    generalize ops.drop k = U at *
    go_wp2_with fail
    refine (ownOps_ok _ T _ (HOT.out _ Hb3.out _) hlT).mono ?_
    rintro r w4 ⟨u4, rfl, hu4, hb4⟩
    have Hu4 := hide hu4
    obtain ⟨au4, cu4, rfl, _⟩ := hu4
    have Hb4 := hide (bthen Hb3.out hb4)
    clear hb4 Hb3
    go_wp2_with fail
    refine (HA1.out _ _ Hu4.out (HEB.out _ _ HE.out Hb4.out)).mono ?_
    rintro r w5 ⟨⟨x5, rfl, hx5⟩, hb5⟩
    have hx := hx5.none rfl
    subst hx
    have Hb5 := hide (bthen Hb4.out hb5)
    clear hb5 hx5 Hb4 Hu4 HA1
    go_wp2_with fail
    refine (ownOps_ok _ U _ (HOU.out _ Hb5.out _) hlU).mono ?_
    rintro r w6 ⟨u6, rfl, hu6, hb6⟩
    have Hu6 := hide hu6
    obtain ⟨au6, cu6, rfl, _⟩ := hu6
    have Hb6 := hide (bthen Hb5.out hb6)
    clear hb6 Hb5
    go_wp2_with fail
    refine (HA2.out _ _ Hu6.out (HEB.out _ _ HE.out Hb6.out)).mono ?_
    rintro r w7 ⟨⟨x7, rfl, hx7⟩, hb7⟩
    have hx := hx7.none rfl
    subst hx
    have Hb7 := hide (bthen Hb6.out hb7)
    clear hb7 hx7 Hb6 Hu6 HA2
    have Hdr : Hid (Below w.heap.size w w7.drew) := Hb7.out.drew
    go_wp2_with fail
    have hk0 : (0 : Int) ≤ (k : Int) := by omega
    have hkc : (k : Int) ≤ (oc : Int) := by omega
    go_region_held3 (fun w' => Hid (Below w.heap.size w w')) (first | exact Hb15 | exact Hb14 | exact Hb13 | exact Hb12 | exact Hb11 | exact Hb10 | exact Hb9 | exact Hb8 | exact Hdr)
      (first
        | (go_at_call 8; refine (HC0.out _ _ Hu14.out).mono ?_; rintro r w15 ⟨rfl, hb15⟩; have Hb15 := hide (bthen Hb14.out hb15); clear hb15)
        | (go_at_call 7; refine (ownOps_ok _ ops _ (HO.out.below Hb13.out) (by omega)).mono ?_; rintro r w14 ⟨u14, rfl, hu14, hb14⟩; have Hu14 := hide hu14; obtain ⟨au14, cu14, rfl, _⟩ := hu14; have Hb14 := hide (bthen Hb13.out hb14); clear hb14)
        | (go_at_call 8; refine (HC0.out _ _ Hu12.out).mono ?_; rintro r w13 ⟨rfl, hb13⟩; have Hb13 := hide (bthen Hb12.out hb13); clear hb13)
        | (go_at_call 7; refine (ownOps_ok _ ops _ (HO.out.below Hb11.out) (by omega)).mono ?_; rintro r w12 ⟨u12, rfl, hu12, hb12⟩; have Hu12 := hide hu12; obtain ⟨au12, cu12, rfl, _⟩ := hu12; have Hb12 := hide (bthen Hb11.out hb12); clear hb12)
        | (go_at_call 8; refine (HC2.out _ _ Hu10.out).mono ?_; rintro r w11 ⟨rfl, hb11⟩; have Hb11 := hide (bthen Hb10.out hb11); clear hb11)
        | (go_at_call 7; refine (ownOps_ok _ U _ (HOU.out _ Hb9.out _) hlU).mono ?_; rintro r w10 ⟨u10, rfl, hu10, hb10⟩; have Hu10 := hide hu10; obtain ⟨au10, cu10, rfl, _⟩ := hu10; have Hb10 := hide (bthen Hb9.out hb10); clear hb10)
        | (go_at_call 8; refine (HC1.out _ _ Hu8.out).mono ?_; rintro r w9 ⟨rfl, hb9⟩; have Hb9 := hide (bthen Hb8.out hb9); clear hb9)
        | (go_at_call 7; refine (ownOps_ok _ T _ (HOT.out _ Hdr.out _) hlT).mono ?_; rintro r w8 ⟨u8, rfl, hu8, hb8⟩; have Hu8 := hide hu8; obtain ⟨au8, cu8, rfl, _⟩ := hu8; have Hb8 := hide (bthen Hdr.out hb8); clear hb8))
    all_goals
      go_wp2_with fail
      go_ret
      exact ⟨rfl, Hb15.out⟩
  · obtain ⟨t, y, rfl⟩ := hx3.some hpc
    rw [HBad.out hpc, show str [] = ⟨#[]⟩ from rfl]
    clear hb3 hx3 Hb2 Hu2 HA
    go_wp2
    go_ret
    exact ⟨rfl, Hb3.out⟩
end Go.Proofs.YtcenohaadggdiadDoor

namespace Go.Proofs.YtcenohaadggdiadDoor
open Go.RowKit
open Go.Delta (Opx cost)

set_option maxHeartbeats 4000000 in
set_option maxRecDepth 100000 in
theorem pparts_full (old : ByteArray) (size : Int) (ad : Addr) (ops : List Opx) (k : Nat) (Env : World → Prop) (w : World) (hS : Env w) (hEB : ∀ w w', Env w → Below w.heap.size w w' → Env w') (hP : ApplyAll Env) (hO : ORow w (.slice (some ad) ops.length k) ops)
    (hs : old.size ≤ 200) (hop : longB ops = false) (hk : k ≤ ops.length) (hcap : ops.length ≤ k) :
    Calls Tryd.prog 3 #[.string old, .int .i64 size, .slice (some ad) ops.length k, .int .i64 k] w fun r w' => r = .returned (.bool true) ∧ Below w.heap.size w w' := by
  have HM := hide (patched_ok Env w hS hEB hP)
  have HEB := hide hEB
  have HO := hide hO
  have HE := hide hS
  obtain ⟨hn40, hdat⟩ := longB_false hop
  have Hsh : Hid (∀ o ∈ ops, o.data.size ≤ 1000000) := fun o ho => by have := hdat o ho; omega
  have HA := hide (hP old size ops (by omega) Hsh.out)
  unfold ApplyEnv at HA
  have hlen := patchOut_len old.data.toList size ops
  have HBad := hide (patchOut_bad old.data.toList size ops)
  have HPt := hide (patchOut_parts old.data.toList size ops k)
  have HL0 := hide hop
  have HA1 := hide (hP old size (ops.take k) (by rw [List.length_take]; omega) (fun o ho => Hsh.out o (List.mem_of_mem_take ho)))
  have HA2 := hide (hP old size (ops.drop k) (by rw [List.length_drop]; omega) (fun o ho => Hsh.out o (List.mem_of_mem_drop ho)))
  unfold ApplyEnv at HA1 HA2
  have hlen1 := patchOut_len old.data.toList size (ops.take k)
  have hlen2 := patchOut_len old.data.toList size (ops.drop k)
  have hk' : (k : Int) ≤ ops.length := by omega
  have hc' : (ops.length : Int) ≤ k := by omega
  have hn' : (ops.length : Int) ≤ 40 := by omega
  clear hS hO hP hdat hop hEB
  go_enter Tryd.func3, Tryd.ntmps3
  go_wp2_with fail
  refine HM.out.mono ?_
  rintro r w1 ⟨rfl, hb1⟩
  have Hb1 := hide hb1
  have HL := hide (longOps_ok (.slice (some ad) ops.length k) ops w1 (HO.out.below hb1))
  rw [HL0.out] at HL
  have c2 : decide ((200 : Int) < old.size) = false := by simp; omega
  have c5 : decide ((k : Int) < 0) = false := by simp
  have c6 : decide ((ops.length : Int) < (k : Int)) = false := by simp; omega
  clear hb1 HM HL0
  go_wp2_with fail
  refine HL.out.mono ?_
  rintro r w2 ⟨rfl, rfl⟩
  go_wp2_with fail
  refine (ownOps_ok _ ops _ (HO.out.below Hb1.out) (by omega)).mono ?_
  rintro r w2 ⟨u, rfl, hu2, hb2⟩
  have Hu2 := hide hu2
  obtain ⟨au, cu, rfl, _⟩ := hu2
  have Hb2 := hide (bthen Hb1.out hb2)
  clear hb2 Hb1 HL
  go_wp2_with fail
  refine (HA.out _ _ Hu2.out (HEB.out _ _ HE.out Hb2.out)).mono ?_
  rintro r w3 ⟨⟨x3, rfl, hx3⟩, hb3⟩
  have Hb3 := hide (bthen Hb2.out hb3)
  by_cases hpc : (patchOut old.data.toList size ops).2.1 = 0
  · have hx := hx3.none hpc
    subst hx
    clear hb3 hx3 Hb2 Hu2 HA
    obtain ⟨hp1, hp2, hcat, hcost⟩ := HPt.out hpc
    have Hcat : Hid (str (patchOut old.data.toList size (ops.take k)).1 ++ str (patchOut old.data.toList size (ops.drop k)).1 = str (patchOut old.data.toList size ops).1) := by rw [str_app, hcat]; exact rfl
    have hsum : cost (ops.take k) + cost (ops.drop k) = cost ops := by rw [← Go.Delta.cost_append, List.take_append_drop]
    have hA : (str (patchOut old.data.toList size (ops.take k)).1).size ≤ 4000 := by rw [str_len]; exact hlen1
    have hB : (str (patchOut old.data.toList size (ops.drop k)).1).size ≤ 4000 := by rw [str_len]; exact hlen2
    have hle : cost ops ≤ (str (patchOut old.data.toList size ops).1).size := by rw [str_len]; exact hcost
    have hPs : (str (patchOut old.data.toList size ops).1).size ≤ 4000 := by rw [str_len]; exact hlen
    have HC1 := hide (fun v W (x : ORow W v (ops.take k)) => cost_ok v _ W x (by rw [List.length_take]; omega) (fun o ho => Hsh.out o (List.mem_of_mem_take ho)))
    have HC2 := hide (fun v W (x : ORow W v (ops.drop k)) => cost_ok v _ W x (by rw [List.length_drop]; omega) (fun o ho => Hsh.out o (List.mem_of_mem_drop ho)))
    have HC0 := hide (fun v W (x : ORow W v ops) => cost_ok v _ W x (by omega) Hsh.out)
    rw [hp1] at HA1
    rw [hp2] at HA2
    generalize str (patchOut old.data.toList size (ops.take k)).1 = A at *
    generalize str (patchOut old.data.toList size (ops.drop k)).1 = B at *
    generalize str (patchOut old.data.toList size ops).1 = P at *
    have p1 := fun W => run_string_add_sum (P := Tryd.prog) W A B (by omega)
    rw [Hcat.out] at p1
    have hw1 : IntKind.i64.wrap ((cost (ops.take k) : Int) + (cost (ops.drop k) : Int)) = (cost ops : Int) := by rw [iwrap_id _ (by omega) (by omega)]; omega
    have hle' : (cost ops : Int) ≤ P.size := by omega
    clear hcat hcost hsum hlen hlen1 hlen2 hp1 hp2 HPt HBad hpc
    generalize cost (ops.take k) = n1 at *
    generalize cost (ops.drop k) = n2 at *
    generalize cost ops = n0 at *
    have HOT := hide (fun W (h : Below w.heap.size w W) c => orow_take (HO.out.below h) k hk c)
    have HOU := hide (fun W (_ : Below w.heap.size w W) c => orow_gone (w := W) (ad := ad) (l := ops) (k := k) (by omega) c)
    have hlT : (ops.take k).length ≤ 1000 := by rw [List.length_take]; omega
    have hlU : (ops.drop k).length ≤ 1000 := by rw [List.length_drop]; omega
    generalize ops.take k = T at *
    generalize ops.drop k = U at *
    go_wp2_with fail
    refine (ownOps_ok _ T _ (HOT.out _ Hb3.out _) hlT).mono ?_
    rintro r w4 ⟨u4, rfl, hu4, hb4⟩
    have Hu4 := hide hu4
    obtain ⟨au4, cu4, rfl, _⟩ := hu4
    have Hb4 := hide (bthen Hb3.out hb4)
    clear hb4 Hb3
    go_wp2_with fail
    refine (HA1.out _ _ Hu4.out (HEB.out _ _ HE.out Hb4.out)).mono ?_
    rintro r w5 ⟨⟨x5, rfl, hx5⟩, hb5⟩
    have hx := hx5.none rfl
    subst hx
    have Hb5 := hide (bthen Hb4.out hb5)
    clear hb5 hx5 Hb4 Hu4 HA1
    go_wp2_with fail
    refine (ownOps_ok _ U _ (HOU.out _ Hb5.out _) hlU).mono ?_
    rintro r w6 ⟨u6, rfl, hu6, hb6⟩
    have Hu6 := hide hu6
    obtain ⟨au6, cu6, rfl, _⟩ := hu6
    have Hb6 := hide (bthen Hb5.out hb6)
    clear hb6 Hb5
    go_wp2_with fail
    refine (HA2.out _ _ Hu6.out (HEB.out _ _ HE.out Hb6.out)).mono ?_
    rintro r w7 ⟨⟨x7, rfl, hx7⟩, hb7⟩
    have hx := hx7.none rfl
    subst hx
    have Hb7 := hide (bthen Hb6.out hb7)
    clear hb7 hx7 Hb6 Hu6 HA2
    have Hdr : Hid (Below w.heap.size w w7.drew) := Hb7.out.drew
    go_wp2_with fail
    have hk0 : (0 : Int) ≤ (k : Int) := by omega
    have hkc : (k : Int) ≤ (k : Int) := by omega
    go_region_held3 (fun w' => Hid (Below w.heap.size w w')) (first | exact Hb15 | exact Hb14 | exact Hb13 | exact Hb12 | exact Hb11 | exact Hb10 | exact Hb9 | exact Hb8 | exact Hdr)
      (first
        | (go_at_call 8; refine (HC0.out _ _ Hu14.out).mono ?_; rintro r w15 ⟨rfl, hb15⟩; have Hb15 := hide (bthen Hb14.out hb15); clear hb15)
        | (go_at_call 7; refine (ownOps_ok _ ops _ (HO.out.below Hb13.out) (by omega)).mono ?_; rintro r w14 ⟨u14, rfl, hu14, hb14⟩; have Hu14 := hide hu14; obtain ⟨au14, cu14, rfl, _⟩ := hu14; have Hb14 := hide (bthen Hb13.out hb14); clear hb14)
        | (go_at_call 8; refine (HC0.out _ _ Hu12.out).mono ?_; rintro r w13 ⟨rfl, hb13⟩; have Hb13 := hide (bthen Hb12.out hb13); clear hb13)
        | (go_at_call 7; refine (ownOps_ok _ ops _ (HO.out.below Hb11.out) (by omega)).mono ?_; rintro r w12 ⟨u12, rfl, hu12, hb12⟩; have Hu12 := hide hu12; obtain ⟨au12, cu12, rfl, _⟩ := hu12; have Hb12 := hide (bthen Hb11.out hb12); clear hb12)
        | (go_at_call 8; refine (HC2.out _ _ Hu10.out).mono ?_; rintro r w11 ⟨rfl, hb11⟩; have Hb11 := hide (bthen Hb10.out hb11); clear hb11)
        | (go_at_call 7; refine (ownOps_ok _ U _ (HOU.out _ Hb9.out _) hlU).mono ?_; rintro r w10 ⟨u10, rfl, hu10, hb10⟩; have Hu10 := hide hu10; obtain ⟨au10, cu10, rfl, _⟩ := hu10; have Hb10 := hide (bthen Hb9.out hb10); clear hb10)
        | (go_at_call 8; refine (HC1.out _ _ Hu8.out).mono ?_; rintro r w9 ⟨rfl, hb9⟩; have Hb9 := hide (bthen Hb8.out hb9); clear hb9)
        | (go_at_call 7; refine (ownOps_ok _ T _ (HOT.out _ Hdr.out _) hlT).mono ?_; rintro r w8 ⟨u8, rfl, hu8, hb8⟩; have Hu8 := hide hu8; obtain ⟨au8, cu8, rfl, _⟩ := hu8; have Hb8 := hide (bthen Hdr.out hb8); clear hb8))
    all_goals
      go_wp2_with fail
      go_ret
      exact ⟨rfl, Hb15.out⟩
  · obtain ⟨t, y, rfl⟩ := hx3.some hpc
    rw [HBad.out hpc, show str [] = ⟨#[]⟩ from rfl]
    clear hb3 hx3 Hb2 Hu2 HA
    go_wp2
    go_ret
    exact ⟨rfl, Hb3.out⟩
end Go.Proofs.YtcenohaadggdiadDoor

namespace Go.Proofs.YtcenohaadggdiadDoor
open Go.RowKit
open Go.Delta (Opx cost)

set_option maxHeartbeats 4000000 in
set_option maxRecDepth 100000 in
theorem pparts_nil (old : ByteArray) (size : Int) (ops : List Opx) (k : Nat) (Env : World → Prop) (w : World) (hS : Env w) (hEB : ∀ w w', Env w → Below w.heap.size w w' → Env w') (hP : ApplyAll Env) (hO0 : ops = [])
    (hs : old.size ≤ 200) (hop : longB ops = false) (hk : k = 0) :
    Calls Tryd.prog 3 #[.string old, .int .i64 size, .slice none 0 0, .int .i64 0] w fun r w' => r = .returned (.bool true) ∧ Below w.heap.size w w' := by
  have HM := hide (patched_ok Env w hS hEB hP)
  have HEB := hide hEB
  have HN : Hid (∀ W, ORow W (.slice none 0 0) ops) := fun W => by rw [hO0]; exact ORow.nil W
  have HNT : Hid (∀ W, ORow W (.slice none 0 0) (ops.take k)) := fun W => by rw [hO0, List.take_nil]; exact ORow.nil W
  have HNU : Hid (∀ W, ORow W (.slice none 0 0) (ops.drop k)) := fun W => by rw [hO0, List.drop_nil]; exact ORow.nil W
  have HE := hide hS
  obtain ⟨hn40, hdat⟩ := longB_false hop
  have Hsh : Hid (∀ o ∈ ops, o.data.size ≤ 1000000) := fun o ho => by have := hdat o ho; omega
  have HA := hide (hP old size ops (by omega) Hsh.out)
  unfold ApplyEnv at HA
  have hlen := patchOut_len old.data.toList size ops
  have HBad := hide (patchOut_bad old.data.toList size ops)
  have HPt := hide (patchOut_parts old.data.toList size ops k)
  have HL0 := hide hop
  have HA1 := hide (hP old size (ops.take k) (by rw [List.length_take]; omega) (fun o ho => Hsh.out o (List.mem_of_mem_take ho)))
  have HA2 := hide (hP old size (ops.drop k) (by rw [List.length_drop]; omega) (fun o ho => Hsh.out o (List.mem_of_mem_drop ho)))
  unfold ApplyEnv at HA1 HA2
  have hlen1 := patchOut_len old.data.toList size (ops.take k)
  have hlen2 := patchOut_len old.data.toList size (ops.drop k)
  clear hS hO0 hP hdat hop hEB
  go_enter Tryd.func3, Tryd.ntmps3
  go_wp2_with fail
  refine HM.out.mono ?_
  rintro r w1 ⟨rfl, hb1⟩
  have Hb1 := hide hb1
  have HL := hide (longOps_ok (.slice none 0 0) ops w1 (HN.out w1))
  rw [HL0.out] at HL
  have c2 : decide ((200 : Int) < old.size) = false := by simp; omega
  clear hb1 HM HL0
  go_wp2_with fail
  refine HL.out.mono ?_
  rintro r w2 ⟨rfl, rfl⟩
  go_wp2_with fail
  refine (ownOps_ok _ ops _ (HN.out _) (by omega)).mono ?_
  rintro r w2 ⟨u, rfl, hu2, hb2⟩
  have Hu2 := hide hu2
  obtain ⟨au, cu, rfl, _⟩ := hu2
  have Hb2 := hide (bthen Hb1.out hb2)
  clear hb2 Hb1 HL
  go_wp2_with fail
  refine (HA.out _ _ Hu2.out (HEB.out _ _ HE.out Hb2.out)).mono ?_
  rintro r w3 ⟨⟨x3, rfl, hx3⟩, hb3⟩
  have Hb3 := hide (bthen Hb2.out hb3)
  by_cases hpc : (patchOut old.data.toList size ops).2.1 = 0
  · have hx := hx3.none hpc
    subst hx
    clear hb3 hx3 Hb2 Hu2 HA
    obtain ⟨hp1, hp2, hcat, hcost⟩ := HPt.out hpc
    have Hcat : Hid (str (patchOut old.data.toList size (ops.take k)).1 ++ str (patchOut old.data.toList size (ops.drop k)).1 = str (patchOut old.data.toList size ops).1) := by rw [str_app, hcat]; exact rfl
    have hsum : cost (ops.take k) + cost (ops.drop k) = cost ops := by rw [← Go.Delta.cost_append, List.take_append_drop]
    have hA : (str (patchOut old.data.toList size (ops.take k)).1).size ≤ 4000 := by rw [str_len]; exact hlen1
    have hB : (str (patchOut old.data.toList size (ops.drop k)).1).size ≤ 4000 := by rw [str_len]; exact hlen2
    have hle : cost ops ≤ (str (patchOut old.data.toList size ops).1).size := by rw [str_len]; exact hcost
    have hPs : (str (patchOut old.data.toList size ops).1).size ≤ 4000 := by rw [str_len]; exact hlen
    have HC1 := hide (fun v W (x : ORow W v (ops.take k)) => cost_ok v _ W x (by rw [List.length_take]; omega) (fun o ho => Hsh.out o (List.mem_of_mem_take ho)))
    have HC2 := hide (fun v W (x : ORow W v (ops.drop k)) => cost_ok v _ W x (by rw [List.length_drop]; omega) (fun o ho => Hsh.out o (List.mem_of_mem_drop ho)))
    have HC0 := hide (fun v W (x : ORow W v ops) => cost_ok v _ W x (by omega) Hsh.out)
    rw [hp1] at HA1
    rw [hp2] at HA2
    generalize str (patchOut old.data.toList size (ops.take k)).1 = A at *
    generalize str (patchOut old.data.toList size (ops.drop k)).1 = B at *
    generalize str (patchOut old.data.toList size ops).1 = P at *
    have p1 := fun W => run_string_add_sum (P := Tryd.prog) W A B (by omega)
    rw [Hcat.out] at p1
    have hw1 : IntKind.i64.wrap ((cost (ops.take k) : Int) + (cost (ops.drop k) : Int)) = (cost ops : Int) := by rw [iwrap_id _ (by omega) (by omega)]; omega
    have hle' : (cost ops : Int) ≤ P.size := by omega
    clear hcat hcost hsum hlen hlen1 hlen2 hp1 hp2 HPt HBad hpc
    generalize cost (ops.take k) = n1 at *
    generalize cost (ops.drop k) = n2 at *
    generalize cost ops = n0 at *
    have hlT : (ops.take k).length ≤ 1000 := by rw [List.length_take]; omega
    have hlU : (ops.drop k).length ≤ 1000 := by rw [List.length_drop]; omega
    generalize ops.take k = T at *
    generalize ops.drop k = U at *
    go_wp2_with fail
    refine (ownOps_ok _ T _ (HNT.out _) hlT).mono ?_
    rintro r w4 ⟨u4, rfl, hu4, hb4⟩
    have Hu4 := hide hu4
    obtain ⟨au4, cu4, rfl, _⟩ := hu4
    have Hb4 := hide (bthen Hb3.out hb4)
    clear hb4 Hb3
    go_wp2_with fail
    refine (HA1.out _ _ Hu4.out (HEB.out _ _ HE.out Hb4.out)).mono ?_
    rintro r w5 ⟨⟨x5, rfl, hx5⟩, hb5⟩
    have hx := hx5.none rfl
    subst hx
    have Hb5 := hide (bthen Hb4.out hb5)
    clear hb5 hx5 Hb4 Hu4 HA1
    go_wp2_with fail
    refine (ownOps_ok _ U _ (HNU.out _) hlU).mono ?_
    rintro r w6 ⟨u6, rfl, hu6, hb6⟩
    have Hu6 := hide hu6
    obtain ⟨au6, cu6, rfl, _⟩ := hu6
    have Hb6 := hide (bthen Hb5.out hb6)
    clear hb6 Hb5
    go_wp2_with fail
    refine (HA2.out _ _ Hu6.out (HEB.out _ _ HE.out Hb6.out)).mono ?_
    rintro r w7 ⟨⟨x7, rfl, hx7⟩, hb7⟩
    have hx := hx7.none rfl
    subst hx
    have Hb7 := hide (bthen Hb6.out hb7)
    clear hb7 hx7 Hb6 Hu6 HA2
    have Hdr : Hid (Below w.heap.size w w7.drew) := Hb7.out.drew
    go_wp2_with fail
    go_region_held3 (fun w' => Hid (Below w.heap.size w w')) (first | exact Hb15 | exact Hb14 | exact Hb13 | exact Hb12 | exact Hb11 | exact Hb10 | exact Hb9 | exact Hb8 | exact Hdr)
      (first
        | (go_at_call 8; refine (HC0.out _ _ Hu14.out).mono ?_; rintro r w15 ⟨rfl, hb15⟩; have Hb15 := hide (bthen Hb14.out hb15); clear hb15)
        | (go_at_call 7; refine (ownOps_ok _ ops _ (HN.out _) (by omega)).mono ?_; rintro r w14 ⟨u14, rfl, hu14, hb14⟩; have Hu14 := hide hu14; obtain ⟨au14, cu14, rfl, _⟩ := hu14; have Hb14 := hide (bthen Hb13.out hb14); clear hb14)
        | (go_at_call 8; refine (HC0.out _ _ Hu12.out).mono ?_; rintro r w13 ⟨rfl, hb13⟩; have Hb13 := hide (bthen Hb12.out hb13); clear hb13)
        | (go_at_call 7; refine (ownOps_ok _ ops _ (HN.out _) (by omega)).mono ?_; rintro r w12 ⟨u12, rfl, hu12, hb12⟩; have Hu12 := hide hu12; obtain ⟨au12, cu12, rfl, _⟩ := hu12; have Hb12 := hide (bthen Hb11.out hb12); clear hb12)
        | (go_at_call 8; refine (HC2.out _ _ Hu10.out).mono ?_; rintro r w11 ⟨rfl, hb11⟩; have Hb11 := hide (bthen Hb10.out hb11); clear hb11)
        | (go_at_call 7; refine (ownOps_ok _ U _ (HNU.out _) hlU).mono ?_; rintro r w10 ⟨u10, rfl, hu10, hb10⟩; have Hu10 := hide hu10; obtain ⟨au10, cu10, rfl, _⟩ := hu10; have Hb10 := hide (bthen Hb9.out hb10); clear hb10)
        | (go_at_call 8; refine (HC1.out _ _ Hu8.out).mono ?_; rintro r w9 ⟨rfl, hb9⟩; have Hb9 := hide (bthen Hb8.out hb9); clear hb9)
        | (go_at_call 7; refine (ownOps_ok _ T _ (HNT.out _) hlT).mono ?_; rintro r w8 ⟨u8, rfl, hu8, hb8⟩; have Hu8 := hide hu8; obtain ⟨au8, cu8, rfl, _⟩ := hu8; have Hb8 := hide (bthen Hdr.out hb8); clear hb8))
    all_goals
      go_wp2_with fail
      go_ret
      exact ⟨rfl, Hb15.out⟩
  · obtain ⟨t, y, rfl⟩ := hx3.some hpc
    rw [HBad.out hpc, show str [] = ⟨#[]⟩ from rfl]
    clear hb3 hx3 Hb2 Hu2 HA
    go_wp2
    go_ret
    exact ⟨rfl, Hb3.out⟩

theorem pparts_walk (old : ByteArray) (size : Int) (oa : Option Addr) (oc : Nat) (ops : List Opx) (cut : Int) (Env : World → Prop) (w : World) (hS : Env w) (hEB : ∀ w w', Env w → Below w.heap.size w w' → Env w') (hP : ApplyAll Env) (hO : ORow w (.slice oa ops.length oc) ops) (hcap : ops.length ≤ oc) (hnil : oa = none → oc = 0) :
    Calls Tryd.prog 3 #[.string old, .int .i64 size, .slice oa ops.length oc, .int .i64 cut] w fun r w' => r = .returned (.bool true) ∧ Below w.heap.size w w' := by
  by_cases h : 200 < old.size ∨ longB ops = true ∨ cut < 0 ∨ (ops.length : Int) < cut
  · exact pparts_early old size oa oc ops cut Env w hS hEB hP hO h
  · simp only [not_or] at h
    obtain ⟨h1, h2, h3, h4⟩ := h
    obtain ⟨k, rfl⟩ := Int.eq_ofNat_of_zero_le (show 0 ≤ cut by omega)
    have hop : longB ops = false := by simpa using h2
    cases oa with
    | none =>
      have hc := hnil rfl
      have hl : ops.length = 0 := by omega
      have hk : k = 0 := by omega
      have := pparts_nil old size ops k Env w hS hEB hP (List.length_eq_zero_iff.1 hl) (by omega) hop hk
      rw [hl, hc, hk]
      exact this
    | some ad =>
      by_cases hko : k < oc
      · exact pparts_main old size ad oc ops k Env w hS hEB hP hO (by omega) hop (by omega) hcap hko
      · obtain rfl : oc = k := by omega
        exact pparts_full old size ad ops oc Env w hS hEB hP hO (by omega) hop (by omega) hcap
end Go.Proofs.YtcenohaadggdiadDoor
