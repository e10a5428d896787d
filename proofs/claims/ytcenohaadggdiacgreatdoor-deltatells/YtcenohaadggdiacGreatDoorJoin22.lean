/-
  Contracts that the law DeltaTells asks of both sides at once: what is made, what is wrong with ops, their text, what is read.
  Contract of the laws' longOps over this dump: every list of ops.
  Contract of the document's OpsText over this dump, at ops that are right.
  Contract of the laws' ownOps over this dump.
  Contract of the laws' OwnBlocks over this dump: the row is owned.
-/
import Derived.Test.YtcenohaadggdiacGreatDoorJoin07
import Derived.Test.YtcenohaadggdiacGreatDoorJoin14
import Derived.Test.YtcenohaadggdiacGreatDoorJoin16
import Derived.Test.YtcenohaadggdiacGreatDoorRefDelta
import Derived.Test.YtcenohaadggdiacGreatDoorRefOFault
import Derived.Test.YtcenohaadggdiacGreatDoorRefORead
import Derived.Test.YtcenohaadggdiacGreatDoorJoin04
import Derived.Test.YtcenohaadggdiacGreatDoorJoin20
import Derived.Deep.RegionHeld3
namespace Go.Proofs.YtcenohaadggdiacGreatDoor
open Go.RowKit
open Go.Sign (Blk)
open Go.Delta (Opx)

/-- What Check of blocks answers is their fault. -/
theorem tells_check {a : Nat → Addr} {base : Nat} {l : List Blk} {k : Int} {w' : World} {x : Value} (hS : Sents w' a) (h : CheckRes (evOf a) base (Go.Sign.fault l k) w' (.returned x)) : Tells w' x (Go.Sign.fault l k).1 (Go.Sign.fault l k).2 := by
  have hcode := fault_code l k
  generalize Go.Sign.fault l k = f at *
  obtain ⟨c, at_⟩ := f
  simp only at hcode ⊢
  unfold CheckRes at h
  by_cases hc : c = 0
  · subst hc
    rw [if_pos (Or.inl rfl)] at h
    obtain rfl : x = .nilIface := by injection h
    exact tells_nil _ _
  · obtain ⟨j, hj, hcj, e⟩ := errV_sent (a := a) (c := c) (by omega)
    subst hcj
    by_cases ha : at_ = -1
    · subst ha
      rw [if_pos (Or.inr rfl)] at h
      have hx : x = errV (evOf a) (j + 1) := by injection h
      rw [hx, e]
      exact tells_bare _ a hS j hj
    · rw [if_neg (by simp only [not_or]; exact ⟨hc, ha⟩)] at h
      obtain ⟨p, hr, _, c0, c1⟩ := h
      have hx : x = .iface 63 (.pointer (some ⟨p, 0, none⟩)) := by injection hr
      simp only at c0 c1
      rw [e] at c1
      rw [hx]
      exact tells_at _ a hS j hj p at_ c0 c1

/-- What is made, in one form: the ops, an error's number, its place. -/
def dOut (L : List Blk) (size : Int) (s : List UInt8) : List Opx × Nat × Int :=
  if (Go.Sign.fault L size).1 = 0 then (if s.length ≤ 4000 then (dmake L size.toNat s, 0, -1) else ([], 2, -1)) else ([], (Go.Sign.fault L size).1, (Go.Sign.fault L size).2)

theorem make_uni (v : Value) (L : List Blk) (size : Int) (s : ByteArray) (a : Nat → Addr) (w : World) (hv : RowIn w v L) (hL : L.length ≤ 1000) (hss : s.size ≤ 1000000) (hS : Sents w a) :
    Calls Tryz.prog 6 #[v, .int .i64 size, .string s] w fun r w' => (∃ u x, r = .returned (.tuple #[u, x]) ∧ ORow w' u (dOut L size s.data.toList).1 ∧ Tells w' x (dOut L size s.data.toList).2.1 (dOut L size s.data.toList).2.2) ∧ Below w.heap.size w w' := by
  refine (make_ok v L size s (evOf a) w hv (by omega) hss hS.er.two).mono ?_
  rintro r w' ⟨hr, hb⟩
  refine ⟨?_, hb⟩
  unfold MakeRes at hr
  unfold dOut
  by_cases hf : (Go.Sign.fault L size).1 = 0
  · rw [if_pos hf] at hr ⊢
    by_cases hs : s.data.toList.length ≤ 4000
    · rw [if_pos hs] at hr ⊢
      obtain ⟨u, rfl, hown⟩ := hr
      exact ⟨u, _, rfl, ORow.of_own hown, tells_nil _ _⟩
    · rw [if_neg hs] at hr ⊢
      exact ⟨_, _, hr, ORow.nil _, tells_bare _ a (hS.below hb) 1 (by decide)⟩
  · rw [if_neg hf] at hr ⊢
    obtain ⟨x, rfl, hc⟩ := hr
    exact ⟨_, x, rfl, ORow.nil _, tells_check (hS.below hb) hc⟩
theorem deltaOf_uni (v : Value) (L : List Blk) (size : Int) (s : ByteArray) (w : World) (hv : RowIn w v L) (hL : L.length ≤ 1000) (hss : s.size ≤ 1000000) :
    Calls Tryz.prog 8 #[v, .int .i64 size, .string s] w fun r w' => (∃ u, r = .returned (.tuple #[u, .agg #[.int .i64 (dOut L size s.data.toList).2.1, .int .i64 (dOut L size s.data.toList).2.2]]) ∧ ORow w' u (dOut L size s.data.toList).1) ∧ Below w.heap.size w w' := by
  unfold dOut
  by_cases hf : (Go.Sign.fault L size).1 = 0
  · rw [if_pos hf]
    by_cases hs : s.data.toList.length ≤ 4000
    · rw [if_pos hs]
      rw [lenL] at hs
      obtain ⟨⟨s1, s2⟩, _⟩ := Go.Sign.fault_zero hf
      obtain ⟨z, rfl⟩ := Int.eq_ofNat_of_zero_le (show 0 ≤ size by omega)
      refine (deltaOf_main v L z s w hv hL hf (by omega) (by omega) hs).mono ?_
      rintro r w' ⟨⟨u, rfl, hown⟩, hb⟩
      exact ⟨⟨u, rfl, ORow.of_own hown⟩, hb⟩
    · rw [if_neg hs]
      rw [lenL] at hs
      refine (deltaOf_long v L size s w hv (by omega) hf (by omega) hss).mono ?_
      rintro r w' ⟨rfl, hb⟩
      exact ⟨⟨_, rfl, ORow.nil _⟩, hb⟩
  · rw [if_neg hf]
    refine (deltaOf_fault v L size s w hv (by omega) hf).mono ?_
    rintro r w' ⟨rfl, hb⟩
    exact ⟨⟨_, rfl, ORow.nil _⟩, hb⟩

/-- The text of ops: none where one is wrong. -/
def otextOut (l : List Opx) : ByteArray := if (Go.Delta.faultO l).1 = 0 then str (Go.Delta.encD l) else ByteArray.empty
theorem otext_uni (v : Value) (l : List Opx) (a : Nat → Addr) (w : World) (hv : ORow w v l) (hl : l.length ≤ 1000) (hs : Short l) (hlen : (∀ o ∈ l, Go.Delta.opFault o = 0) → Go.Delta.cost l ≤ 100000 ∧ (Go.Delta.encD l).length ≤ 20000) (hS : Sents w a) :
    Calls Tryz.prog 12 #[v] w fun r w' => (∃ x, r = .returned (.tuple #[.string (otextOut l), x]) ∧ Tells w' x (Go.Delta.faultO l).1 (Go.Delta.faultO l).2) ∧ Below w.heap.size w w' := by
  unfold otextOut
  by_cases hf : (Go.Delta.faultO l).1 = 0
  · rw [if_pos hf]
    have hw := Go.Delta.faultO_zero hf
    obtain ⟨h1, h2⟩ := hlen hw
    refine (otext_ok v l (ovOf a) w hv hl hw hs h1 h2 hS.oer).mono ?_
    rintro r w' ⟨rfl, hb⟩
    refine ⟨⟨_, rfl, ?_⟩, hb⟩
    rw [hf]
    exact tells_nil _ _
  · rw [if_neg hf]
    have HC := ocheck_ok v l (ovOf a) w hv (by omega) hs hS.oer
    obtain ⟨ad, cap, rfl, _⟩ := hv
    refine (otext_err _ _ _ _ (fun t x w' => OCheckRes (ovOf a) w.heap.size (Go.Delta.faultO l) w' (.returned (.iface t x))) (HC.mono ?_)).mono ?_
    · rintro r w' ⟨hr, hb⟩
      have hr' := hr
      unfold OCheckRes at hr'
      rw [if_neg hf] at hr'
      obtain ⟨p, rfl, _⟩ := hr'
      exact ⟨⟨_, _, rfl, hr⟩, hb⟩
    · rintro r w' ⟨⟨t, x, rfl, hc⟩, hb⟩
      exact ⟨⟨_, rfl, tells_ocheck (hS.below hb) hc⟩, hb⟩

/-- What is read, in one form: the ops, an error's number. -/
def rdOutD (t : List UInt8) : List Opx × Nat :=
  match Go.Delta.rdD t with
  | .ok l => (l, 0)
  | .error c => ([], c)
theorem oread_uni (a : Nat → Addr) (t : ByteArray) (w : World) (ht : t.size ≤ 100000) (hS : Sents w a) :
    Calls Tryz.prog 16 #[.string t] w fun r w' => (∃ v, r = .returned (.tuple #[v, errO (ovOf a) (rdOutD t.data.toList).2]) ∧ ORow w' v (rdOutD t.data.toList).1 ∧ ((rdOutD t.data.toList).2 = 0 ∨ (rdOutD t.data.toList).2 = 1 ∨ (rdOutD t.data.toList).2 = 2 ∨ (rdOutD t.data.toList).2 = 3 ∨ (rdOutD t.data.toList).2 = 4)) ∧ Below w.heap.size w w' := by
  refine (oRead_ok (ovOf a) t w (by omega) hS.oer).mono ?_
  rintro r w' ⟨hr, hb⟩
  refine ⟨?_, hb⟩
  unfold rdOutD
  cases h : Go.Delta.rdD t.data.toList with
  | ok l =>
    rw [h] at hr
    obtain ⟨v, rfl, hown⟩ := hr
    exact ⟨v, rfl, ORow.of_own hown, Or.inl rfl⟩
  | error c =>
    rw [h] at hr
    obtain ⟨rfl, hc⟩ := hr
    exact ⟨_, rfl, ORow.nil _, Or.inr hc⟩
theorem rops_uni (t : ByteArray) (w : World) (ht : t.size ≤ 100000) :
    Calls Tryz.prog 17 #[.string t] w fun r w' => (∃ v, r = .returned (.tuple #[v, .int .i64 (rdOutD t.data.toList).2]) ∧ ORow w' v (rdOutD t.data.toList).1) ∧ Below w.heap.size w w' := by
  refine (rops_ok t w ht).mono ?_
  rintro r w' ⟨hr, hb⟩
  refine ⟨?_, hb⟩
  unfold rdOutD
  cases h : Go.Delta.rdD t.data.toList with
  | ok l =>
    rw [h] at hr
    obtain ⟨v, rfl, hown⟩ := hr
    exact ⟨v, rfl, ORow.of_own hown⟩
  | error c =>
    rw [h] at hr
    have hr' : r = .returned (.tuple #[.slice none 0 0, .int .i64 c]) := hr
    subst hr'
    exact ⟨_, rfl, ORow.nil _⟩
theorem rdOutD_length (t : ByteArray) : (rdOutD t.data.toList).1.length ≤ 20000 := by
  unfold rdOutD
  cases h : Go.Delta.rdD t.data.toList with
  | error c => simp
  | ok l =>
    simp only
    unfold Go.Delta.rdD at h
    split at h
    · cases h
    · rename_i l' he
      split at h
      · cases h
        exact (rdA_short he).1
      · cases h
end Go.Proofs.YtcenohaadggdiacGreatDoor

namespace Go.Proofs.YtcenohaadggdiacGreatDoor
open Go.RowKit
open Go.Delta (Opx)

/-- Is an op too long for a law? -/
def longO (o : Opx) : Bool := (decide (100 < o.data.size) && decide (o.data.size ≠ 4001)) || decide (20 < o.kind.size)
/-- Are ops too many, or one too long? -/
def longB (l : List Opx) : Bool := decide (40 < l.length) || l.any longO
theorem longB_false {l : List Opx} (h : longB l = false) : l.length ≤ 40 ∧ ∀ o ∈ l, (o.data.size ≤ 100 ∨ o.data.size = 4001) := by
  simp only [longB, Bool.or_eq_false_iff, decide_eq_false_iff_not, List.any_eq_false] at h
  refine ⟨by omega, fun o ho => ?_⟩
  have := h.2 o ho
  simp only [longO, Bool.or_eq_true, Bool.and_eq_true, decide_eq_true_eq] at this
  omega

set_option maxHeartbeats 2000000 in
set_option maxRecDepth 100000 in
theorem longOps_ok (v : Value) (l : List Opx) (w : World) (hv : ORow w v l) :
    Calls Tryz.prog 5 #[v] w fun r w' => r = .returned (.bool (longB l)) ∧ w' = w := by
  obtain ⟨a, c, rfl, hv⟩ := hv
  have HV := hide hv
  clear hv
  by_cases h40 : 40 < l.length
  · have h40' : (40 : Int) < l.length := by omega
    have HB : Hid (longB l = true) := by simp [Hid, longB, h40]
    go_enter Tryz.func5, Tryz.ntmps5
    go_wp2_with fail
    go_ret
    exact ⟨by rw [HB.out]; rfl, rfl⟩
  · have h40' : (l.length : Int) ≤ 40 := by omega
    have HB : Hid (longB l = l.any longO) := by simp only [Hid, longB]; rw [decide_eq_false (by omega)]; rfl
    have H0 : Hid ((l.drop 0).any longO = longB l) := by rw [List.drop_zero, HB.out]; exact rfl
    generalize longB l = B at *
    clear HB
    go_enter Tryz.func5, Tryz.ntmps5
    go_wp2_with fail
    go_loopw [3] (fun t3 wr => ∃ j : Nat, t3 = .int .i64 j ∧ j ≤ l.length ∧ Hid ((l.drop j).any longO = B) ∧ wr = w) (fun t3 _ => l.length - (intOf t3).toNat)
    case atStart => exact ⟨0, rfl, by omega, H0.out, rfl⟩
    case round =>
      clear H0
      obtain ⟨j, rfl, hj, HI, rfl⟩ := hrel
      by_cases hlt : j < l.length
      · have hlt' : (j : Int) < l.length := by omega
        obtain ⟨b, o, rfl, hc⟩ := HV.out (by omega)
        obtain ⟨d0, _, _, d3⟩ := hc j hlt
        have hI := HI.out
        rw [List.drop_eq_getElem_cons hlt, List.any_cons] at hI
        have HI' := hide hI
        clear hc HV HI hI
        generalize l[j] = op at *
        obtain ⟨k, at_, n, d⟩ := op
        simp only [longO] at d0 d3 HI'
        by_cases g1 : 100 < d.size
        · have c1 : decide ((100 : Int) < d.size) = true := by simp; omega
          by_cases g2 : d.size = 4001
          · have c2 : ((d.size : Int) != 4001) = false := by simp; omega
            by_cases g3 : 20 < k.size
            · have c3 : decide ((20 : Int) < k.size) = true := by simp; omega
              have hI := HI'.out
              rw [decide_eq_true g3, Bool.or_true, Bool.true_or] at hI
              subst hI
              clear g1 g2 g3 HI'
              go_wp2_with fail
              go_ret
              exact ⟨rfl, rfl⟩
            · have c3 : decide ((20 : Int) < k.size) = false := by simp; omega
              have hI := HI'.out
              rw [decide_eq_false g3, decide_eq_false (show ¬ d.size ≠ 4001 by omega), Bool.and_false, Bool.false_or, Bool.false_or] at hI
              have HI := hide hI
              clear g1 g2 g3 HI' hI
              go_wp2_with fail
              go_roundw
              case rel => exact ⟨j + 1, by go_num, by omega, HI.out, trivial⟩
              case measure => simp [intOf]; omega
          · have c2 : ((d.size : Int) != 4001) = true := by simp; omega
            have hI := HI'.out
            rw [decide_eq_true g1, decide_eq_true (show d.size ≠ 4001 from g2), Bool.and_true, Bool.true_or, Bool.true_or] at hI
            subst hI
            clear g1 g2 HI'
            go_wp2_with fail
            go_ret
            exact ⟨rfl, rfl⟩
        · have c1 : decide ((100 : Int) < d.size) = false := by simp; omega
          by_cases g3 : 20 < k.size
          · have c3 : decide ((20 : Int) < k.size) = true := by simp; omega
            have hI := HI'.out
            rw [decide_eq_true g3, Bool.or_true, Bool.true_or] at hI
            subst hI
            clear g1 g3 HI'
            go_wp2_with fail
            go_ret
            exact ⟨rfl, rfl⟩
          · have c3 : decide ((20 : Int) < k.size) = false := by simp; omega
            have hI := HI'.out
            rw [decide_eq_false g3, decide_eq_false g1, Bool.false_and, Bool.false_or, Bool.false_or] at hI
            have HI := hide hI
            clear g1 g3 HI' hI
            go_wp2_with fail
            go_roundw
            case rel => exact ⟨j + 1, by go_num, by omega, HI.out, trivial⟩
            case measure => simp [intOf]; omega
      · have hle : (l.length : Int) ≤ (j : Int) := by omega
        have hI := HI.out
        rw [List.drop_eq_nil_of_le (by omega), List.any_nil] at hI
        subst hI
        clear HI
        go_wp2_with fail
        go_ret
        exact ⟨rfl, rfl⟩
end Go.Proofs.YtcenohaadggdiacGreatDoor

namespace Go.Proofs.YtcenohaadggdiacGreatDoor
open Go.RowKit
open Go.Delta (Opx copyOp dataOp kCopy kData noBytes encOs encO encD)

theorem encOs_take_le (l : List Opx) (j : Nat) : (encOs (l.take j)).length ≤ (encOs l).length := by
  have h : encOs l = encOs (l.take j) ++ encOs (l.drop j) := by
    unfold encOs
    rw [← List.flatten_append, ← List.map_append, List.take_append_drop]
  rw [h, List.length_append]; omega

set_option maxHeartbeats 2000000 in
set_option maxRecDepth 100000 in
theorem rotext_ok (v : Value) (l : List Opx) (w : World) (hv : ORow w v l) (hl : l.length ≤ 1000) (hw : ∀ o ∈ l, Go.Delta.opFault o = 0) (he : (encD l).length ≤ 20000) :
    Calls Tryz.prog 15 #[v] w fun r w' => r = .returned (.string (str (encD l))) ∧ Below w.heap.size w w' := by
  obtain ⟨a, c, rfl, hv⟩ := hv
  have HV := hide hv
  have HW := hide hw
  have hl' : (l.length : Int) ≤ 1000 := by omega
  clear hv hw
  have HA := hide (fun W => numText_ok l.length W (by omega))
  have HN0 := hide (fun W => numText_ok 0 W (by omega))
  have HN1 := hide (fun W => numText_ok 1 W (by omega))
  have HEnd : Hid (str (Go.Num.enc l.length ++ encOs l) = str (encD l)) := rfl
  have H0 : Hid (str (Go.Num.enc l.length ++ encOs (l.take 0)) = str (Go.Num.enc l.length)) := by simp [encOs, Hid]
  have hbd : (Go.Num.enc l.length).length + (encOs l).length ≤ 20000 := by simpa [encD] using he
  generalize str (encD l) = E at *
  generalize Go.Num.enc l.length = P0 at *
  clear he
  go_enter Tryz.func15, Tryz.ntmps15
  go_wp2_with fail
  refine (HA.out _).mono ?_
  rintro r w1 ⟨rfl, hb1⟩
  have Hb1 := hide hb1
  clear hb1
  go_wp2_with fail
  go_loopw [3, 4] (fun t3 t4 wr => ∃ j : Nat, t4 = .int .i64 j ∧ t3 = .string (str (P0 ++ encOs (l.take j))) ∧ j ≤ l.length ∧ Hid (Below w.heap.size w wr)) (fun _ t4 _ => l.length - (intOf t4).toNat)
  case atStart => exact ⟨0, rfl, by rw [H0.out], by omega, Hb1.out⟩
  case round =>
    clear Hb1 H0 HA
    obtain ⟨j, rfl, rfl, hj, Hb⟩ := hrel
    by_cases hlt : j < l.length
    · have hlt' : (j : Int) < l.length := by omega
      obtain ⟨b, o, rfl, hc⟩ := HV.out (by omega)
      obtain ⟨c0, c1, c2, c3⟩ := hc j hlt
      have d0 := (Hb.out.cell (World.block_lt_of_cell? _ _ c0)).trans c0
      have d1 := (Hb.out.cell (World.block_lt_of_cell? _ _ c1)).trans c1
      have d2 := (Hb.out.cell (World.block_lt_of_cell? _ _ c2)).trans c2
      have d3 := (Hb.out.cell (World.block_lt_of_cell? _ _ c3)).trans c3
      clear hc c0 c1 c2 c3
      have hok := HW.out l[j] (List.getElem_mem hlt)
      have Hsn := hide (List.take_succ_eq_append_getElem hlt)
      have hsz : (str (P0 ++ encOs (l.take j))).size ≤ 20000 := by
        have := encOs_take_le l j
        rw [str_len, List.length_append]; omega
      generalize l[j] = bk at *
      have HH := hide (And.intro hj hlt)
      rcases Go.Delta.op_right hok with ⟨at_, n, rfl, ha, hn1, hn2⟩ | ⟨d, rfl, hd1, hd2⟩
      · have HX := hide (fun W => numText_ok at_ W (by omega))
        have HY := hide (fun W => numText_ok n W (by omega))
        have Hfin : Hid (str (P0 ++ encOs (l.take j)) ++ str (Go.Num.enc 0) ++ str (Go.Num.enc at_) ++ str (Go.Num.enc n) = str (P0 ++ encOs (l.take (j + 1)))) := by
          rw [Hsn.out, Go.Delta.encOs_snoc, Go.Delta.encO_copy, str_app, str_app, str_app]
          simp [Hid]
        have lz : (str (Go.Num.enc 0)).size ≤ 6 := by rw [str_len]; exact Go.Num.enc_length_le _
        have lx : (str (Go.Num.enc at_)).size ≤ 6 := by rw [str_len]; exact Go.Num.enc_length_le _
        have ly : (str (Go.Num.enc n)).size ≤ 6 := by rw [str_len]; exact Go.Num.enc_length_le _
        simp only [copyOp] at d0 d1 d2
        unfold kCopy at d0
        generalize str (P0 ++ encOs (l.take j)) = S at *
        generalize str (Go.Num.enc 0) = Z at *
        generalize str (Go.Num.enc at_) = X at *
        generalize str (Go.Num.enc n) = Y at *
        have p1 := fun W => run_string_add_sum (P := Tryz.prog) W S Z (by omega)
        have p2 := fun W => run_string_add_sum (P := Tryz.prog) W (S ++ Z) X (by rw [ByteArray.size_append]; omega)
        have p3 := fun W => run_string_add_sum (P := Tryz.prog) W (S ++ Z ++ X) Y (by rw [ByteArray.size_append, ByteArray.size_append]; omega)
        clear HV HW lx ly lz hsz ha hn1 hn2 hj HEnd Hsn hl hok d3 hbd HN1
        go_wp2_with fail
        go_region_held3 (fun w' => Hid (Below w.heap.size w w') ∧ w'.cell? ⟨b, o + j * 4 + 1, none⟩ = some (.int .i64 (at_ : Int)) ∧ w'.cell? ⟨b, o + j * 4 + 2, none⟩ = some (.int .i64 (n : Int))) (first | exact ⟨Hb.out.drew, d1, d2⟩ | exact ⟨Hb4.out, e1, e2⟩ | exact ⟨Hb5.out, f1, f2⟩ | exact ⟨Hb6.out, g1, g2⟩)
          (first
            | (go_at_call_of 30 (Value.int .i64 0); refine (HN0.out _).mono ?_; rintro r w4 ⟨rfl, hb4⟩; have e1 : w4.cell? ⟨b, o + j * 4 + 1, none⟩ = some (.int .i64 (at_ : Int)) := (hb4.cell (World.block_lt_of_cell? wr _ d1)).trans d1; have e2 : w4.cell? ⟨b, o + j * 4 + 2, none⟩ = some (.int .i64 (n : Int)) := (hb4.cell (World.block_lt_of_cell? wr _ d2)).trans d2; have Hb4 := hide (bthen Hb.out.drew hb4); clear hb4)
            | (go_at_call_of 30 at_; refine (HX.out _).mono ?_; rintro r w5 ⟨rfl, hb5⟩; have f1 : w5.cell? ⟨b, o + j * 4 + 1, none⟩ = some (.int .i64 (at_ : Int)) := (hb5.cell (World.block_lt_of_cell? w4 _ e1)).trans e1; have f2 : w5.cell? ⟨b, o + j * 4 + 2, none⟩ = some (.int .i64 (n : Int)) := (hb5.cell (World.block_lt_of_cell? w4 _ e2)).trans e2; have Hb5 := hide (bthen Hb4.out hb5); clear hb5)
            | (go_at_call_of 30 n; refine (HY.out _).mono ?_; rintro r w6 ⟨rfl, hb6⟩; have g1 : w6.cell? ⟨b, o + j * 4 + 1, none⟩ = some (.int .i64 (at_ : Int)) := (hb6.cell (World.block_lt_of_cell? w5 _ f1)).trans f1; have g2 : w6.cell? ⟨b, o + j * 4 + 2, none⟩ = some (.int .i64 (n : Int)) := (hb6.cell (World.block_lt_of_cell? w5 _ f2)).trans f2; have Hb6 := hide (bthen Hb5.out hb6); clear hb6))
        all_goals
          go_wp2_with fail
          go_roundw
          case rel => exact ⟨j + 1, by go_num, by rw [← Hfin.out], by have := HH.out; omega, Hb6.out⟩
          case measure => have := HH.out; simp [intOf]; omega
      · have HX := hide (fun W => counted_ok (str d) W (by rw [str_len]; omega))
        rw [str_len, strL] at HX
        have Hfin : Hid (str (P0 ++ encOs (l.take j)) ++ str (Go.Num.enc 1) ++ str (Go.Num.enc d.length ++ d) = str (P0 ++ encOs (l.take (j + 1)))) := by
          rw [Hsn.out, Go.Delta.encOs_snoc, Go.Delta.encO_data, str_app, str_app]
          simp [Hid]
        have lz : (str (Go.Num.enc 1)).size ≤ 6 := by rw [str_len]; exact Go.Num.enc_length_le _
        have lx : (str (Go.Num.enc d.length ++ d)).size ≤ 4006 := by rw [str_len, List.length_append]; have := Go.Num.enc_length_le d.length; omega
        have hkd : kData ≠ kCopy := fun e => Go.Delta.kinds_ne e.symm
        have ek := kind_copy hkd
        simp only [dataOp] at d0 d3
        unfold kData at d0 ek
        generalize str (P0 ++ encOs (l.take j)) = S at *
        generalize str (Go.Num.enc 1) = Z at *
        generalize str (Go.Num.enc d.length ++ d) = X at *
        generalize str d = ds at *
        have p1 := fun W => run_string_add_sum (P := Tryz.prog) W S Z (by omega)
        have p2 := fun W => run_string_add_sum (P := Tryz.prog) W (S ++ Z) X (by rw [ByteArray.size_append]; omega)
        clear HV HW lx lz hsz hd1 hd2 hj HEnd Hsn hl hok d1 d2 hbd HN0 hkd
        go_wp2_with fail
        go_region_held3 (fun w' => Hid (Below w.heap.size w w') ∧ w'.cell? ⟨b, o + j * 4 + 3, none⟩ = some (.string ds)) (first | exact ⟨Hb.out.drew, d3⟩ | exact ⟨Hb4.out, e3⟩ | exact ⟨Hb5.out, f3⟩)
          (first
            | (go_at_call 30; refine (HN1.out _).mono ?_; rintro r w4 ⟨rfl, hb4⟩; have e3 : w4.cell? ⟨b, o + j * 4 + 3, none⟩ = some (.string ds) := (hb4.cell (World.block_lt_of_cell? wr _ d3)).trans d3; have Hb4 := hide (bthen Hb.out.drew hb4); clear hb4)
            | (go_at_call 31; refine (HX.out _).mono ?_; rintro r w5 ⟨rfl, hb5⟩; have f3 : w5.cell? ⟨b, o + j * 4 + 3, none⟩ = some (.string ds) := (hb5.cell (World.block_lt_of_cell? w4 _ e3)).trans e3; have Hb5 := hide (bthen Hb4.out hb5); clear hb5))
        all_goals
          go_wp2_with fail
          go_roundw
          case rel => exact ⟨j + 1, by go_num, by rw [← Hfin.out], by have := HH.out; omega, Hb5.out⟩
          case measure => have := HH.out; simp [intOf]; omega
    · have hle : (l.length : Int) ≤ (j : Int) := by omega
      rw [List.take_of_length_le (by omega), HEnd.out]
      go_wp2_with fail
      go_ret
      exact ⟨rfl, Hb.out⟩
end Go.Proofs.YtcenohaadggdiacGreatDoor

namespace Go.Proofs.YtcenohaadggdiacGreatDoor
open Go.RowKit
open Go.Delta (Opx)

/-- Cells of a slice that reads as blocks, one by one. -/
theorem ORow.news {w : World} {a : Option Addr} {c : Nat} {l : List Opx} (h : ORow w (.slice a l.length c) l) (hp : 0 < l.length) : ∃ b o, a = some ⟨b, o, none⟩ ∧ ∀ j u, (ocs l)[j]? = some u → w.cell? ((⟨b, o, none⟩ : Addr).add j) = some u := by
  obtain ⟨a', c', e, h⟩ := h
  obtain ⟨b, o, rfl, hc⟩ := h hp
  have ea : a = some ⟨b, o, none⟩ := by simp at e; exact e.1
  refine ⟨b, o, ea, fun j u hu => ?_⟩
  rw [Go.WideShapes.add_plain]
  have hj : j < l.length * 4 := by
    have := (List.getElem?_eq_some_iff.1 hu).1
    rw [ocs_length] at this
    exact this
  have hd : j / 4 < l.length := by omega
  obtain ⟨g0, g1, g2, g3⟩ := ocs_get l (j / 4) hd
  obtain ⟨c0, c1, c2, c3⟩ := hc (j / 4) hd
  rcases (show j = j / 4 * 4 ∨ j = j / 4 * 4 + 1 ∨ j = j / 4 * 4 + 2 ∨ j = j / 4 * 4 + 3 by omega) with e | e | e | e
  · rw [← e] at g0
    rw [g0] at hu
    cases hu
    rw [← e] at c0
    exact c0
  · rw [← e] at g1
    rw [g1] at hu
    cases hu
    rw [Nat.add_assoc, ← e] at c1
    exact c1
  · rw [← e] at g2
    rw [g2] at hu
    cases hu
    rw [Nat.add_assoc, ← e] at c2
    exact c2
  · rw [← e] at g3
    rw [g3] at hu
    cases hu
    rw [Nat.add_assoc, ← e] at c3
    exact c3

set_option maxHeartbeats 1000000 in
set_option maxRecDepth 100000 in
theorem ownOps_ok (v : Value) (l : List Opx) (w : World) (hv : ORow w v l) (hl : l.length ≤ 1000) :
    Calls Tryz.prog 13 #[v] w fun r w' => ∃ u, r = .returned u ∧ ORow w' u l ∧ Below w.heap.size w w' := by
  obtain ⟨i0, hi, hz0, hz1, hz2⟩ := info_parts Tryz.info44
  have hv' := hv
  obtain ⟨a, c, rfl, _⟩ := hv'
  by_cases hp : 0 < l.length
  · obtain ⟨b, o, rfl, hn⟩ := hv.news hp
    have Hn := hide hn
    clear hn hv
    go_enter Tryz.func13, Tryz.ntmps13
    go_wp2_with (first | (at_builtin; refine wpList_append_own _ rfl (.tmp 4) (.tmp 5) 23 rfl w.heap.size 44 i0 (.agg #[.string ⟨#[]⟩, .int .i64 0, .int .i64 0, .string ⟨#[]⟩]) 4 48 Tryz.underlying23 hi hz0 hz1 hz2 rfl (by decide) (.slice none 0 0) 0 [] rfl ?own ⟨b, o, none⟩ l.length c (ocs l) rfl ?c0 ?c1 ?c2 ?b1 ?b2 ?b3 ?next))
    case own => exact World.ownsRow_nil _ _ _ _
    case c0 => exact ocs_length l
    case c1 => exact Hn.out
    case c2 => intro u hu; simp only [ocs, List.mem_flatMap, ocells] at hu; obtain ⟨x, _, hu⟩ := hu; simp at hu; rcases hu with rfl | rfl | rfl | rfl <;> rfl
    case b1 => unfold maxLen; omega
    case b2 => omega
    case b3 => exact Nat.le_refl _
    case next =>
      intro v5 w5 hown5 hgrow5 _
      have Hb5 := hide ((Below.refl w.heap.size w).grown hgrow5 (Nat.le_refl _) (fun k hk => by cases hk))
      have Hown5 := hide hown5
      clear hown5 hgrow5
      go_wp2_with fail
      go_ret
      refine ⟨_, rfl, ?_, Hb5.out⟩
      have h := Hown5.out
      exact ORow.of_own h
  · have hz : l = [] := by cases l with
      | nil => rfl
      | cons x r => simp at hp
    subst hz
    clear hv
    rename_i hrest
    clear hrest hp
    simp only [List.length_nil]
    cases a with
    | none =>
      go_enter Tryz.func13, Tryz.ntmps13
      go_wp2
      go_ret
      exact ⟨_, rfl, ⟨none, 0, rfl, fun h => by simp at h⟩, Below.refl _ _⟩
    | some ad =>
      go_enter Tryz.func13, Tryz.ntmps13
      go_wp2_with (first | (at_builtin; refine wpList_append_own _ rfl (.tmp 4) (.tmp 5) 23 rfl w.heap.size 44 i0 (.agg #[.string ⟨#[]⟩, .int .i64 0, .int .i64 0, .string ⟨#[]⟩]) 4 48 Tryz.underlying23 hi hz0 hz1 hz2 rfl (by decide) (.slice none 0 0) 0 [] rfl ?own ad 0 c [] rfl rfl ?c1 ?c2 ?b1 ?b2 ?b3 ?next))
      case own => exact World.ownsRow_nil _ _ _ _
      case c1 => intro j u hu; simp at hu
      case c2 => intro u hu; cases hu
      case b1 => unfold maxLen; omega
      case b2 => omega
      case b3 => exact Nat.le_refl _
      case next =>
        intro v5 w5 hown5 hgrow5 _
        have Hb5 := hide ((Below.refl w.heap.size w).grown hgrow5 (Nat.le_refl _) (fun k hk => by cases hk))
        have Hown5 := hide hown5
        clear hown5 hgrow5
        go_wp2_with fail
        go_ret
        exact ⟨_, rfl, ORow.of_own (l := []) Hown5.out, Hb5.out⟩
end Go.Proofs.YtcenohaadggdiacGreatDoor

namespace Go.Proofs.YtcenohaadggdiacGreatDoor
open Go.RowKit
open Go.Sign (Blk)

/-- Cells of a slice that reads as blocks, one by one. -/
theorem RowIn.newsD {w : World} {a : Option Addr} {c : Nat} {l : List Blk} (h : RowIn w (.slice a l.length c) l) (hp : 0 < l.length) : ∃ b o, a = some ⟨b, o, none⟩ ∧ ∀ j u, (bcs l)[j]? = some u → w.cell? ((⟨b, o, none⟩ : Addr).add j) = some u := by
  obtain ⟨a', c', e, h⟩ := h
  obtain ⟨b, o, rfl, hc⟩ := h hp
  have ea : a = some ⟨b, o, none⟩ := by simp at e; exact e.1
  refine ⟨b, o, ea, fun j u hu => ?_⟩
  rw [Go.WideShapes.add_plain]
  have hj : j < l.length * 3 := by
    have := (List.getElem?_eq_some_iff.1 hu).1
    rw [bcs_length] at this
    exact this
  have hd : j / 3 < l.length := by omega
  obtain ⟨g0, g1, g2⟩ := bcs_get l (j / 3) hd
  obtain ⟨c0, c1, c2⟩ := hc (j / 3) hd
  rcases (show j = j / 3 * 3 ∨ j = j / 3 * 3 + 1 ∨ j = j / 3 * 3 + 2 by omega) with e | e | e
  · rw [← e] at g0
    rw [g0] at hu
    cases hu
    rw [← e] at c0
    exact c0
  · rw [← e] at g1
    rw [g1] at hu
    cases hu
    rw [Nat.add_assoc, ← e] at c1
    exact c1
  · rw [← e] at g2
    rw [g2] at hu
    cases hu
    rw [Nat.add_assoc, ← e] at c2
    exact c2

set_option maxHeartbeats 1000000 in
set_option maxRecDepth 100000 in
theorem ownBlocks_own (v : Value) (l : List Blk) (w : World) (hv : RowIn w v l) (hl : l.length ≤ 1000) :
    Calls Tryz.prog 7 #[v] w fun r w' => ∃ u, r = .returned u ∧ w'.ownsRow w.heap.size 75 3 u l.length (bcs l) ∧ Below w.heap.size w w' := by
  obtain ⟨i0, hi, hz0, hz1, hz2⟩ := info_parts Tryz.info75
  have hv' := hv
  obtain ⟨a, c, rfl, _⟩ := hv'
  by_cases hp : 0 < l.length
  · obtain ⟨b, o, rfl, hn⟩ := hv.newsD hp
    have Hn := hide hn
    clear hn hv
    go_enter Tryz.func7, Tryz.ntmps7
    go_wp2_with (first | (at_builtin; refine wpList_append_own _ rfl (.tmp 4) (.tmp 5) 22 rfl w.heap.size 75 i0 (.agg #[.int .i64 0, .int .i64 0, .int .u32 0]) 3 24 Tryz.underlying22 hi hz0 hz1 hz2 rfl (by decide) (.slice none 0 0) 0 [] rfl ?own ⟨b, o, none⟩ l.length c (bcs l) rfl ?c0 ?c1 ?c2 ?b1 ?b2 ?b3 ?next))
    case own => exact World.ownsRow_nil _ _ _ _
    case c0 => exact bcs_length l
    case c1 => exact Hn.out
    case c2 => intro u hu; simp only [bcs, List.mem_flatMap, bcells] at hu; obtain ⟨x, _, hu⟩ := hu; simp at hu; rcases hu with rfl | rfl | rfl <;> rfl
    case b1 => unfold maxLen; omega
    case b2 => omega
    case b3 => exact Nat.le_refl _
    case next =>
      intro v5 w5 hown5 hgrow5 _
      have Hb5 := hide ((Below.refl w.heap.size w).grown hgrow5 (Nat.le_refl _) (fun k hk => by cases hk))
      have Hown5 := hide hown5
      clear hown5 hgrow5
      go_wp2_with fail
      go_ret
      refine ⟨_, rfl, ?_, Hb5.out⟩
      have h := Hown5.out
      simpa using h
  · have hz : l = [] := by cases l with
      | nil => rfl
      | cons x r => simp at hp
    subst hz
    clear hv
    rename_i hrest
    clear hrest hp
    simp only [List.length_nil]
    cases a with
    | none =>
      go_enter Tryz.func7, Tryz.ntmps7
      go_wp2
      go_ret
      exact ⟨_, rfl, World.ownsRow_nil _ _ _ _, Below.refl _ _⟩
    | some ad =>
      go_enter Tryz.func7, Tryz.ntmps7
      go_wp2_with (first | (at_builtin; refine wpList_append_own _ rfl (.tmp 4) (.tmp 5) 22 rfl w.heap.size 75 i0 (.agg #[.int .i64 0, .int .i64 0, .int .u32 0]) 3 24 Tryz.underlying22 hi hz0 hz1 hz2 rfl (by decide) (.slice none 0 0) 0 [] rfl ?own ad 0 c [] rfl rfl ?c1 ?c2 ?b1 ?b2 ?b3 ?next))
      case own => exact World.ownsRow_nil _ _ _ _
      case c1 => intro j u hu; simp at hu
      case c2 => intro u hu; cases hu
      case b1 => unfold maxLen; omega
      case b2 => omega
      case b3 => exact Nat.le_refl _
      case next =>
        intro v5 w5 hown5 hgrow5 _
        have Hb5 := hide ((Below.refl w.heap.size w).grown hgrow5 (Nat.le_refl _) (fun k hk => by cases hk))
        have Hown5 := hide hown5
        clear hown5 hgrow5
        go_wp2_with fail
        go_ret
        exact ⟨_, rfl, Hown5.out, Hb5.out⟩
end Go.Proofs.YtcenohaadggdiacGreatDoor
