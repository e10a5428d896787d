/-
  Contracts of delta.made and Make over this dump.
-/
import Derived.Test.YtcenohaadggdiacDoorFindMake
import Derived.Test.YtcenohaadggdiacDoorJoin09
import Derived.Deep.QuietTactic
import Derived.BigQuiet
namespace Go.Proofs.YtcenohaadggdiacDoor
open Go.RowKit Go.Maps
open Go.Sign (Blk)
open Go.Delta (Opx addData addCopy pd gd)

/-- What the call holds of stays. -/
theorem FEnv.betw {b1 b2 b3 b4 b5 m p base : Nat} {w w' : World} {L : List Blk} {size : Nat} {s : ByteArray} {rv lv : Value} (h : FEnv b1 b2 b3 b4 b5 m w L size s rv lv) (hb : Betw p base w w')
    (h1 : b1 ≠ p ∧ b1 < base) (h2 : b2 ≠ p ∧ b2 < base) (h3 : b3 ≠ p ∧ b3 < base) (h4 : b4 ≠ p ∧ b4 < base) (h5 : b5 ≠ p ∧ b5 < base) (hm : m ≠ p ∧ m < base)
    (hr : ∀ a n c, rv = .slice a n c → 0 < n → ∀ g, a = some ⟨g, 0, none⟩ → g ≠ p ∧ g < base) (hl : RowIn w' lv L) : FEnv b1 b2 b3 b4 b5 m w' L size s rv lv := by
  refine ⟨(hb.cell (a := ⟨b1, 0, none⟩) h1.1 h1.2).trans h.c1, (hb.cell (a := ⟨b2, 0, none⟩) h2.1 h2.2).trans h.c2, (hb.cell (a := ⟨b3, 0, none⟩) h3.1 h3.2).trans h.c3, (hb.cell (a := ⟨b4, 0, none⟩) h4.1 h4.2).trans h.c4, (hb.cell (a := ⟨b5, 0, none⟩) h5.1 h5.2).trans h.c5, ?_, map_block h.hm (hb.block hm.1 hm.2), hl⟩
  obtain ⟨a, n, c, rfl, hn, hc⟩ := h.hr
  refine ⟨a, n, c, rfl, hn, fun h0 => ?_⟩
  obtain ⟨g, rfl, hcc⟩ := hc h0
  obtain ⟨g1, g2⟩ := hr _ _ _ rfl h0 g rfl
  exact ⟨g, rfl, fun j hj => (hb.cell (a := ⟨g, j, none⟩) g1 g2).trans (hcc j hj)⟩

theorem pd_step (f : List UInt8 → Int) (size at_ : Nat) (l pend : List UInt8) (out : List Opx) (h : at_ < l.length) (h1 : 1 ≤ size) :
    pd f size (l.drop at_) pend out = if 0 ≤ f ((l.drop at_).take size) then pd f size (l.drop (min (at_ + size) l.length)) [] (addCopy (addData out pend) (f ((l.drop at_).take size))) else pd f size (l.drop (at_ + 1)) (pend ++ [l[at_]]) out := by
  have e := List.drop_eq_getElem_cons h
  have e2 : (l.drop (at_ + 1)).drop (size - 1) = l.drop (min (at_ + size) l.length) := by
    rw [List.drop_drop]
    by_cases hz : at_ + size ≤ l.length
    · congr 1; omega
    · rw [List.drop_eq_nil_of_le (by omega), List.drop_eq_nil_of_le (by omega)]
  rw [e, pd, e2]
theorem pend_more (l : List UInt8) (told at_ : Nat) (h : told ≤ at_) (h2 : at_ < l.length) : (l.drop told).take (at_ + 1 - told) = (l.drop told).take (at_ - told) ++ [l[at_]] := by
  rw [show at_ + 1 - told = (at_ - told) + 1 by omega, List.take_succ_eq_append_getElem (by rw [List.length_drop]; omega)]
  congr 2
  rw [List.getElem_drop]
  congr 1
  omega
theorem addData_len (out : List Opx) (l : List UInt8) : (addData out l).length ≤ out.length + 1 := by
  unfold addData; split <;> simp
theorem addCopy_len (out : List Opx) (k : Int) : (addCopy out k).length ≤ out.length + 1 := by
  rcases List.eq_nil_or_concat out with rfl | ⟨r, o, rfl⟩
  · simp [Go.Delta.addCopy_nil]
  · rw [List.concat_eq_append, Go.Delta.addCopy_snoc]
    split <;> simp

set_option maxHeartbeats 4000000 in
set_option maxRecDepth 100000 in
theorem made_ok (v : Value) (L : List Blk) (size : Nat) (s : ByteArray) (w : World) (hv : RowIn w v L) (hs : s.size ≤ 4000) (h1 : 1 ≤ size) (h2 : size ≤ 64) (hL : L.length ≤ 900000) (hw : ∀ b ∈ L, 0 ≤ b.weak ∧ b.weak < 4294967296) :
    Calls Tryd.prog 34 #[v, .int .i64 size, .string s] w fun r w' => ∃ u, r = .returned u ∧ w'.ownsRow w.heap.size 61 4 u (dmake L size s.data.toList).length (ocs (dmake L size s.data.toList)) ∧ Below w.heap.size w w' := by
  have hb0 : Below w.heap.size w (w.alloc (.cells #[.slice none 0 0] 30)) := (Below.refl _ _).alloc (Nat.le_refl _) _
  have hb1 : Below w.heap.size w ((w.alloc (.cells #[.slice none 0 0] 30)).alloc (.cells #[.pointer (some ⟨w.heap.size, 0, none⟩)] 94)) := hb0.alloc (by simp) _
  have hcp : ((w.alloc (.cells #[.slice none 0 0] 30)).alloc (.cells #[.pointer (some ⟨w.heap.size, 0, none⟩)] 94)).cell? ⟨w.heap.size, 0, none⟩ = some (.slice none 0 0) := (((Below.refl (w.heap.size + 1) _).alloc (by simp) _).cell (p := ⟨w.heap.size, 0, none⟩) (by simp)).trans (by simp)
  have hfp := z1 w (.slice none 0 0) (.pointer (some ⟨w.heap.size, 0, none⟩)) 30 94 0
  have hcq : ((w.alloc (.cells #[.slice none 0 0] 30)).alloc (.cells #[.pointer (some ⟨w.heap.size, 0, none⟩)] 94)).cell? ⟨w.heap.size + 1, 0, none⟩ = some (.pointer (some ⟨w.heap.size, 0, none⟩)) := by simp
  have hsz : ((w.alloc (.cells #[.slice none 0 0] 30)).alloc (.cells #[.pointer (some ⟨w.heap.size, 0, none⟩)] 94)).heap.size = w.heap.size + 2 := by simp
  have HG := hide (fun W => growing_ok w.heap.size W)
  have HF := hide (fun W (k : Below w.heap.size w W) => finding_ok v L size s W (hv.below k) hs h1 h2 (by omega) hw)
  have HV := hide (fun W (k : Below w.heap.size w W) => hv.below k)
  have hs' : (s.size : Int) ≤ 4000 := by omega
  have h2' : (size : Int) ≤ 64 := by omega
  have h1' : (1 : Int) ≤ size := by omega
  obtain ⟨a, c, rfl, _⟩ := hv
  unfold dmake
  rw [← Go.Delta.pd_all]
  generalize hR : pd (findW L) size s.data.toList [] [] = R
  have HR := hide hR
  clear hR hw
  go_enter Tryd.func34, Tryd.ntmps34
  go_wp2_with fail
  refine (HG.out _).mono ?_
  rintro e w1 ⟨rfl, rfl⟩
  rw [World.size_alloc]
  have Hb1 := hide hb1
  have Hcp := hide hcp
  have Hfp := hide hfp
  have Hcq := hide hcq
  have Hsz := hide hsz
  clear hb0 hb1 hcp hfp hcq hsz
  generalize (w.alloc (.cells #[.slice none 0 0] 30)).alloc (.cells #[.pointer (some ⟨w.heap.size, 0, none⟩)] 94) = w1 at *
  go_wp2_with fail
  refine (HF.out _ Hb1.out).mono ?_
  rintro e w2 ⟨b1, b2, b3, b4, b5, m, rv, rfl, henv, hb2, l1, l2, l3, l4, l5, lm⟩
  rw [Hsz.out] at l1 l2 l3 l4 l5 lm
  have hz2 := hb2.size
  rw [Hsz.out] at hz2
  have Hb2 := hide (bthen Hb1.out hb2)
  have k1 := World.block_lt_of_cell? _ _ henv.c1
  have k2 := World.block_lt_of_cell? _ _ henv.c2
  have k3 := World.block_lt_of_cell? _ _ henv.c3
  have k4 := World.block_lt_of_cell? _ _ henv.c4
  have k5 := World.block_lt_of_cell? _ _ henv.c5
  have km := henv.hm.lt
  have hgr : GrAt w.heap.size (w.heap.size + 1) w2.heap.size w2 [] (.slice none 0 0) := by
    have q1 := (hb2.cell (World.block_lt_of_cell? _ _ Hcq.out)).trans Hcq.out
    have q2 := (hb2.cell (World.block_lt_of_cell? _ _ Hcp.out)).trans Hcp.out
    have q3 := (hb2.frozen (World.block_lt_of_cell? _ _ Hcp.out)).trans Hfp.out
    exact ⟨q1, q2, q3, World.ownsRow_nil _ _ _ _, by omega, by omega, Nat.le_refl _⟩
  have Hgr := hide hgr
  have Henv := hide henv
  have hcell := hgr.cp
  have HEB : Hid (∀ W, Betw w.heap.size w2.heap.size w2 W → FEnv b1 b2 b3 b4 b5 m W L size s rv (.slice a L.length c)) := by
    intro W hbt
    refine Henv.out.betw hbt ⟨by omega, k1⟩ ⟨by omega, k2⟩ ⟨by omega, k3⟩ ⟨by omega, k4⟩ ⟨by omega, k5⟩ ⟨by omega, km⟩ ?_ (HV.out W (Hb2.out.trans hbt.below))
    intro a' n' c' er hn g eg
    obtain ⟨a2, n2, c2', e2, _, hc2⟩ := Henv.out.hr
    rw [er] at e2
    cases e2
    obtain ⟨g2, eg2, hcg⟩ := hc2 hn
    rw [eg] at eg2
    cases eg2
    have hx := hcg 0 hn
    refine ⟨fun e => ?_, World.block_lt_of_cell? _ _ hx⟩
    subst e
    rw [hcell] at hx
    cases hx
  have HFA : Hid (∀ W at_, Betw w.heap.size w2.heap.size w2 W → at_ < s.size → Calls Tryd.prog 78 #[.int .i64 at_, .pointer (some ⟨b1, 0, none⟩), .pointer (some ⟨b2, 0, none⟩), .pointer (some ⟨b3, 0, none⟩), .pointer (some ⟨b4, 0, none⟩), .pointer (some ⟨b5, 0, none⟩)] W
      fun r w' => r = .returned (.int .i64 (findW L ((s.data.toList.drop at_).take size))) ∧ Below W.heap.size W w') := fun W at_ hbt ha => findAt_ok b1 b2 b3 b4 b5 m W L size s rv _ (HEB.out W hbt) at_ hs h2 h1 (by omega) ha
  have hp2 : w.heap.size ≤ w2.heap.size := by omega
  clear henv hb2 l1 l2 l3 l4 l5 lm k1 k2 k3 k4 k5 km hcell hgr HEB Henv HF HG Hcp Hfp Hcq Hb1
  generalize hp : w.heap.size = p at *
  go_wp2_with fail
  go_loopw [11, 12] (fun t11 t12 wr => ∃ (told at_ : Nat) (l : List Opx), t11 = .int .i64 told ∧ t12 = .int .i64 at_ ∧ told ≤ at_ ∧ at_ ≤ s.size ∧ Hid (pd (findW L) size (s.data.toList.drop at_) ((s.data.toList.drop told).take (at_ - told)) l = R) ∧ Hid (∃ v', GrAt p (p + 1) w2.heap.size wr l v') ∧ Hid (Sane l) ∧ l.length ≤ 2 * at_ ∧ Hid (Betw p w2.heap.size w2 wr)) (fun _ t12 _ => s.size - (intOf t12).toNat)
  case atStart => exact ⟨0, 0, [], rfl, rfl, by omega, by omega, by simpa [Hid] using HR.out, ⟨_, Hgr.out⟩, (fun o ho => by cases ho), Nat.zero_le _, Betw.refl _ _ _⟩
  case round =>
    clear HR Hgr
    obtain ⟨told, at_, l, rfl, rfl, hta, has, Hpd, Hg, Hsn, hll, Hbt⟩ := hrel
    have hta' : (told : Int) ≤ at_ := by omega
    have has' : (at_ : Int) ≤ s.size := by omega
    by_cases hlt : at_ < s.size
    · have hlt' : (at_ : Int) < s.size := by omega
      have Hst := hide (pd_step (findW L) size at_ s.data.toList ((s.data.toList.drop told).take (at_ - told)) l (by rw [lenL]; exact hlt) h1)
      rw [Hpd.out] at Hst
      have HFa := hide (HFA.out wr at_ Hbt.out hlt)
      have hkl := findW_lt L ((s.data.toList.drop at_).take size)
      generalize findW L ((s.data.toList.drop at_).take size) = k at *
      by_cases hk : 0 ≤ k
      · have hk' : decide (k < 0) = false := by simp; omega
        have hR := Hst.out
        rw [if_pos hk, lenL] at hR
        have HR := hide hR
        have ex : (s.extract told at_).data.toList = (s.data.toList.drop told).take (at_ - told) := extractL s told at_
        have HGF := hide (fun W (l' : List Opx) v' (g : GrAt p (p + 1) w2.heap.size W l' v') (h : l'.length ≤ 1000000) => growFresh_ok p (p + 1) w2.heap.size l' v' (s.extract told at_) W g h)
        rw [ex] at HGF
        generalize (s.data.toList.drop told).take (at_ - told) = pend at *
        have hdl := addData_len l pend
        have hcl := addCopy_len (addData l pend) k
        have Hsn2 := hide (Hsn.out.data pend)
        have Hsn3 := hide ((Hsn.out.data pend).copy k hk (by omega))
        have hsz' : (at_ : Int) + (size : Int) ≤ 5000 := by omega
        clear hR Hst Hpd ex HFA Hsn
        go_wp2_with fail
        refine HFa.out.mono ?_
        rintro e w3 ⟨rfl, hb3⟩
        obtain ⟨v0, hg0⟩ := Hg.out
        have Hg3 := hide (hg0.kept hb3)
        have Hbt3 := hide (Hbt.out.trans (Betw.of_below hb3 hg0.le (by have := hg0.pq; have := hg0.qb; have := hg0.le; omega)))
        clear hg0 hb3 Hg Hbt HFa
        go_wp2_with fail
        refine (HGF.out _ _ _ Hg3.out (by omega)).mono ?_
        rintro e w4 ⟨rfl, ⟨v4, hg4⟩, hbt4⟩
        have Hg4 := hide hg4
        have Hbt4 := hide (Hbt3.out.trans hbt4)
        clear hg4 hbt4 Hg3 Hbt3 HGF
        go_wp2_with fail
        refine (growCopied_ok p (p + 1) w2.heap.size _ v4 k _ Hg4.out Hsn2.out (by omega)).mono ?_
        rintro e w5 ⟨rfl, hg5, hbt5⟩
        have Hg5 := hide hg5
        have Hbt5 := hide (Hbt4.out.trans hbt5)
        clear hg5 hbt5 Hg4 Hbt4 Hsn2
        by_cases hge : at_ + size ≤ s.size
        · have hif : (if (s.size : Int) < (at_ : Int) + (size : Int) then (s.size : Int) else (at_ : Int) + (size : Int)) = (at_ : Int) + (size : Int) := if_neg (by omega)
          have hmn : min (at_ + size) s.size = at_ + size := by omega
          rw [hmn] at HR
          go_wp2_with fail
          go_roundw
          case rel =>
            refine ⟨at_ + size, at_ + size, _, by go_num, by go_num, by omega, by omega, ?_, Hg5.out, Hsn3.out, by omega, Hbt5.out⟩
            rw [Nat.sub_self, List.take_zero]
            exact HR.out.symm
          case measure => simp [intOf]; omega
        · have hif : (if (s.size : Int) < (at_ : Int) + (size : Int) then (s.size : Int) else (at_ : Int) + (size : Int)) = (s.size : Int) := if_pos (by omega)
          have hmn : min (at_ + size) s.size = s.size := by omega
          rw [hmn] at HR
          go_wp2_with fail
          go_roundw
          case rel =>
            refine ⟨s.size, s.size, _, by go_num, by go_num, by omega, by omega, ?_, Hg5.out, Hsn3.out, by omega, Hbt5.out⟩
            rw [Nat.sub_self, List.take_zero]
            exact HR.out.symm
          case measure => simp [intOf]; omega
      · have hk' : decide (k < 0) = true := by simp; omega
        have hR := Hst.out
        rw [if_neg hk] at hR
        have hpm := pend_more s.data.toList told at_ hta (by rw [lenL]; exact hlt)
        rw [← hpm] at hR
        have HR := hide hR
        clear hR Hst Hpd hpm HFA
        go_wp2_with fail
        refine HFa.out.mono ?_
        rintro e w3 ⟨rfl, hb3⟩
        obtain ⟨v0, hg0⟩ := Hg.out
        have Hg3 := hide (hg0.kept hb3)
        have Hbt3 := hide (Hbt.out.trans (Betw.of_below hb3 hg0.le (by have := hg0.pq; have := hg0.qb; have := hg0.le; omega)))
        clear hg0 hb3 Hg Hbt HFa
        go_wp2_with fail
        go_roundw
        case rel => exact ⟨told, at_ + 1, l, rfl, by go_num, by omega, by omega, HR.out.symm, ⟨_, Hg3.out⟩, Hsn.out, by omega, Hbt3.out⟩
        case measure => simp [intOf]; omega
    · have hle : (s.size : Int) ≤ (at_ : Int) := by omega
      have hR := Hpd.out
      rw [List.drop_eq_nil_of_le (by rw [lenL]; omega), pd, List.take_of_length_le (by rw [List.length_drop, lenL]; omega)] at hR
      have HR := hide hR
      have ex : (s.extract told s.size).data.toList = s.data.toList.drop told := by
        rw [extractL, List.take_of_length_le (by rw [List.length_drop, lenL]; omega)]
      obtain ⟨v0, hg0⟩ := Hg.out
      have HGF := hide (growFresh_ok p (p + 1) w2.heap.size l v0 (s.extract told s.size) wr hg0 (by omega))
      rw [ex] at HGF
      have hts : (told : Int) ≤ s.size := by omega
      clear hR ex hg0 Hpd Hg HFA
      go_wp2_with fail
      refine HGF.out.mono ?_
      rintro e w4 ⟨rfl, ⟨v4, hg4⟩, hbt4⟩
      have Hg4 := hide hg4
      have Hbt4 := hide (Hbt.out.trans hbt4)
      have cp := hg4.cp
      clear hg4 hbt4 HGF Hbt
      go_wp2_with fail
      go_ret
      refine ⟨_, rfl, ?_, by rw [hp]; exact Hb2.out.trans Hbt4.out.below⟩
      rw [← HR.out, hp]
      exact own_mono Hg4.out.own hp2

/-- The blocks' errors, or ErrBound, or ops. -/
def MakeRes (e : EV) (base : Nat) (L : List Blk) (size : Int) (s : List UInt8) (w' : World) (r : Ending) : Prop :=
  if (Go.Sign.fault L size).1 = 0 then
    (if s.length ≤ 4000 then (∃ u, r = .returned (.tuple #[u, .nilIface]) ∧ w'.ownsRow base 61 4 u (dmake L size.toNat s).length (ocs (dmake L size.toNat s))) else r = .returned (.tuple #[.slice none 0 0, .iface e.tB e.xB]))
  else ∃ x, r = .returned (.tuple #[.slice none 0 0, x]) ∧ CheckRes e base (Go.Sign.fault L size) w' (.returned x)

section
variable (a : Option Addr) (n c : Nat) (size : Int) (s : ByteArray) (w : World)
set_option maxHeartbeats 1000000 in
set_option maxRecDepth 100000 in
theorem make_err (P : TypeId → Value → World → Prop) (h : Calls Tryd.prog 33 #[.slice a n c, .int .i64 size] w fun r w' => (∃ t x, r = .returned (.iface t x) ∧ P t x w') ∧ Below w.heap.size w w') :
    Calls Tryd.prog 12 #[.slice a n c, .int .i64 size, .string s] w fun r w' => (∃ t x, r = .returned (.tuple #[.slice none 0 0, .iface t x]) ∧ P t x w') ∧ Below w.heap.size w w' := by
  have HW := hide h
  clear h
  go_enter Tryd.func12, Tryd.ntmps12
  go_wp2_with fail
  refine HW.out.mono ?_
  rintro e1 w1 ⟨⟨t, x, rfl, hp⟩, hb1⟩
  have Hp := hide hp
  have Hb1 := hide hb1
  clear hb1 hp
  go_wp2
  go_ret2
  exact ⟨⟨t, x, rfl, Hp.out⟩, Hb1.out⟩
set_option maxHeartbeats 1000000 in
set_option maxRecDepth 100000 in
theorem make_long (t : TypeId) (x : Value) (hs : 4000 < s.size) (hss : s.size ≤ 1000000) (h : Calls Tryd.prog 33 #[.slice a n c, .int .i64 size] w fun r w' => r = .returned .nilIface ∧ Below w.heap.size w w')
    (hB : w.cell? ⟨0, 0, none⟩ = some (.iface t x)) :
    Calls Tryd.prog 12 #[.slice a n c, .int .i64 size, .string s] w fun r w' => r = .returned (.tuple #[.slice none 0 0, .iface t x]) ∧ Below w.heap.size w w' := by
  have HW := hide h
  have HB := hide hB
  have hs' : (4000 : Int) < s.size := by omega
  have hss' : (s.size : Int) ≤ 1000000 := by omega
  clear h hB
  go_enter Tryd.func12, Tryd.ntmps12
  go_wp2_with fail
  refine HW.out.mono ?_
  rintro e1 w1 ⟨rfl, hb1⟩
  have hB1 := (hb1.cell (World.block_lt_of_cell? _ _ HB.out)).trans HB.out
  have Hb1 := hide hb1
  clear hb1
  go_wp2_with fail
  go_quiet (fail)
  go_wp2
  go_ret2
  exact ⟨rfl, Hb1.out.trans ⟨rfl, rfl, rfl, Nat.le_refl _, fun _ _ => rfl⟩⟩
set_option maxHeartbeats 1000000 in
set_option maxRecDepth 100000 in
theorem make_fine (l : List Opx) (hs : s.size ≤ 4000) (h : Calls Tryd.prog 33 #[.slice a n c, .int .i64 size] w fun r w' => r = .returned .nilIface ∧ Below w.heap.size w w')
    (h2 : ∀ W, Below w.heap.size w W → Calls Tryd.prog 34 #[.slice a n c, .int .i64 size, .string s] W fun r w' => ∃ u, r = .returned u ∧ w'.ownsRow W.heap.size 61 4 u l.length (ocs l) ∧ Below W.heap.size W w') :
    Calls Tryd.prog 12 #[.slice a n c, .int .i64 size, .string s] w fun r w' => (∃ u, r = .returned (.tuple #[u, .nilIface]) ∧ w'.ownsRow w.heap.size 61 4 u l.length (ocs l)) ∧ Below w.heap.size w w' := by
  have HW := hide h
  have H2 := hide h2
  have hs' : (s.size : Int) ≤ 4000 := by omega
  clear h h2
  go_enter Tryd.func12, Tryd.ntmps12
  go_wp2_with fail
  refine HW.out.mono ?_
  rintro e1 w1 ⟨rfl, hb1⟩
  have Hb1 := hide hb1
  clear hb1
  go_wp2_with fail
  refine (H2.out _ Hb1.out).mono ?_
  rintro e2 w2 ⟨u, rfl, hown, hb2⟩
  have Hown := hide (own_mono hown Hb1.out.size)
  have Hb2 := hide (bthen Hb1.out hb2)
  clear hb2 hown
  go_wp2
  go_ret2
  exact ⟨⟨_, rfl, Hown.out⟩, Hb2.out⟩
end

theorem make_ok (v : Value) (L : List Blk) (size : Int) (s : ByteArray) (e : EV) (w : World) (hv : RowIn w v L) (hL : L.length ≤ 900000) (hss : s.size ≤ 1000000) (he : Er2 e w) :
    Calls Tryd.prog 12 #[v, .int .i64 size, .string s] w fun r w' => MakeRes e w.heap.size L size s.data.toList w' r ∧ Below w.heap.size w w' := by
  have HC := check_ok v L size e w hv (by omega) he
  have hv' := hv
  obtain ⟨a, c, rfl, _⟩ := hv'
  by_cases hf : (Go.Sign.fault L size).1 = 0
  · obtain ⟨⟨s1, s2⟩, hn⟩ := Go.Sign.fault_zero hf
    have ⟨hb, _⟩ := Go.Sign.scanW_none s1 L 0 0 hn
    obtain ⟨z, rfl⟩ := Int.eq_ofNat_of_zero_le (show 0 ≤ size by omega)
    have HC' := HC.mono (R' := fun r w' => r = .returned .nilIface ∧ Below w.heap.size w w') (fun r w' ⟨h1, h2⟩ => ⟨by rw [CheckRes, if_pos (Or.inl hf), hf] at h1; exact h1, h2⟩)
    by_cases hs : s.size ≤ 4000
    · refine (make_fine _ _ _ _ s w (dmake L z s.data.toList) hs HC' fun W k => made_ok _ L z s W (hv.below k) hs (by omega) (by omega) hL (fun b hx => ⟨(hb b hx).2.2.1, (hb b hx).2.2.2⟩)).mono ?_
      rintro r w' ⟨h1, h2⟩
      refine ⟨?_, h2⟩
      rw [MakeRes, if_pos hf, if_pos (by rw [lenL]; exact hs), Int.toNat_natCast]
      exact h1
    · refine (make_long _ _ _ _ s w _ _ (by omega) hss HC' he.bound).mono ?_
      rintro r w' ⟨h1, h2⟩
      refine ⟨?_, h2⟩
      rw [MakeRes, if_pos hf, if_neg (by rw [lenL]; exact hs)]
      exact h1
  · have hfo : ∀ r w', CheckRes e w.heap.size (Go.Sign.fault L size) w' r → ∃ t x, r = .returned (.iface t x) := by
      intro r w' h
      unfold CheckRes at h
      split at h
      · obtain ⟨t, x, ev⟩ := errV_form e _ hf
        exact ⟨t, x, by rw [h, ev]⟩
      · obtain ⟨p, hp, _⟩ := h
        exact ⟨_, _, hp⟩
    refine (make_err _ _ _ _ s w (fun t x w' => CheckRes e w.heap.size (Go.Sign.fault L size) w' (.returned (.iface t x))) (HC.mono fun r w' ⟨h1, h2⟩ => ⟨?_, h2⟩)).mono ?_
    · obtain ⟨t, x, rfl⟩ := hfo r w' h1
      exact ⟨t, x, rfl, h1⟩
    · rintro r w' ⟨⟨t, x, rfl, h1⟩, h2⟩
      refine ⟨?_, h2⟩
      rw [MakeRes, if_neg hf]
      exact ⟨_, rfl, h1⟩
/-- Right blocks, a file that is not too long. -/
theorem make_right (v : Value) (L : List Blk) (size : Nat) (s : ByteArray) (e : EV) (w : World) (hv : RowIn w v L) (hL : L.length ≤ 900000) (hs : s.size ≤ 4000) (hf : (Go.Sign.fault L size).1 = 0) (he : Er2 e w) :
    Calls Tryd.prog 12 #[v, .int .i64 size, .string s] w fun r w' => (∃ u, r = .returned (.tuple #[u, .nilIface]) ∧ w'.ownsRow w.heap.size 61 4 u (dmake L size s.data.toList).length (ocs (dmake L size s.data.toList))) ∧ Below w.heap.size w w' := by
  refine (make_ok v L size s e w hv hL (by omega) he).mono ?_
  rintro r w' ⟨hm, hb⟩
  rw [MakeRes, if_pos hf, if_pos (by rw [lenL]; exact hs), Int.toNat_natCast] at hm
  exact ⟨hm, hb⟩
end Go.Proofs.YtcenohaadggdiacDoor
