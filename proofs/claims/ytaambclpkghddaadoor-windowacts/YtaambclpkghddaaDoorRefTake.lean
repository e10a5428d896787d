/-
  Contract of the document's Sender.Take over this dump: any sender, any number, any list of numbers.
-/
import Derived.Test.YtaambclpkghddaaDoorRefPush
import Derived.Test.YtaambclpkghddaaDoorWinOk
namespace Go.Proofs.YtaambclpkghddaaDoor
open Go.RowKit
open Go.Window (Sn dist far oldest)

/-- Whether a kept one is kept still. -/
def stays (s : Sn) (n : Int) (more : List Int) (p : Nat × ByteArray) : Bool := !(decide (dist (oldest s) p.1 < far s n) || more.contains (p.1 : Int))
theorem ack_stays (s : Sn) (n : Int) (more : List Int) : s.ack n more = ⟨s.next, s.kept.filter (stays s n more)⟩ := rfl
theorem filter_snoc {α : Type} (l : List α) (f : α → Bool) (i : Nat) (h : i < l.length) : (l.take (i + 1)).filter f = (l.take i).filter f ++ (if f l[i] then [l[i]] else []) := by
  rw [List.take_succ_eq_append_getElem h, List.filter_append]
  congr 1
  cases e : f l[i] <;> simp [e]
theorem far_nil {s : Sn} (h : s.kept = []) (n : Int) : far s n = 0 := by unfold far; rw [h]
theorem far_cons {s : Sn} {q : Nat × ByteArray} {l : List (Nat × ByteArray)} (h : s.kept = q :: l) (n : Int) : far s n = if (0 ≤ n ∧ n < 65536) ∧ dist q.1 n.toNat ≤ dist q.1 s.next then dist q.1 n.toNat else 0 := by unfold far; rw [h]
theorem oldest_cons {s : Sn} {q : Nat × ByteArray} {l : List (Nat × ByteArray)} (h : s.kept = q :: l) : oldest s = q.1 := by unfold oldest; rw [h]
theorem dist_lt (a b : Nat) : dist a b < 65536 := by unfold dist; omega
theorem contains_take (l : List Int) (k : Nat) (h : k < l.length) (x : Int) : (l.take (k + 1)).contains x = ((l.take k).contains x || l[k] == x) := by
  rw [List.take_succ_eq_append_getElem h]
  simp only [List.contains_eq_any_beq, List.any_append, List.any_cons, List.any_nil, Bool.or_false]
  congr 1
  rw [Bool.eq_iff_iff, beq_iff_eq, beq_iff_eq]
  exact eq_comm

set_option maxHeartbeats 1000000 in
set_option maxRecDepth 100000 in
theorem rtake_ok (p : Nat) (s : Sn) (n : Int) (v : Value) (more : List Int) (W : World) (hs : s.Ok) (hm : more.length ≤ 1000000) (M : Foot) (hM : Star [RSn p s] M W) (hv : Row1 intV W v more) (ho : Out M v) :
    Calls Tryd.prog 21 #[.pointer (some ⟨p, 0, none⟩), .int .i64 n, v] W fun r w' => ∃ L1, (r = .returned (.int .i64 ((s.kept.length : Int) - (s.ack n more).kept.length)) ∧ L1 = [RSn p (s.ack n more)]) ∧ Sep M W L1 w' := by
  obtain ⟨i0, hi, hz0, hz1, hz2⟩ := info_parts Tryd.infoI
  obtain ⟨j0, hj, ky0, ky1, ky2⟩ := info_parts Tryd.infoS
  obtain ⟨⟨vn, vd⟩, hS⟩ := (Sep.of_star hM).unpack
  simp only [List.cons_append, List.nil_append] at hS
  obtain ⟨an, cn, rfl, hcn⟩ := own_slice hS.sw.own
  obtain ⟨ad, cd, rfl, hcd⟩ := own_slice hS.third.own
  have HS := hide hS
  have c0 := (hS.cell 0).1
  have c1 := (hS.cell 1).1
  have c2 := (hS.cell 2).1
  simp only [List.getElem?_cons_zero, List.getElem?_cons_succ] at c0 c1 c2
  have hlen := hs.length
  have hnext := hs.next
  have hnext' : (s.next : Int) ≤ 65535 := by omega
  have hlen' : (s.kept.length : Int) ≤ 32 := by omega
  rw [ack_stays]
  by_cases hk : s.kept = []
  · have hz : s.kept.length = 0 := by rw [hk]; rfl
    have hfin : Hid (RSn p ⟨s.next, s.kept.filter (stays s n more)⟩ = RSn p s ∧ (s.kept.length : Int) - (s.kept.filter (stays s n more)).length = 0) := by
      constructor
      · congr 1
        rw [hk]
        simp only [List.filter_nil]
        rw [← hk]
      · rw [hk]; rfl
    rw [hfin.out.1, hfin.out.2]
    have HF : Hid (∀ nq, Sep M W [RSn p s] (W.drewN nq)) := fun nq => Sep.pack (f := rsnL p s) (_, _) (HS.out.keep (below_drewN (Below.refl _ _) nq))
    clear hS HS hs hM hv ho hk hfin hlen hcn hcd
    generalize s.kept.length = m at *
    subst hz
    go_enter Tryd.func21, Tryd.ntmps21
    go_wp2_with fail
    go_ret
    exact ⟨_, ⟨rfl, rfl⟩, HF.out 0⟩
  · obtain ⟨q, l, hk⟩ : ∃ q l, s.kept = q :: l := by
      cases h : s.kept with
      | nil => exact absurd h hk
      | cons q l => exact ⟨q, l, rfl⟩
    have hq : q.1 < 65536 := (hs.lt q (by rw [hk]; exact List.mem_cons_self ..)).1
    have hq' : (q.1 : Int) ≤ 65535 := by omega
    have hq0 : 0 ≤ (q.1 : Int) := by omega
    obtain ⟨g, rfl, g0⟩ : ∃ g, an = some ⟨g, 0, none⟩ ∧ W.cell? ⟨g, 0, none⟩ = some (.int .i64 (q.1 : Int)) := by
      have ho := hS.sw.own
      rw [hk, List.map_cons] at ho
      obtain ⟨g, e1, e2⟩ := own_at0 (by simpa only [List.length_cons] using ho)
      exact ⟨g, e1, e2⟩
    obtain ⟨gd, rfl⟩ : ∃ gd, ad = some ⟨gd, 0, none⟩ := by
      have ho := hS.third.own
      rw [hk, List.map_cons] at ho
      obtain ⟨gd, e, _⟩ := own_at0 (by simpa only [List.length_cons] using ho)
      exact ⟨gd, e⟩
    have HR : Hid (∀ wr L, Sep M W L wr → Row1 intV wr v more) := fun wr L h => by
      obtain ⟨M', _, hst⟩ := h
      exact (hv.step ho hst).1
    have hpos : 0 < s.kept.length := by rw [hk]; simp
    have hlz : ((s.kept.length : Int) == 0) = false := by rw [beq_eq_false_iff_ne]; omega
    have hm' : (more.length : Int) ≤ 1000000 := by omega
    have Hlt := hide (fun (i : Nat) (h : i < s.kept.length) => (hs.lt _ (List.getElem_mem h)).1)
    have HD := hide (fun (b : Nat) (hb : b < 65536) W => distance_ok q.1 b W hq hb)
    have Hfar : Hid (far s n = if (0 ≤ n ∧ n < 65536) ∧ dist q.1 n.toNat ≤ dist q.1 s.next then dist q.1 n.toNat else 0) := far_cons hk n
    have hfl : (far s n : Int) ≤ 65535 := by
      rw [Hfar.out]
      have := dist_lt q.1 n.toNat
      split <;> omega
    have Hst : Hid (∀ x, stays s n more x = !(decide (dist q.1 x.1 < far s n) || more.contains (x.1 : Int))) := fun x => by unfold stays; rw [oldest_cons hk]
    have Hsn := hide hnext
    have HQ := hide (fun W => isSeq_ok n W)
    obtain ⟨am, cm, rfl, -⟩ := hv
    clear hS hM ho hcn hcd hs hk hlen hm hnext hq
    go_enter Tryd.func21, Tryd.ntmps21
    go_wp2_with fail
    refine (HQ.out _).mono ?_
    rintro r w1 ⟨rfl, rfl⟩
    go_upto_if 30 with fail
    go_cut [8, 9] (fun v8 _ wc => v8 = .int .i64 (far s n : Nat) ∧ Hid (∃ nq, wc = w1.drewN nq))
    case first =>
      cases hsq : seqB n with
      | false =>
        have e : ¬ ((0 ≤ n ∧ n < 65536) ∧ dist q.1 n.toNat ≤ dist q.1 s.next) := by
          intro h
          have := of_decide_eq_false hsq
          exact this h.1
        have HE : Hid (far s n = 0) := by have := Hfar.out; rw [if_neg e] at this; exact this
        clear e
        go_wp2_with fail
        go_meet
        case rel => exact ⟨by rw [HE.out]; rfl, 0, rfl⟩
      | true =>
        have hsn := of_decide_eq_true hsq
        obtain ⟨x, rfl⟩ : ∃ x : Nat, n = x := ⟨n.toNat, by omega⟩
        have hx : x < 65536 := by omega
        have HE := Hfar.out
        rw [Int.toNat_natCast] at HE
        have hd1 : ((dist q.1 x : Nat) : Int) ≤ 65535 := by have := dist_lt q.1 x; omega
        have HX := hide hx
        clear Hst Hfar hfl HS HR Hlt HQ hx
        by_cases hle : dist q.1 x ≤ dist q.1 s.next
        · have hle' : ((dist q.1 x : Nat) : Int) ≤ (dist q.1 s.next : Nat) := by omega
          rw [if_pos ⟨hsn, hle⟩] at HE
          have HE := hide HE
          clear hsn hsq hle
          go_wp2_with fail
          go_quiet ((go_at_call 37; exact Calls.quiet_of_same (HD.out _ (by first | exact HX.out | exact Hsn.out) _)))
          go_wp2_with fail
          refine (HD.out _ HX.out _).mono ?_
          rintro r w2 ⟨rfl, rfl⟩
          go_wp2_with fail
          go_meet
          case rel => exact ⟨by first | (rw [HE.out]; done) | (rw [HE.out]; rfl), _, rfl⟩
        · have hle' : ((dist q.1 s.next : Nat) : Int) < (dist q.1 x : Nat) := by omega
          rw [if_neg (fun h => hle h.2)] at HE
          have HE := hide HE
          clear hsn hsq hle
          go_wp2_with fail
          go_quiet ((go_at_call 37; exact Calls.quiet_of_same (HD.out _ (by first | exact HX.out | exact Hsn.out) _)))
          go_wp2_with fail
          go_meet
          case rel => exact ⟨by first | (rw [HE.out]; done) | (rw [HE.out]; rfl), _, rfl⟩
    case rest =>
      obtain ⟨rfl, Hq⟩ := hcut
      have HSc : Hid (Sep M w1 [OwnF 3 1 (.slice none 0 0) ((s.kept.take 0).filter (stays s n more)).length (((s.kept.take 0).filter (stays s n more)).map numV), OwnF 9 1 (.slice none 0 0) ((s.kept.take 0).filter (stays s n more)).length (((s.kept.take 0).filter (stays s n more)).map txtV), CellsF p 51 [.int .i64 (s.next : Int), .slice (some ⟨g, 0, none⟩) s.kept.length cn, .slice (some ⟨gd, 0, none⟩) s.kept.length cd], OwnF 3 1 (.slice (some ⟨g, 0, none⟩) s.kept.length cn) s.kept.length (s.kept.map numV), OwnF 9 1 (.slice (some ⟨gd, 0, none⟩) s.kept.length cd) s.kept.length (s.kept.map txtV)] wc) := by
        obtain ⟨nq, hq⟩ := Hq.out
        have h := HS.out.keep (below_drewN (Below.refl _ _) nq)
        rw [← hq] at h
        exact ((h.nil 3 1).nil 9 1).sw
      generalize far s n = fa at *
      generalize hKs : stays s n more = st at *
      have Hfin : Hid (∀ v1 v2 m w', Sep M w1 [CellsF p 51 [.int .i64 (s.next : Int), v1, v2], OwnF 3 1 v1 m ((s.kept.filter st).map numV), OwnF 9 1 v2 m ((s.kept.filter st).map txtV)] w' → m = (s.kept.filter st).length → Sep M w1 [RSn p ⟨s.next, s.kept.filter st⟩] w') := fun v1 v2 m w' h e => by
        subst e
        exact Sep.pack (f := rsnL p ⟨s.next, s.kept.filter st⟩) (v1, v2) h
      have Hflen := hide (fun i => Nat.le_trans (List.length_filter_le st (s.kept.take i)) (List.length_take_le' i s.kept))
      have Hsnoc := hide (fun i h => filter_snoc s.kept st i h)
      have Hnum : Hid (∀ L wr, Sep M w1 (CellsF p 51 [.int .i64 (s.next : Int), .slice (some ⟨g, 0, none⟩) s.kept.length cn, .slice (some ⟨gd, 0, none⟩) s.kept.length cd] :: OwnF 3 1 (.slice (some ⟨g, 0, none⟩) s.kept.length cn) s.kept.length (s.kept.map numV) :: OwnF 9 1 (.slice (some ⟨gd, 0, none⟩) s.kept.length cd) s.kept.length (s.kept.map txtV) :: L) wr → ∀ i (h : i < s.kept.length), wr.cell? ⟨g, i, none⟩ = some (.int .i64 (s.kept[i].1 : Int)) ∧ wr.cell? ⟨gd, i, none⟩ = some (.string s.kept[i].2)) := by
        intro L wr h i hi
        refine ⟨(h.sw.own.cellAt i (by omega)).trans ?_, (h.third.own.cellAt i (by omega)).trans ?_⟩ <;> (rw [List.getElem?_map, List.getElem?_eq_getElem hi]; rfl)
      have Hall := hide (fun i (h : s.kept.length ≤ i) => (List.take_of_length_le h : s.kept.take i = s.kept))
      have hKs' := hide hKs
      have HLm : Hid ((s.kept.filter st).length = (⟨s.next, s.kept.filter (stays s n more)⟩ : Sn).kept.length) := by rw [hKs]; rfl
      clear HS Hq hKs c0 c1 c2 g0 Hfar HQ
      go_wp2_with fail
      go_loopw [10, 11, 12] (fun t10 t11 t12 wr => ∃ i : Nat, t12 = .int .i64 i ∧ i ≤ s.kept.length ∧ Hid (Sep M w1 [OwnF 3 1 t10 ((s.kept.take i).filter st).length (((s.kept.take i).filter st).map numV), OwnF 9 1 t11 ((s.kept.take i).filter st).length (((s.kept.take i).filter st).map txtV), CellsF p 51 [.int .i64 (s.next : Int), .slice (some ⟨g, 0, none⟩) s.kept.length cn, .slice (some ⟨gd, 0, none⟩) s.kept.length cd], OwnF 3 1 (.slice (some ⟨g, 0, none⟩) s.kept.length cn) s.kept.length (s.kept.map numV), OwnF 9 1 (.slice (some ⟨gd, 0, none⟩) s.kept.length cd) s.kept.length (s.kept.map txtV)] wr)) (fun _ _ t12 _ => s.kept.length - (intOf t12).toNat)
      case atStart => exact ⟨0, rfl, Nat.zero_le _, HSc.out⟩
      case round =>
        obtain ⟨i, rfl, hi, Hs⟩ := hrel
        have hsw := Sep.swap (L1 := [_, _]) Hs.out
        simp only [List.cons_append, List.nil_append] at hsw
        have c0 := (hsw.cell 0).1
        have c1 := (hsw.cell 1).1
        have c2 := (hsw.cell 2).1
        simp only [List.getElem?_cons_zero, List.getElem?_cons_succ] at c0 c1 c2
        have hfl2 := Hflen.out i
        by_cases hlt : i < s.kept.length
        · have hlt' : (i : Int) < s.kept.length := by omega
          obtain ⟨n0, d0⟩ := Hnum.out _ _ hsw i hlt
          have Hx := hide (Hlt.out i hlt)
          have Hsx := hide (Hst.out s.kept[i])
          have Hsn' := hide (Hsnoc.out i hlt)
          obtain ⟨_, _, em, hrow⟩ := HR.out wr _ Hs.out
          cases em
          have Hrow := hide hrow
          have Hi : Hid (i ≤ s.kept.length) := hi
          have hx' : (s.kept[i].1 : Int) ≤ 65535 := by have := Hx.out; omega
          have HX : Hid ((s.kept.map txtV)[i]? = some (.string s.kept[i].2)) := by rw [List.getElem?_map, List.getElem?_eq_getElem hlt]; rfl
          clear hsw Hnum Hlt Hst Hsnoc HR hrow HSc Hfin Hall
          generalize s.kept[i] = x at *
          clear hlt
          generalize (s.kept.take i).filter st = fl at *
          go_wp2_with fail
          refine (HD.out x.1 Hx.out _).mono ?_
          rintro r w3 ⟨rfl, rfl⟩
          go_wp2_with fail
          go_loopw [13, 14] (fun t13 t14 wq => ∃ k : Nat, t14 = .int .i64 k ∧ k ≤ more.length ∧ t13 = .bool (decide (dist q.1 x.1 < fa) || (more.take k).contains (x.1 : Int)) ∧ Hid (Below w3.heap.size w3 wq)) (fun _ t14 _ => more.length - (intOf t14).toNat)
          case atStart => exact ⟨0, rfl, Nat.zero_le _, congrArg Value.bool (by simp), Below.refl _ _⟩
          case round =>
            obtain ⟨k, rfl, hkm, rfl, Hb⟩ := hrel
            have k1 := (Hb.out.cell (World.block_lt_of_cell? _ _ c1)).trans c1
            have k2 := (Hb.out.cell (World.block_lt_of_cell? _ _ c2)).trans c2
            have m0 := (Hb.out.cell (World.block_lt_of_cell? _ _ n0)).trans n0
            have m1 := (Hb.out.cell (World.block_lt_of_cell? _ _ d0)).trans d0
            by_cases hlt : k < more.length
            · have hlk : (k : Int) < more.length := by omega
              obtain ⟨b, o, rfl, hrow⟩ := Hrow.out (by omega)
              have r0 := hrow k hlt
              have r1 := (Hb.out.cell (World.block_lt_of_cell? _ _ r0)).trans r0
              have Hc := hide (contains_take more k hlt (x.1 : Int))
              unfold intV at r1
              clear hrow r0 c0 c1 c2 n0 d0 hKs'
              generalize more[k] = y at *
              generalize (more.take k).contains (x.1 : Int) = B at *
              clear hlt
              by_cases hxy : y = (x.1 : Int)
              · subst hxy
                have hyy : ((x.1 : Int) == (x.1 : Int)) = true := by simp
                go_wp2_with fail
                go_quiet (fail)
                go_wp2_with fail
                go_roundw
                case rel => exact ⟨k + 1, by go_num, by omega, by rw [Hc.out]; simp, below_drewN Hb.out _⟩
                case measure => simp [intOf]; omega
              · have hyy : (y == (x.1 : Int)) = false := by simpa using hxy
                have Hyy := hide hyy
                clear hxy
                go_wp2_with fail
                go_quiet (fail)
                go_wp2_with fail
                go_roundw
                case rel => exact ⟨k + 1, by go_num, by omega, by rw [Hc.out, Hyy.out]; simp, below_drewN Hb.out _⟩
                case measure => simp [intOf]; omega
            · have hlk : (more.length : Int) ≤ (k : Int) := by omega
              have hB : (decide (dist q.1 x.1 < fa) || (more.take k).contains (x.1 : Int)) = !(st x) := by
                rw [List.take_of_length_le (by omega), Hsx.out]; simp
              have Hs2 := hide (Hs.out.keep Hb.out)
              have HB := hide hB
              obtain ⟨a10, b10, rfl, -⟩ := own_slice Hs2.out.own
              obtain ⟨a11, b11, rfl, -⟩ := own_slice Hs2.out.sw.own
              clear hB hlt Hrow c0 c1 c2 n0 d0 Hs hKs'
              generalize (decide (dist q.1 x.1 < fa) || (more.take k).contains (x.1 : Int)) = BB at *
              cases hst : st x with
              | false =>
                rw [hst] at HB Hsn'
                obtain rfl : BB = true := HB.out
                have Hnx : Hid (∀ wz, Sep M w1 [OwnF 3 1 (.slice a10 fl.length b10) fl.length (fl.map numV), OwnF 9 1 (.slice a11 fl.length b11) fl.length (fl.map txtV), CellsF p 51 [.int .i64 (s.next : Int), .slice (some ⟨g, 0, none⟩) s.kept.length cn, .slice (some ⟨gd, 0, none⟩) s.kept.length cd], OwnF 3 1 (.slice (some ⟨g, 0, none⟩) s.kept.length cn) s.kept.length (s.kept.map numV), OwnF 9 1 (.slice (some ⟨gd, 0, none⟩) s.kept.length cd) s.kept.length (s.kept.map txtV)] wz → Sep M w1 [OwnF 3 1 (.slice a10 fl.length b10) ((s.kept.take (i + 1)).filter st).length (((s.kept.take (i + 1)).filter st).map numV), OwnF 9 1 (.slice a11 fl.length b11) ((s.kept.take (i + 1)).filter st).length (((s.kept.take (i + 1)).filter st).map txtV), CellsF p 51 [.int .i64 (s.next : Int), .slice (some ⟨g, 0, none⟩) s.kept.length cn, .slice (some ⟨gd, 0, none⟩) s.kept.length cd], OwnF 3 1 (.slice (some ⟨g, 0, none⟩) s.kept.length cn) s.kept.length (s.kept.map numV), OwnF 9 1 (.slice (some ⟨gd, 0, none⟩) s.kept.length cd) s.kept.length (s.kept.map txtV)] wz) := fun wz h => by
                  rw [Hsn'.out]; simpa using h
                clear Hsn' HB hst Hsx
                go_wp2_with fail
                go_roundw
                case rel => exact ⟨i + 1, by go_num, by omega, Hnx.out _ Hs2.out⟩
                case measure => simp [intOf]; omega
              | true =>
                rw [hst] at HB Hsn'
                obtain rfl : BB = false := HB.out
                have Hnx : Hid (∀ u v wz, Sep M w1 [OwnF 3 1 u (fl.length + 1) (fl.map numV ++ [.int .i64 (x.1 : Int)]), OwnF 9 1 v (fl.length + 1) (fl.map txtV ++ [.string x.2]), CellsF p 51 [.int .i64 (s.next : Int), .slice (some ⟨g, 0, none⟩) s.kept.length cn, .slice (some ⟨gd, 0, none⟩) s.kept.length cd], OwnF 3 1 (.slice (some ⟨g, 0, none⟩) s.kept.length cn) s.kept.length (s.kept.map numV), OwnF 9 1 (.slice (some ⟨gd, 0, none⟩) s.kept.length cd) s.kept.length (s.kept.map txtV)] wz → Sep M w1 [OwnF 3 1 u ((s.kept.take (i + 1)).filter st).length (((s.kept.take (i + 1)).filter st).map numV), OwnF 9 1 v ((s.kept.take (i + 1)).filter st).length (((s.kept.take (i + 1)).filter st).map txtV), CellsF p 51 [.int .i64 (s.next : Int), .slice (some ⟨g, 0, none⟩) s.kept.length cn, .slice (some ⟨gd, 0, none⟩) s.kept.length cd], OwnF 3 1 (.slice (some ⟨g, 0, none⟩) s.kept.length cn) s.kept.length (s.kept.map numV), OwnF 9 1 (.slice (some ⟨gd, 0, none⟩) s.kept.length cd) s.kept.length (s.kept.map txtV)] wz) := fun u v wz h => by
                  rw [Hsn'.out]; simpa [numV, txtV] using h
                have Ho10 := hide Hs2.out.own
                clear Hsn' HB hst Hsx
                go_wp2_with (at_builtin; refine wpList_append_lies _ rfl (.tmp 84) (.tmp 92) 23 rfl 0 3 i0 (.int .i64 0) 1 8 Tryd.underlying23 ‹Tryd.prog.info? 3 = some i0› hz0 hz1 hz2 rfl (by decide) _ fl.length (fl.map numV) rfl (Ho10.out.alloc _) ⟨wr.heap.size, 0, none⟩ 1 1 [.int .i64 (x.1 : Int)] rfl rfl ?c1 ?c2 (by decide) ?b1 ?b2 (Nat.zero_le _) _ rfl ?next)
                case c1 => exact news1 _ _ _ _ rfl
                case c2 => intro u hu; simp at hu; subst hu; rfl
                case b1 => unfold maxLen; omega
                case b2 => omega
                case next =>
                  intro g1 e1 w5 own5 hg5 hat5 hlt5
                  have hs5 := ((Hs2.out.alloc (.cells #[.int .i64 (x.1 : Int)] 3)).lies own5 hg5 hat5 (by simp)).sw
                  have Hs5 := hide hs5
                  have Ho11 := hide hs5.own
                  have hsw := Sep.swap (L1 := [_, _]) hs5
                  simp only [List.cons_append, List.nil_append] at hsw
                  have c1 := (hsw.cell 1).1
                  have c2 := (hsw.cell 2).1
                  simp only [List.getElem?_cons_zero, List.getElem?_cons_succ] at c1 c2
                  have d0 : w5.cell? ⟨gd, i, none⟩ = some (.string x.2) := by
                    have h := hsw.third.own.cellAt i (by omega)
                    exact h.trans HX.out
                  clear own5 hg5 hat5 hlt5 hs5 hsw Hs2 Ho10 k1 k2 m0 m1
                  go_wp2_with (at_builtin; refine wpList_append_lies _ rfl (.tmp 94) (.tmp 102) 22 rfl 0 9 j0 (.string ⟨#[]⟩) 1 16 Tryd.underlying22 ‹Tryd.prog.info? 9 = some j0› ky0 ky1 ky2 rfl (by decide) _ fl.length (fl.map txtV) rfl (Ho11.out.alloc _) ⟨w5.heap.size, 0, none⟩ 1 1 [.string x.2] rfl rfl ?c1 ?c2 (by decide) ?b1 ?b2 (Nat.zero_le _) _ rfl ?next)
                  case c1 => exact news1 _ _ _ _ rfl
                  case c2 => intro u hu; simp at hu; subst hu; rfl
                  case b1 => unfold maxLen; omega
                  case b2 => omega
                  case next =>
                    intro g2 e2 w6 own6 hg6 hat6 hlt6
                    have Hs6 := hide ((Hs5.out.alloc (.cells #[.string x.2] 9)).lies own6 hg6 hat6 (by simp)).sw
                    clear own6 hg6 hat6 hlt6 Hs5 Ho11 c1 c2 d0
                    go_wp2_with fail
                    go_roundw
                    case rel => exact ⟨i + 1, by go_num, by omega, Hnx.out _ _ _ Hs6.out⟩
                    case measure => simp [intOf]; omega
        · have hle : (s.kept.length : Int) ≤ (i : Int) := by omega
          have he := Hall.out i (by omega)
          rw [he] at Hs hfl2 hsw
          obtain ⟨a10, b10, rfl, -⟩ := own_slice Hs.out.own
          obtain ⟨a11, b11, rfl, -⟩ := own_slice Hs.out.sw.own
          have f1 := (hsw.cell 1).2
          have f2 := (hsw.cell 2).2
          have hs3 := hsw.set 1 (.slice a10 (s.kept.filter st).length b10)
          simp only [List.set_cons_succ, List.set_cons_zero] at hs3
          have hs4 := hs3.set 2 (.slice a11 (s.kept.filter st).length b11)
          simp only [List.set_cons_succ, List.set_cons_zero] at hs4
          have Hs4 := hide hs4.sw.drop.sw.drop
          have hm2 : ((s.kept.filter st).length : Int) ≤ s.kept.length := by omega
          clear hs3 hs4 hsw Hs HSc Hnum HR Hlt Hst Hsnoc Hflen Hall he hfl2 HD Hsn
          generalize (s.kept.filter st).length = m at *
          go_wp2_with fail
          go_ret
          refine ⟨_, ⟨?_, rfl⟩, ?_⟩
          · exact ret_int (congrArg (fun z : Nat => (s.kept.length : Int) - z) HLm.out)
          · rw [hKs'.out]
            exact Hfin.out _ _ _ _ Hs4.out rfl
end Go.Proofs.YtaambclpkghddaaDoor
