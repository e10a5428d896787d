/-
  Contract of the document's Receiver.Take over this dump: any receiver, any number, any text.
-/
import Derived.Test.YtaambclpkghddaaDoorRefMore
import Derived.Maps.AppendAt
import Derived.Test.YtaambclpkghddaaDoorRefTexts
namespace Go.Proofs.YtaambclpkghddaaDoor
open Go.RowKit
open Go.Window (Rc Waits dist told)

def lenV : Value → Nat | .slice _ n _ => n | _ => 0
/-- The cells of a part of a row. -/
theorem news_take {w : World} {base n c g : Nat} {e : TypeId} {xs : List Value} (h : w.ownsRow base e 1 (.slice (some ⟨g, 0, none⟩) n c) n xs) (k : Nat) : ∀ j u, (xs.take k)[j]? = some u → w.cell? ((⟨g, 0, none⟩ : Addr).add j) = some u := by
  intro j u hu
  rw [List.getElem?_take] at hu
  split at hu
  · exact h.cells (g := g) rfl j u hu
  · cases hu
theorem news_drop {w : World} {base n c g : Nat} {e : TypeId} {xs : List Value} (h : w.ownsRow base e 1 (.slice (some ⟨g, 0, none⟩) n c) n xs) (k : Nat) (a : Addr) (ha : a = ⟨g, k, none⟩ ∨ n ≤ k) : ∀ j u, (xs.drop k)[j]? = some u → w.cell? (a.add j) = some u := by
  intro j u hu
  rw [List.getElem?_drop] at hu
  rcases ha with rfl | ha
  · have := h.cells (g := g) rfl (k + j) u hu
    rw [Go.WideShapes.add_plain] at this ⊢
    simpa using this
  · have := (List.getElem?_eq_some_iff.1 hu).1
    have hl := h.1
    omega
theorem plain_one (l : List (Nat × ByteArray)) (f : Nat × ByteArray → Value) (hf : ∀ x, (f x).oneCell' = true) : ∀ u ∈ l.map f, u.oneCell' = true := by
  intro u hu
  rw [List.mem_map] at hu
  obtain ⟨x, _, rfl⟩ := hu
  exact hf x

/-- What a number that comes does, where it waits not yet and is near enough. -/
theorem take_yes {r : Rc} {x : Nat} {d : ByteArray} (h1 : dist r.due x < 32) (h2 : r.slots[dist r.due x]? = some none) : r.take x d = (Rc.go ⟨r.due, r.slots.set (dist r.due x) (some d)⟩, told (r.slots.set (dist r.due x) (some d))) := by
  unfold Rc.take; rw [if_pos ⟨h1, h2⟩]
theorem take_no {r : Rc} {x : Nat} {d : ByteArray} (h : ¬ (dist r.due x < 32 ∧ r.slots[dist r.due x]? = some none)) : r.take x d = (r, []) := by
  unfold Rc.take; rw [if_neg h]
theorem takeI_no {r : Rc} {n : Int} {d : ByteArray} (h : ¬ (0 ≤ n ∧ n < 65536)) : r.takeI n d = (r, []) := by
  unfold Rc.takeI; rw [if_neg h]
theorem pop_of {r : Rc} {l : List (Nat × ByteArray)} (h : Waits r l) {k : Nat} (hk : k < l.length) (he : l[k].1 = r.due) : Waits r.pop (l.take k ++ l.drop (k + 1)) ∧ r.pop.go = r.go ∧ told r.slots = l[k].2 :: told r.pop.slots := by
  have e : l = l.take k ++ (r.due, l[k].2) :: l.drop (k + 1) := by
    rw [← he]
    have := List.take_append_drop k l
    rw [List.drop_eq_getElem_cons hk] at this
    exact this.symm
  rw [e] at h
  obtain ⟨h1, h2⟩ := h.pop
  exact ⟨h1, Go.Window.go_pop h2, Go.Window.told_pop h2⟩
theorem still_of {r : Rc} {l : List (Nat × ByteArray)} (h : Waits r l) (hn : ¬ ∃ p ∈ l, (p.1 : Int) = (r.due : Int)) : r.go = r ∧ told r.slots = [] := by
  refine Go.Window.go_still (fun x hx => hn ?_) h.due
  have h0 : dist r.due r.due = 0 := by have := h.due; unfold dist; omega
  exact ⟨(r.due, x), (h.mem r.due x).2 ⟨h.due, by rw [h0]; exact hx⟩, rfl⟩

set_option maxHeartbeats 1000000 in
set_option maxRecDepth 100000 in
theorem rrtake_ok (p : Nat) (r : Rc) (n : Int) (d : ByteArray) (W : World) (hd : d.size ≤ 1000000) :
    Tri Tryd.prog 23 #[.pointer (some ⟨p, 0, none⟩), .int .i64 n, .string d] [RRc p r] (fun e L => ∃ v, e = .returned v ∧ L = [RowF strV v (r.takeI n d).2, RRc p (r.takeI n d).1]) W := by
  intro M hM
  obtain ⟨i0, hi, hz0, hz1, hz2⟩ := info_parts Tryd.infoI
  obtain ⟨j0, hj, ky0, ky1, ky2⟩ := info_parts Tryd.infoS
  have HQ := hide (fun W => isSeq_ok n W)
  have Hno : Hid (∀ nq, ∃ L1, (∃ v, Ending.returned (.slice none 0 0) = .returned v ∧ L1 = [RowF strV v [], RRc p r]) ∧ Sep M W L1 (W.drewN nq)) := fun nq =>
    ⟨_, ⟨_, rfl, rfl⟩, Sep.more (L1 := [_]) ((Sep.of_star hM).keep (below_drewN (Below.refl _ _) nq)) (Below.refl _ _) (Star.one (RowF.fine _ _ _) (RowF.nil _)) (fun _ e => e.elim)⟩
  by_cases hs : 0 ≤ n ∧ n < 65536
  · obtain ⟨x, rfl⟩ : ∃ x : Nat, n = x := ⟨n.toNat, by omega⟩
    have hx : x < 65536 := by omega
    rw [show seqB (x : Int) = true from decide_eq_true hs] at HQ
    rw [Go.Window.Rc.takeI_nat r x hx]
    obtain ⟨⟨⟨v, l⟩, hw⟩, hS⟩ := (Sep.of_star hM).unpack
    simp only at hw hS
    obtain ⟨a, c, a', c', rfl, hca, hca', c0, c1, c2, hc, hc'⟩ := rrc_cells hS
    obtain ⟨k, hk, hno, hyes, hkl⟩ := place_find l (x : Int)
    have hll := waits_length hw
    have HP := hide (place_ok p l (x : Int) a c W (by omega) c1 hc k hk hno hyes)
    have hdue := hw.due
    have HD := hide (fun W => distance_ok r.due x W hdue hx)
    have hwi := hw.is x hx
    have hkw : k < l.length ↔ ∃ y, r.slots[dist r.due x]? = some (some y) := by
      rw [hkl, ← hwi, List.mem_map]
      constructor
      · rintro ⟨p, hp, e⟩; exact ⟨p, hp, by omega⟩
      · rintro ⟨p, hp, e⟩; exact ⟨p, hp, by rw [e]⟩
    by_cases hkx : k < l.length
    · have hv0 : 0 ≤ placeV k l.length := by unfold placeV; rw [if_pos hkx]; omega
      obtain ⟨y, hy⟩ := hkw.1 hkx
      rw [take_no (fun h => by rw [hy] at h; cases h.2)]
      clear hkw hkx hk hno hyes hkl hwi hc hc' hS hM hy hx hs HD
      generalize placeV k l.length = pv at *
      go_enter Tryd.func23, Tryd.ntmps23
      go_wp2_with fail
      refine (HQ.out _).mono ?_
      rintro e w1 ⟨rfl, rfl⟩
      go_wp2_with fail
      refine HP.out.mono ?_
      rintro e w2 ⟨rfl, rfl⟩
      go_wp2_with fail
      go_ret
      exact Hno.out 0
    · have hv0 : placeV k l.length < 0 := by unfold placeV; rw [if_neg hkx]; omega
      have hv1 : decide (0 ≤ placeV k l.length) = false := by simp; omega
      by_cases h32 : 32 ≤ dist r.due x
      · have h32' : (32 : Int) ≤ (dist r.due x : Nat) := by omega
        rw [take_no (fun h => by omega)]
        clear hkw hkx hk hno hyes hkl hwi hc hc' hS hM hx hs h32
        generalize placeV k l.length = pv at *
        go_enter Tryd.func23, Tryd.ntmps23
        go_wp2_with fail
        refine (HQ.out _).mono ?_
        rintro e w1 ⟨rfl, rfl⟩
        go_wp2_with fail
        refine HP.out.mono ?_
        rintro e w2 ⟨rfl, rfl⟩
        go_wp2_with fail
        refine (HD.out _).mono ?_
        rintro e w3 ⟨rfl, rfl⟩
        go_wp2_with fail
        go_ret
        exact Hno.out 0
      · have h32n : dist r.due x < 32 := by omega
        have h32' : ((dist r.due x : Nat) : Int) < 32 := by omega
        have hnone : r.slots[dist r.due x]? = some none := by
          have hb : dist r.due x < r.slots.length := by rw [hw.len]; exact h32n
          rw [List.getElem?_eq_getElem hb]
          cases e : r.slots[dist r.due x] with
          | none => rfl
          | some y => exact absurd (hkw.2 ⟨y, by rw [List.getElem?_eq_getElem hb, e]⟩) hkx
        have hW1 := hw.add x d hx hnone
        rw [take_yes h32n hnone]
        have hsl : (r.slots.set (dist r.due x) (some d)).length = 32 := by rw [List.length_set]; exact hw.len
        generalize r.slots.set (dist r.due x) (some d) = sl at *
        have HW1 := hide hW1
        have HS := hide hS
        have Hll := hide hll
        have hll' : (l.length : Int) ≤ 32 := by omega
        have hx' : (x : Int) ≤ 65535 := by omega
        have hto := Go.Window.told_length sl
        have HTO : Hid ((told sl).length ≤ 32) := by show _ ≤ _; omega
        have HoN := hide (Sep.own (Sep.sw hS))
        have hd' : (d.size : Int) ≤ 1000000 := by omega
        have Hfin : Hid (∀ (r' : Rc) (l' : List (Nat × ByteArray)) (u v u8 : Value) (out : List ByteArray) w', Waits r' l' → r'.go = Rc.go ⟨r.due, sl⟩ → told sl = out ++ told r'.slots → r'.go = r' ∧ told r'.slots = [] → Sep M W (OwnF 9 1 u8 out.length (out.map strV) :: rrcL p r' (u, v) l') w' → Sep M W [RowF strV u8 (told sl), RRc p (Rc.go ⟨r.due, sl⟩)] w') := by
          intro r' l' u v u8 out w' h1 h2 h3 h4 h5
          rw [← h2, h4.1, h3, h4.2, List.append_nil]
          have k2 := Sep.turn (L1 := [RowF strV u8 out]) h5 fun M hM => ⟨M, Star.one (RowF.fine _ _ _) (RowF.of_own hM), Step.refl _ _⟩
          have k3 : Sep M W (rrcL p r' (u, v) l' ++ [RowF strV u8 out]) w' := Sep.swap (L1 := [_]) k2
          exact (Sep.pack (f := fun i : { x : (Value × Value) × List (Nat × ByteArray) // Waits r' x.2 } => rrcL p r' i.1.1 i.1.2) ⟨((u, v), l'), h1⟩ k3).sw
        have hpos : (x : Int) ≥ 0 := by omega
        clear hkw hkx hk hno hyes hkl hwi hc hc' hS hM hx hs h32 h32n hnone hW1 hw hll hca hca' hto hdue
        generalize placeV k l.length = pv at *
        generalize dist r.due x = D0 at *
        go_enter Tryd.func23, Tryd.ntmps23
        go_wp2_with fail
        refine (HQ.out _).mono ?_
        rintro e w1 ⟨rfl, hq1⟩
        have hq1 := hq1.symm
        subst hq1
        go_wp2_with fail
        refine HP.out.mono ?_
        rintro e w2 ⟨rfl, hq1⟩
        have hq1 := hq1.symm
        subst hq1
        go_wp2_with fail
        refine (HD.out _).mono ?_
        rintro e w3 ⟨rfl, hq1⟩
        have hq1 := hq1.symm
        subst hq1
        have Hlx : Hid (l.length + 1 = (l ++ [(x, d)]).length ∧ l.map numV ++ [.int .i64 (x : Int)] = (l ++ [(x, d)]).map numV ∧ l.map txtV ++ [.string d] = (l ++ [(x, d)]).map txtV) := ⟨by simp, by simp [numV], by simp [txtV]⟩
        go_wp2_with (at_builtin; refine wpList_append_lies _ rfl (.tmp 33) (.tmp 35) 23 rfl 0 3 i0 (.int .i64 0) 1 8 Tryd.underlying23 hi hz0 hz1 hz2 rfl (by decide) _ l.length (l.map numV) rfl (HoN.out.alloc _) ⟨W.heap.size, 0, none⟩ 1 1 [.int .i64 (x : Int)] rfl rfl ?c1 ?c2 (by decide) ?b1 ?b2 (Nat.zero_le _) _ rfl ?next)
        case c1 => exact news1 _ _ _ _ rfl
        case c2 => intro u hu; simp at hu; subst hu; rfl
        case b1 => unfold maxLen; omega
        case b2 => omega
        case next =>
          intro g1 k1 w4 own4 hg4 hat4 hlt4
          have hS4 := ((HS.out.alloc (.cells #[.int .i64 (x : Int)] 3)).sw.lies own4 hg4 hat4 (by simp)).sw
          have hS5 := hS4.set 1 (.slice (some ⟨g1, 0, none⟩) (l.length + 1) k1)
          simp only [List.set_cons_succ, List.set_cons_zero] at hS5
          have HS5 := hide hS5
          have c0 := (hS4.cell 0).1
          have c1 := (hS4.cell 1).1
          have c2 := (hS4.cell 2).1
          have f1 := (hS4.cell 1).2
          have f2 := (hS4.cell 2).2
          simp only [List.getElem?_cons_zero, List.getElem?_cons_succ] at c0 c1 c2
          have HoD := hide hS5.third.own
          clear own4 hg4 hat4 hlt4 hS4 hS5 HS HoN
          go_wp2_with (at_builtin; refine wpList_append_lies _ rfl (.tmp 43) (.tmp 45) 22 rfl 0 9 j0 (.string ⟨#[]⟩) 1 16 Tryd.underlying22 hj ky0 ky1 ky2 rfl (by decide) _ l.length (l.map txtV) rfl (HoD.out.alloc _) ⟨w4.heap.size, 0, none⟩ 1 1 [.string d] rfl rfl ?c1 ?c2 (by decide) ?b1 ?b2 (Nat.zero_le _) _ rfl ?next)
          case c1 => exact news1 _ _ _ _ (by simp)
          case c2 => intro u hu; simp at hu; subst hu; rfl
          case b1 => unfold maxLen; omega
          case b2 => omega
          case next =>
            intro g3 k3 w6 own6 hg6 hat6 hlt6
            have hS6 := ((HS5.out.alloc (.cells #[.string d] 9)).third.lies own6 hg6 hat6 (by simp)).sw
            have hS7 := hS6.set 2 (.slice (some ⟨g3, 0, none⟩) (l.length + 1) k3)
            simp only [List.set_cons_succ, List.set_cons_zero] at hS7
            have hS8 := hS7.sw2
            rw [Hlx.out.1, Hlx.out.2.1, Hlx.out.2.2] at hS8
            have HS8 : Hid (Sep M W (rrcL p ⟨r.due, sl⟩ (.slice (some ⟨g1, 0, none⟩) (l ++ [(x, d)]).length k1, .slice (some ⟨g3, 0, none⟩) (l ++ [(x, d)]).length k3) (l ++ [(x, d)])) (w6.setCell ⟨p, 2, none⟩ (.slice (some ⟨g3, 0, none⟩) (l ++ [(x, d)]).length k3))) := hS8
            rw [← Hlx.out.1] at HS8
            have c2 := (hS6.cell 2).1
            have f2 := (hS6.cell 2).2
            simp only [List.getElem?_cons_zero, List.getElem?_cons_succ] at c2
            clear own6 hg6 hat6 hlt6 hS6 hS7 hS8 HS5 HoD Hno HP HD HQ c0 c1 f1 Hlx
            go_wp2_with fail
            generalize w6.setCell ⟨p, 2, none⟩ (.slice (some ⟨g3, 0, none⟩) (l.length + 1) k3) = w9 at *
            clear c2 f2
            go_loopw [8] (fun t8 wr => ∃ (r' : Rc) (l' : List (Nat × ByteArray)) (u v : Value) (out : List ByteArray), Hid (Waits r' l') ∧ Hid (r'.go = Rc.go ⟨r.due, sl⟩) ∧ Hid (told sl = out ++ told r'.slots) ∧ Hid (Sep M W (OwnF 9 1 t8 out.length (out.map strV) :: rrcL p r' (u, v) l') wr)) (fun t8 _ => 33 - lenV t8)
            case atStart => exact ⟨⟨r.due, sl⟩, _, _, _, [], HW1.out, rfl, rfl, HS8.out.nil _ _⟩
            case round =>
              obtain ⟨r', l', u, v, out, Hw, Hg, Ht, Hs⟩ := hrel
              have hsw : Sep M W (rrcL p r' (u, v) l' ++ [_]) wr := Sep.swap (L1 := [_]) Hs.out
              obtain ⟨a, b, a', b', e, hb, hb', c0, c1, c2, hc, hc'⟩ := rrc_cells hsw
              cases e
              obtain ⟨k, hk, hno, hyes, hkl⟩ := place_find l' (r'.due : Int)
              have hll := waits_length Hw.out
              have HP := hide (place_ok p l' (r'.due : Int) a b wr (by omega) c1 hc k hk hno hyes)
              obtain ⟨a8, b8, rfl, -⟩ := own_slice Hs.out.own
              by_cases hkx : k < l'.length
              · have hv0 : 0 ≤ placeV k l'.length := by unfold placeV; rw [if_pos hkx]; omega
                have hek : l'[k].1 = r'.due := by have := hyes hkx; omega
                obtain ⟨hp1, hp2, hp3⟩ := pop_of Hw.out hkx hek
                have Hw2 := hide hp1
                have Hg2 : Hid (r'.pop.go = Rc.go ⟨r.due, sl⟩) := hp2.trans Hg.out
                have Ht2 : Hid (told sl = (out ++ [l'[k].2]) ++ told r'.pop.slots) := by
                  show _ = _
                  rw [Ht.out, hp3]; simp
                have hol : (out ++ [l'[k].2]).length ≤ 32 := by
                  have h1 := HTO.out
                  rw [Ht2.out, List.length_append] at h1
                  omega
                have hol2 : out.length + 1 ≤ 32 := by simpa using hol
                obtain ⟨g, rfl, gk⟩ := hc k hkx
                obtain ⟨g', rfl, gk'⟩ := hc' k hkx
                have Ho8 := hide Hs.out.own
                have hpv : placeV k l'.length = (k : Int) := by unfold placeV; rw [if_pos hkx]
                have hkx' : (k : Int) < l'.length := by omega
                have hdu : (r'.due : Int) ≤ 65535 := by have := Hw.out.due; omega
                have Hend : Hid (∀ (u v u8 : Value) (m : Nat) wz, m = (l'.take k ++ l'.drop (k + 1)).length → Sep M W (OwnF 9 1 u8 (out.length + 1) (out.map strV ++ [.string l'[k].2]) :: CellsF p 54 [.int .i64 (((r'.due : Int) + 1) % 65536), u, v] :: OwnF 3 1 u m ((l'.map numV).take k ++ (l'.map numV).drop (k + 1)) :: OwnF 9 1 v m ((l'.map txtV).take k ++ (l'.map txtV).drop (k + 1)) :: []) wz → Sep M W (OwnF 9 1 u8 (out ++ [l'[k].2]).length ((out ++ [l'[k].2]).map strV) :: rrcL p r'.pop (u, v) (l'.take k ++ l'.drop (k + 1))) wz) := by
                  intro u v u8 m wz hm h
                  subst hm
                  have e : (((r'.due + 1) % 65536 : Nat) : Int) = ((r'.due : Int) + 1) % 65536 := by omega
                  simpa [rrcL, e, Go.Window.Rc.pop, strV, List.map_take, List.map_drop] using h
                have Hlen : Hid ((l'.take k ++ l'.drop (k + 1)).length = k + (l'.length - (k + 1))) := by
                  show _ = _
                  rw [List.length_append, List.length_take, List.length_drop]; omega
                have Hkl : Hid (k < l'.length) := hkx
                have Hol := hide hol2
                have hlI : (l'.length : Int) ≤ 32 := by omega
                clear hp1 hp2 hp3 hek hol hc hc' hno hyes hkl hsw Hfin HW1 HS8 HTO Hg Ht Hw hk
                clear gk
                generalize hX : l'[k].2 = X at *
                clear hX
                rw [hpv] at HP
                clear hpv hv0
                go_wp2_with fail
                refine HP.out.mono ?_
                rintro e w2 ⟨rfl, hq1⟩
                have hq1 := hq1.symm
                subst hq1
                go_wp2_with (at_builtin; refine wpList_append_lies _ rfl (.tmp 58) (.tmp 66) 22 rfl 0 9 j0 (.string ⟨#[]⟩) 1 16 Tryd.underlying22 hj ky0 ky1 ky2 rfl (by decide) _ out.length (out.map strV) rfl (Ho8.out.alloc _) ⟨wr.heap.size, 0, none⟩ 1 1 [.string X] rfl rfl ?c1 ?c2 (by decide) ?b1 ?b2 (Nat.zero_le _) _ rfl ?next)
                case c1 => exact news1 _ _ _ _ rfl
                case c2 => intro u hu; simp at hu; subst hu; rfl
                case b1 => have := Hol.out; unfold maxLen; omega
                case b2 => have := Hol.out; omega
                case next =>
                  intro g5 k5 w5 own5 hg5 hat5 hlt5
                  have hs5 := (Hs.out.alloc (.cells #[.string X] 9)).lies own5 hg5 hat5 (by simp)
                  have Hs5 := hide hs5
                  have hsw : Sep M W (rrcL p r' (.slice (some ⟨g, 0, none⟩) l'.length b, .slice (some ⟨g', 0, none⟩) l'.length b') l' ++ [_]) w5 := Sep.swap (L1 := [_]) hs5
                  have c0 := (Sep.cell hsw 0).1
                  have c1 := (Sep.cell hsw 1).1
                  have c2 := (Sep.cell hsw 2).1
                  simp only [List.getElem?_cons_zero, List.getElem?_cons_succ] at c0 c1 c2
                  clear own5 hg5 hat5 hlt5 hs5 Hs Ho8 gk' HP
                  have HoN := hide (Sep.own (Sep.sw hsw))
                  have HoD := hide (Sep.own (Sep.third hsw))
                  go_wp2_with (at_builtin; refine wpList_append_own_at _ rfl (.tmp 68) (.tmp 74) 23 rfl 0 3 i0 (.int .i64 0) 1 8 Tryd.underlying23 hi hz0 hz1 hz2 rfl (by decide) (.slice none 0 0) 0 [] rfl (World.ownsRow_nil _ _ _ _) ⟨g, 0, none⟩ k b ((l'.map numV).take k) rfl ?l1 ?c1 ?c2 ?b1 ?b2 (Nat.zero_le _) ?next)
                  case l1 => have := Hkl.out; first | omega | (simp; omega)
                  case c1 => intro j u hu; have h := news_take HoN.out k j u hu; first | exact h | (rw [Go.WideShapes.add_plain] at h; simpa using h)
                  case c2 => intro u hu; exact plain_one l' numV (fun _ => rfl) u (List.mem_of_mem_take hu)
                  case b1 => have := Hkl.out; unfold maxLen; omega
                  case b2 => have := Hkl.out; omega
                  case next =>
                    intro v7 w7 own7 hg7 _ hat7
                    try simp only [Nat.zero_add, List.nil_append] at own7
                    have hs7 := (Hs5.out.nil 3 1).append own7 hg7 hat7
                    obtain ⟨a7, e7, rfl, -⟩ := own_slice own7
                    have HoD7 := hide (hs7.ownMem (.tail _ (.tail _ (.tail _ (.tail _ (.head _))))))
                    have c0 := (Sep.cell hs7.third 0).1
                    have c1 := (Sep.cell hs7.third 1).1
                    have c2 := (Sep.cell hs7.third 2).1
                    simp only [List.getElem?_cons_zero, List.getElem?_cons_succ] at c0 c1 c2
                    have Hs7 := hide hs7
                    clear own7 hg7 hat7 hs7 Hs5 HoN HoD hsw
                    go_wp2_with (at_builtin; refine wpList_append_own_at _ rfl (.tmp 76) (.tmp 82) 22 rfl 0 9 j0 (.string ⟨#[]⟩) 1 16 Tryd.underlying22 hj ky0 ky1 ky2 rfl (by decide) (.slice none 0 0) 0 [] rfl (World.ownsRow_nil _ _ _ _) ⟨g', 0, none⟩ k b' ((l'.map txtV).take k) rfl ?l1 ?c1 ?c2 ?b1 ?b2 (Nat.zero_le _) ?next)
                    case l1 => have := Hkl.out; first | omega | (simp; omega)
                    case c1 => intro j u hu; have h := news_take HoD7.out k j u hu; first | exact h | (rw [Go.WideShapes.add_plain] at h; simpa using h)
                    case c2 => intro u hu; exact plain_one l' txtV (fun _ => rfl) u (List.mem_of_mem_take hu)
                    case b1 => have := Hkl.out; unfold maxLen; omega
                    case b2 => have := Hkl.out; omega
                    case next =>
                      intro v8 w8 own8 hg8 _ hat8
                      try simp only [Nat.zero_add, List.nil_append] at own8
                      have hs8 := (Hs7.out.nil 9 1).append own8 hg8 hat8
                      obtain ⟨a9, e8, rfl, -⟩ := own_slice own8
                      have hs9 : Sep M W [CellsF p 54 [.int .i64 (r'.due : Int), .slice (some ⟨g, 0, none⟩) l'.length b, .slice (some ⟨g', 0, none⟩) l'.length b'], OwnF 3 1 (.slice a7 k e7) k ((l'.map numV).take k), OwnF 9 1 (.slice a9 k e8) k ((l'.map txtV).take k), OwnF 9 1 (.slice (some ⟨g5, 0, none⟩) (out.length + 1) k5) (out.length + 1) (out.map strV ++ [.string X]), OwnF 3 1 (.slice (some ⟨g, 0, none⟩) l'.length b) l'.length (l'.map numV), OwnF 9 1 (.slice (some ⟨g', 0, none⟩) l'.length b') l'.length (l'.map txtV)] w8 := hs8.sw.fourth
                      have Hs9 := hide hs9
                      have c0 := (Sep.cell hs9 0).1
                      have c1 := (Sep.cell hs9 1).1
                      have c2 := (Sep.cell hs9 2).1
                      have f0 := (Sep.cell hs9 0).2
                      have f1 := (Sep.cell hs9 1).2
                      simp only [List.getElem?_cons_zero, List.getElem?_cons_succ] at c0 c1 c2
                      clear own8 hg8 hat8 hs8 hs9 Hs7 HoD7
                      go_upto_region 17 with fail
                      go_cut [9] (fun t9 wc => t9 = .int .i64 k ∧ ∃ v3, Hid (Sep M W [CellsF p 54 [.int .i64 (r'.due : Int), v3, .slice (some ⟨g', 0, none⟩) l'.length b'], OwnF 3 1 v3 (k + (l'.length - (k + 1))) ((l'.map numV).take k ++ (l'.map numV).drop (k + 1)), OwnF 9 1 (.slice a9 k e8) k ((l'.map txtV).take k), OwnF 9 1 (.slice (some ⟨g5, 0, none⟩) (out.length + 1) k5) (out.length + 1) (out.map strV ++ [.string X]), OwnF 9 1 (.slice (some ⟨g', 0, none⟩) l'.length b') l'.length (l'.map txtV)] wc))
                      case first =>
                        have hcap : k + 1 < b ∨ (k + 1 = b ∧ l'.length = k + 1) := by have := Hkl.out; omega
                        have HoN8 : Hid (w8.ownsRow 0 3 1 (.slice (some ⟨g, 0, none⟩) l'.length b) l'.length (l'.map numV)) := Hs9.out.ownMem (.tail _ (.tail _ (.tail _ (.tail _ (.head _)))))
                        rcases hcap with hcb | ⟨hcb, hcl⟩
                        · have hcb' : (k : Int) + 1 < b := by omega
                          clear hcb
                          have Hcl := Hkl
                          have HoL8 : Hid (w8.ownsRow 0 3 1 (.slice a7 k e7) k ((l'.map numV).take k)) := Hs9.out.ownMem (.tail _ (.head _))
                          go_wp2_with (at_builtin; refine wpList_append_own_at _ rfl (.tmp 85) (.tmp 92) 23 rfl 0 3 i0 (.int .i64 0) 1 8 Tryd.underlying23 hi hz0 hz1 hz2 rfl (by decide) (.slice a7 k e7) k ((l'.map numV).take k) rfl HoL8.out _ _ _ ((l'.map numV).drop (k + 1)) rfl ?l1 ?c1 ?c2 ?b1 ?b2 (Nat.zero_le _) ?next)
                          case l1 => have := Hcl.out; simp only [List.length_drop, List.length_map]; omega
                          case c1 => intro j u hu; have h := news_drop HoN8.out (k + 1) _ (.inl rfl) j u hu; first | exact h | (rw [Go.WideShapes.add_plain] at h; simpa using h) | simpa [Nat.add_assoc] using h
                          case c2 => intro u hu; exact plain_one l' numV (fun _ => rfl) u (List.mem_of_mem_drop hu)
                          case b1 => have := Hkl.out; unfold maxLen; omega
                          case b2 => have := Hkl.out; omega
                          case next =>
                            intro v9 w10 own9 hg9 _ hat9
                            have hs10 := (Hs9.out.sw.append own9 hg9 hat9).sw
                            obtain ⟨a10, e10, rfl, -⟩ := own_slice own9
                            have hs11 := hs10.set 1 (.slice a10 (k + (l'.length - (k + 1))) e10)
                            simp only [List.set_cons_succ, List.set_cons_zero] at hs11
                            have hs12 := (Sep.swap (L1 := [_, _, _, _]) hs11).drop
                            have hs13 := Sep.swap (L1 := [_]) hs12
                            simp only [List.cons_append, List.nil_append] at hs13
                            have Hs13 := hide hs13
                            have c1 := (hs10.cell 1).1
                            have f1 := (hs10.cell 1).2
                            simp only [List.getElem?_cons_zero, List.getElem?_cons_succ] at c1
                            clear own9 hg9 hat9 hs10 hs11 hs12 hs13 Hs9 HoN8 HoL8
                            go_wp2_with fail
                            go_meet
                            case rel => exact ⟨rfl, _, Hs13.out⟩
                        · subst hcb
                          have Hcl := hide hcl
                          have hcl1 : (l'.length : Int) ≤ (k : Int) + 1 := by omega
                          have hcl2 : (k : Int) + 1 ≤ l'.length := by omega
                          clear hcl
                          have heq : Hid (k + (l'.length - (k + 1)) = k) := by show _ = _; have := Hcl.out; omega
                          have hdr : Hid ((l'.map numV).drop (k + 1) = []) := by show _ = _; apply List.drop_of_length_le; rw [List.length_map, Hcl.out]; exact Nat.le_refl _
                          have hxx : Hid ((l'.map numV).take k ++ (l'.map numV).drop (k + 1) = (l'.map numV).take k) := by show _ = _; rw [hdr.out, List.append_nil]
                          have HoL8 : Hid (w8.ownsRow 0 3 1 (.slice a7 k e7) k ((l'.map numV).take k)) := Hs9.out.ownMem (.tail _ (.head _))
                          go_wp2_with (at_builtin; refine wpList_append_own_at _ rfl (.tmp 85) (.tmp 92) 23 rfl 0 3 i0 (.int .i64 0) 1 8 Tryd.underlying23 hi hz0 hz1 hz2 rfl (by decide) (.slice a7 k e7) k ((l'.map numV).take k) rfl HoL8.out _ _ _ [] rfl ?l1 ?c1 ?c2 ?b1 ?b2 (Nat.zero_le _) ?next)
                          case l1 => rfl
                          case c1 => intro j u hu; simp at hu
                          case c2 => intro u hu; cases hu
                          case b1 => have := Hkl.out; unfold maxLen; omega
                          case b2 => have := Hkl.out; omega
                          case next =>
                            intro v9 w10 own9 hg9 _ hat9
                            have hs10 := (Hs9.out.sw.append own9 hg9 hat9).sw
                            obtain ⟨a10, e10, rfl, -⟩ := own_slice own9
                            have hs11 := hs10.set 1 (.slice a10 k e10)
                            simp only [List.set_cons_succ, List.set_cons_zero] at hs11
                            have hs12 := (Sep.swap (L1 := [_, _, _, _]) hs11).drop
                            have hs13 := Sep.swap (L1 := [_]) hs12
                            simp only [List.cons_append, List.nil_append] at hs13
                            have Hs13 := hide hs13
                            have c1 := (hs10.cell 1).1
                            have f1 := (hs10.cell 1).2
                            simp only [List.getElem?_cons_zero, List.getElem?_cons_succ] at c1
                            clear own9 hg9 hat9 hs10 hs11 hs12 hs13 Hs9 HoN8 HoL8
                            go_wp2_with fail
                            go_meet
                            case rel => exact ⟨rfl, .slice a10 k e10, by rw [heq.out, hxx.out]; exact Hs13.out⟩
                      case rest =>
                        obtain ⟨rfl, v3, Hsc⟩ := hcut
                        obtain ⟨a3, d3, rfl, -⟩ := own_slice (Hsc.out.sw.own)
                        have c0 := (Sep.cell Hsc.out 0).1
                        have c1 := (Sep.cell Hsc.out 1).1
                        have c2 := (Sep.cell Hsc.out 2).1
                        simp only [List.getElem?_cons_zero, List.getElem?_cons_succ] at c0 c1 c2
                        clear Hs9
                        generalize wc = wx at *
                        go_upto_region 18 with fail
                        go_cut [9] (fun t9 wc => t9 = .int .i64 k ∧ ∃ v4, Hid (Sep M W [CellsF p 54 [.int .i64 (r'.due : Int), (.slice a3 (k + (l'.length - (k + 1))) d3), v4], OwnF 3 1 (.slice a3 (k + (l'.length - (k + 1))) d3) (k + (l'.length - (k + 1))) ((l'.map numV).take k ++ (l'.map numV).drop (k + 1)), OwnF 9 1 v4 (k + (l'.length - (k + 1))) ((l'.map txtV).take k ++ (l'.map txtV).drop (k + 1)), OwnF 9 1 (.slice (some ⟨g5, 0, none⟩) (out.length + 1) k5) (out.length + 1) (out.map strV ++ [.string X])] wc))
                        case first =>
                          have hcap : k + 1 < b' ∨ (k + 1 = b' ∧ l'.length = k + 1) := by have := Hkl.out; omega
                          have HoDo : Hid (wx.ownsRow 0 9 1 (.slice (some ⟨g', 0, none⟩) l'.length b') l'.length (l'.map txtV)) := Hsc.out.ownMem (.tail _ (.tail _ (.tail _ (.tail _ (.head _)))))
                          rcases hcap with hcb | ⟨hcb, hcl⟩
                          · have hcb' : (k : Int) + 1 < b' := by omega
                            clear hcb
                            have Hcl := Hkl
                            have HoD8 : Hid (wx.ownsRow 0 9 1 (.slice a9 k e8) k ((l'.map txtV).take k)) := Hsc.out.ownMem (.tail _ (.tail _ (.head _)))
                            go_wp2_with (at_builtin; refine wpList_append_own_at _ rfl (.tmp 97) (.tmp 104) 22 rfl 0 9 j0 (.string ⟨#[]⟩) 1 16 Tryd.underlying22 hj ky0 ky1 ky2 rfl (by decide) (.slice a9 k e8) k ((l'.map txtV).take k) rfl HoD8.out _ _ _ ((l'.map txtV).drop (k + 1)) rfl ?l1 ?c1 ?c2 ?b1 ?b2 (Nat.zero_le _) ?next)
                            case l1 => have := Hcl.out; simp only [List.length_drop, List.length_map]; omega
                            case c1 => intro j u hu; have h := news_drop HoDo.out (k + 1) _ (.inl rfl) j u hu; first | exact h | (rw [Go.WideShapes.add_plain] at h; simpa using h) | simpa [Nat.add_assoc] using h
                            case c2 => intro u hu; exact plain_one l' txtV (fun _ => rfl) u (List.mem_of_mem_drop hu)
                            case b1 => have := Hkl.out; unfold maxLen; omega
                            case b2 => have := Hkl.out; omega
                            case next =>
                              intro v11 w12 own11 hg11 _ hat11
                              have hs10 := (Hsc.out.third.append own11 hg11 hat11).sw
                              obtain ⟨a10, e10, rfl, -⟩ := own_slice own11
                              have hs11 := hs10.set 2 (.slice a10 (k + (l'.length - (k + 1))) e10)
                              simp only [List.set_cons_succ, List.set_cons_zero] at hs11
                              have hs12 := (Sep.swap (L1 := [_, _, _, _]) hs11).drop
                              have hs13 := hs12.sw2
                              have Hs13 := hide hs13
                              have c2 := (hs10.cell 2).1
                              have f2 := (hs10.cell 2).2
                              simp only [List.getElem?_cons_zero, List.getElem?_cons_succ] at c2
                              clear own11 hg11 hat11 hs10 hs11 hs12 hs13 Hsc HoDo HoD8
                              go_wp2_with fail
                              go_meet
                              case rel => exact ⟨rfl, _, Hs13.out⟩
                          · subst hcb
                            have Hcl := hide hcl
                            have hcl1 : (l'.length : Int) ≤ (k : Int) + 1 := by omega
                            have hcl2 : (k : Int) + 1 ≤ l'.length := by omega
                            clear hcl
                            have heq : Hid (k + (l'.length - (k + 1)) = k) := by show _ = _; have := Hcl.out; omega
                            have hdr : Hid ((l'.map txtV).drop (k + 1) = []) := by show _ = _; apply List.drop_of_length_le; rw [List.length_map, Hcl.out]; exact Nat.le_refl _
                            have hxx : Hid ((l'.map txtV).take k ++ (l'.map txtV).drop (k + 1) = (l'.map txtV).take k) := by show _ = _; rw [hdr.out, List.append_nil]
                            have HoD8 : Hid (wx.ownsRow 0 9 1 (.slice a9 k e8) k ((l'.map txtV).take k)) := Hsc.out.ownMem (.tail _ (.tail _ (.head _)))
                            go_wp2_with (at_builtin; refine wpList_append_own_at _ rfl (.tmp 97) (.tmp 104) 22 rfl 0 9 j0 (.string ⟨#[]⟩) 1 16 Tryd.underlying22 hj ky0 ky1 ky2 rfl (by decide) (.slice a9 k e8) k ((l'.map txtV).take k) rfl HoD8.out _ _ _ [] rfl ?l1 ?c1 ?c2 ?b1 ?b2 (Nat.zero_le _) ?next)
                            case l1 => rfl
                            case c1 => intro j u hu; simp at hu
                            case c2 => intro u hu; cases hu
                            case b1 => have := Hkl.out; unfold maxLen; omega
                            case b2 => have := Hkl.out; omega
                            case next =>
                              intro v11 w12 own11 hg11 _ hat11
                              have hs10 := (Hsc.out.third.append own11 hg11 hat11).sw
                              obtain ⟨a10, e10, rfl, -⟩ := own_slice own11
                              have hs11 := hs10.set 2 (.slice a10 k e10)
                              simp only [List.set_cons_succ, List.set_cons_zero] at hs11
                              have hs12 := (Sep.swap (L1 := [_, _, _, _]) hs11).drop
                              have hs13 := hs12.sw2
                              have Hs13 := hide hs13
                              have c2 := (hs10.cell 2).1
                              have f2 := (hs10.cell 2).2
                              simp only [List.getElem?_cons_zero, List.getElem?_cons_succ] at c2
                              clear own11 hg11 hat11 hs10 hs11 hs12 hs13 Hsc HoDo HoD8
                              go_wp2_with fail
                              go_meet
                              case rel => exact ⟨rfl, .slice a10 k e10, by rw [heq.out] at Hs13 ⊢; rw [hxx.out]; exact Hs13.out⟩
                        case rest =>
                          obtain ⟨rfl, v4, Hse⟩ := hcut
                          obtain ⟨a5, d5, rfl, -⟩ := own_slice (Hse.out.third.own)
                          have c0 := (Sep.cell Hse.out 0).1
                          have f0 := (Sep.cell Hse.out 0).2
                          simp only [List.getElem?_cons_zero] at c0
                          have hs20 := (Hse.out.set 0 (.int .i64 (((r'.due : Int) + 1) % 65536)))
                          simp only [List.set_cons_zero] at hs20
                          have Hf20 := hide (Hend.out _ _ _ _ _ Hlen.out.symm hs20.fourth)
                          have hdu0 : 0 ≤ (r'.due : Int) := by omega
                          clear Hsc Hse hs20 Hend
                          go_wp2_with fail
                          go_roundw
                          case rel => exact ⟨r'.pop, _, _, _, out ++ [X], Hw2.out, Hg2.out, Ht2.out, Hf20.out⟩
                          case measure => simp only [lenV]; have := Hol.out; omega
              · have hv0 : placeV k l'.length < 0 := by unfold placeV; rw [if_neg hkx]; omega
                have hst := still_of Hw.out (fun h => hkx (hkl.2 h))
                have HF := hide (Hfin.out _ _ _ _ _ _ _ Hw.out Hg.out Ht.out hst Hs.out)
                clear Hfin HW1 HS8 HTO hsw hc hc' hkl hno hyes hst Hw Hg Ht Hs hk hkx
                generalize placeV k l'.length = pv at *
                go_wp2_with fail
                refine HP.out.mono ?_
                rintro e w2 ⟨rfl, rfl⟩
                go_wp2_with fail
                go_ret
                exact ⟨_, ⟨_, rfl, rfl⟩, HF.out⟩
  · rw [show seqB n = false from decide_eq_false hs] at HQ
    rw [takeI_no hs]
    clear hM hs
    go_enter Tryd.func23, Tryd.ntmps23
    go_wp2_with fail
    refine (HQ.out _).mono ?_
    rintro e w1 ⟨rfl, rfl⟩
    go_wp2_with fail
    go_ret
    exact Hno.out 0
end Go.Proofs.YtaambclpkghddaaDoor
