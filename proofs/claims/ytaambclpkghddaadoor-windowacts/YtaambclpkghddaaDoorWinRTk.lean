/-
  Contract of package window's Receiver.Take.
-/
import Derived.Test.YtaambclpkghddaaDoorWinTell
namespace Go.Proofs.YtaambclpkghddaaDoor
open Go.RowKit Go.Maps
open Go.Window (Rc dist told)

theorem wtake_no {r : Rc} {n : Int} {d : ByteArray} (h : r.Ok) (hn : ¬ ((0 ≤ n ∧ n < 65536) ∧ dist r.due n.toNat < 32 ∧ r.slots[dist r.due n.toNat]? = some none)) : r.takeI n d = (r.go, told r.slots) := by
  obtain ⟨l, hl⟩ : ∃ l, r.slots = none :: l := by
    have h0 := h.still
    cases e : r.slots with
    | nil => rw [e] at h0; cases h0
    | cons x l => rw [e] at h0; simp at h0; exact ⟨l, by rw [h0]⟩
  have e1 : r.go = r := go_self hl h.due
  have e2 : told r.slots = [] := by rw [hl]; rfl
  rw [e1, e2]
  unfold Rc.takeI
  split
  · rename_i hi
    unfold Rc.take
    rw [if_neg (fun h2 => hn ⟨hi, h2⟩)]
  · rfl
theorem wtake_yes {r : Rc} {m : Nat} {d : ByteArray} (hm : m < 65536) (hn : dist r.due m < 32 ∧ r.slots[dist r.due m]? = some none) : r.takeI (m : Int) d = ((Rc.mk r.due (r.slots.set (dist r.due m) (some d))).go, told (r.slots.set (dist r.due m) (some d))) := by
  rw [Go.Window.Rc.takeI_nat _ _ hm]
  unfold Rc.take
  rw [if_pos hn]
theorem due_dist (a m : Nat) (ha : a < 65536) (hm : m < 65536) : (a + dist a m) % 65536 = m := by unfold dist; omega

set_option maxHeartbeats 2000000 in
set_option maxRecDepth 100000 in
theorem takeR_ok (v : Value) (r : Rc) (n : Int) (d : ByteArray) (W : World) (hr : r.Ok) :
    Tri Tryd.prog 14 #[v, .int .i64 n, .string d] [WRc v r] (fun e L => ∃ u, e = .returned u ∧ L = [RowF strV u (r.takeI n d).2, WRc v (r.takeI n d).1]) W := by
  intro M hM
  have h0 := Sep.of_star hM
  have HS0 := hide h0
  obtain ⟨p, b, rfl, hS⟩ := WRc.open h0
  have c0 := (hS.cell 0).1
  have c1 := (hS.cell 1).1
  simp only [List.getElem?_cons_zero, List.getElem?_cons_succ] at c0 c1
  have HS := hide hS
  have HN := hide (fun W' => isNumber_ok n W')
  have hnd : ((wA r.due r.slots).map Prod.fst).Nodup := by
    obtain ⟨N, hN, _⟩ := hS.sw.head
    exact hN.nodup
  clear h0 hS hM
  by_cases hn : 0 ≤ n ∧ n < 65536
  · obtain ⟨m, rfl⟩ : ∃ m : Nat, n = m := ⟨n.toNat, by omega⟩
    have hm : m < 65536 := by omega
    have e : nmB (m : Int) = true := by simp [nmB]; omega
    rw [e] at HN
    have hdue := hr.due
    have HG := hide (fun W' => gap_ok r.due m W' hdue hm)
    clear e
    by_cases h32 : dist r.due m < 32
    · have hlt : dist r.due m < r.slots.length := by have := hr.len; omega
      have hat := wA_at hnd hlt (by have := hr.len; omega)
      rw [due_dist _ _ hdue hm] at hat
      have HH := hide (fun W' (k : Sep M W (MapL Tryd.prog 3 b (wA r.due r.slots) :: CellsF p 69 [.int .i64 (r.due : Int), .map (some b)] :: []) W') => has_ok k (allFr_waits r.slots r.due) (m : Int) ⟨by omega, by omega⟩)
      rw [hat] at HH
      have h32' : ((dist r.due m : Nat) : Int) < 32 := by omega
      have HSd := hide HS.out.sw
      cases hx : r.slots[dist r.due m]? with
      | none => rw [List.getElem?_eq_none_iff] at hx; omega
      | some x =>
        rw [hx] at HH
        cases x with
        | some y =>
          rw [wtake_no hr (fun h => by have := h.2.2; rw [Int.toNat_natCast, hx] at this; cases this)]
          have HT := hide (fun W' => tell_ok (.pointer (some ⟨p, 0, none⟩)) r W' hr.len hdue)
          have Hsh := hide (fun W' (k : Sep M W (CellsF p 69 [.int .i64 (r.due : Int), .map (some b)] :: MapL Tryd.prog 3 b (wA r.due r.slots) :: []) W') => WRc.shut k)
          simp only [Option.join_some, Option.map_some, Option.isSome_some] at HH
          clear hx hat hlt h32 hnd hm hn hr HS HS0
          generalize dist r.due m = D at *
          go_enter Tryd.func14, Tryd.ntmps14
          go_wp2_with fail
          refine (HN.out _).mono ?_
          rintro e w1 ⟨rfl, rfl⟩
          go_wp2_with fail
          refine (HG.out _).mono ?_
          rintro e w2 ⟨rfl, rfl⟩
          go_wp2_with fail
          refine (HH.out _ HSd.out).mono ?_
          rintro e w3 ⟨rfl, hb3⟩
          have hs1 := HSd.out.keep hb3
          have HS1 := hide (Hsh.out _ hs1.sw)
          clear hs1 hb3 HSd HH HG HN c0 c1
          go_wp2_with fail
          refine (Sep.call (L0 := [_]) HS1.out (HT.out _)).mono ?_
          rintro e w4 ⟨_, ⟨u, rfl, rfl⟩, hs2⟩
          obtain ⟨ua, uc, rfl, -⟩ := Sep.rowForm hs2
          have HS2 := hide hs2
          clear hs2 HS1 HT
          go_wp2_with fail
          go_ret
          exact ⟨_, ⟨_, rfl, rfl⟩, HS2.out⟩
        | none =>
          rw [wtake_yes hm ⟨h32, hx⟩]
          have HT := hide (fun W' => tell_ok (.pointer (some ⟨p, 0, none⟩)) (Rc.mk r.due (r.slots.set (dist r.due m) (some d))) W' (by simp [hr.len]) hdue)
          have hpm := wA_set r.slots r.due (dist r.due m) d hx
          rw [due_dist _ _ hdue hm] at hpm
          have Hsh := hide (fun W' (k : Sep M W (MapL Tryd.prog 3 b (wA r.due r.slots ++ [((m : Int), wfV d)]) :: CellsF p 69 [.int .i64 (r.due : Int), .map (some b)] :: []) W') => WRc.shut (r := Rc.mk r.due (r.slots.set (dist r.due m) (some d))) (k.mapPerm hpm).sw)
          have hne := wA_ne hlt (by have := hr.len; omega) hx (n := r.due)
          rw [due_dist _ _ hdue hm] at hne
          have Hne := hide hne
          have hll : (wA r.due r.slots).length ≤ 1000000 := by have := wA_length r.slots r.due; have := hr.len; omega
          have Hwf : Hid (WfI (m : Int)) := ⟨by omega, by omega⟩
          simp only [Option.join_some, Option.map_none, Option.isSome_none] at HH
          clear hx hat hlt h32 hnd hm hn hr HS HS0 hne hpm
          generalize r.slots.set (dist r.due m) (some d) = sl at *
          generalize dist r.due m = D at *
          go_enter Tryd.func14, Tryd.ntmps14
          go_wp2_with fail
          refine (HN.out _).mono ?_
          rintro e w1 ⟨rfl, rfl⟩
          go_wp2_with fail
          refine (HG.out _).mono ?_
          rintro e w2 ⟨rfl, rfl⟩
          go_wp2_with fail
          refine (HH.out _ HSd.out).mono ?_
          rintro e w3 ⟨rfl, hb3⟩
          have hs1 := HSd.out.keep hb3
          have HS1 := hide hs1
          have d0 := (hs1.sw.cell 0).1
          have d1 := (hs1.sw.cell 1).1
          simp only [List.getElem?_cons_zero, List.getElem?_cons_succ] at d0 d1
          clear hs1 hb3 HSd HH HG HN c0 c1
          go_wp2_with (at_mapUpdate; refine wpList_mapStore rfl _ _ _ 65 rfl 72 Tryd.underlying3 Tryd.underlying65 HS1.out hll rfl (m : Int) (wfV d) rfl rfl Hwf.out Hne.out ?_)
          intro w5 hs5
          have HS5 := hide (Hsh.out _ hs5)
          clear hs5 HS1 d0 d1 Hne Hwf
          go_wp2_with fail
          refine (Sep.call (L0 := [_]) HS5.out (HT.out _)).mono ?_
          rintro e w4 ⟨_, ⟨u, rfl, rfl⟩, hs2⟩
          obtain ⟨ua, uc, rfl, -⟩ := Sep.rowForm hs2
          have HS2 := hide hs2
          clear hs2 HS5 HT
          go_wp2_with fail
          go_ret
          exact ⟨_, ⟨_, rfl, rfl⟩, HS2.out⟩
    · rw [wtake_no hr (fun h => by have := h.2.1; rw [Int.toNat_natCast] at this; exact h32 this)]
      have HT := hide (fun W' => tell_ok (.pointer (some ⟨p, 0, none⟩)) r W' hr.len hdue)
      have h32' : (32 : Int) ≤ ((dist r.due m : Nat) : Int) := by omega
      clear h32 hnd hm hn hr HS
      generalize dist r.due m = D at *
      go_enter Tryd.func14, Tryd.ntmps14
      go_wp2_with fail
      refine (HN.out _).mono ?_
      rintro e w1 ⟨rfl, rfl⟩
      go_wp2_with fail
      refine (HG.out _).mono ?_
      rintro e w2 ⟨rfl, rfl⟩
      go_wp2_with fail
      refine (Sep.call (L0 := [_]) HS0.out (HT.out _)).mono ?_
      rintro e w4 ⟨_, ⟨u, rfl, rfl⟩, hs2⟩
      obtain ⟨ua, uc, rfl, -⟩ := Sep.rowForm hs2
      have HS2 := hide hs2
      clear hs2 HS0 HT
      go_wp2_with fail
      go_ret
      exact ⟨_, ⟨_, rfl, rfl⟩, HS2.out⟩
  · rw [wtake_no hr (fun h => hn h.1)]
    have e : nmB n = false := by unfold nmB; exact decide_eq_false hn
    rw [e] at HN
    have HT := hide (fun W' => tell_ok (.pointer (some ⟨p, 0, none⟩)) r W' hr.len hr.due)
    clear e hn hnd hr HS
    go_enter Tryd.func14, Tryd.ntmps14
    go_wp2_with fail
    refine (HN.out _).mono ?_
    rintro e w1 ⟨rfl, rfl⟩
    go_wp2_with fail
    refine (Sep.call (L0 := [_]) HS0.out (HT.out _)).mono ?_
    rintro e w4 ⟨_, ⟨u, rfl, rfl⟩, hs2⟩
    obtain ⟨ua, uc, rfl, -⟩ := Sep.rowForm hs2
    have HS2 := hide hs2
    clear hs2 HS0 HT
    go_wp2_with fail
    go_ret
    exact ⟨_, ⟨_, rfl, rfl⟩, HS2.out⟩
end Go.Proofs.YtaambclpkghddaaDoor
