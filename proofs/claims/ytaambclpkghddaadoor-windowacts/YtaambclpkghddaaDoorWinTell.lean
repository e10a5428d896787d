/-
  Contract of package window's Receiver.tell.
-/
import Derived.Test.YtaambclpkghddaaDoorWinRcv
import Derived.Deep.RegionLaw
namespace Go.Proofs.YtaambclpkghddaaDoor
open Go.RowKit Go.Maps
open Go.Window (Rc dist told)

theorem Tryd.infoT : (Tryd.prog.info? 9).map (fun i => (i.zero, i.size, i.bytes)) = some (some (.string ⟨#[]⟩), 1, 16) := by kernel_rfl
/-- 'delete(m, k)' in a region that draws. -/
theorem step_mapDel {P : Program} {ops : Array Oper} {o : Oper} {a : Act} {K : Act → World → Prop} {Q : Exit → Act → World → Prop} {E : Prop} {k : TypeId} {b : Nat} {l : Assoc} {M0 : Foot} {w0 w : World} {L : List Fam}
    (hg : o.guard = none) (m x : Operand) (t : TypeId) (hop : o.op = Op.call { callee := Callee.builtin Builtin.delete, args := #[m, x], argTypes := #[t, k] }) (e : TypeId) (hk : P.underlying k = some (.int .i64)) (ht : P.underlying t = some (.map k e))
    (h : Sep M0 w0 (MapL P k b l :: L) w) (hm : a.eval m = .map (some b)) (n : Int) (hx : a.eval x = .int .i64 n) (hn : WfI n)
    (hK : ∀ w', Sep M0 w0 (MapL P k b (l.del n) :: L) w' → K (a.put o.dst (.tuple #[])) w') :
    if Region.wanted o (yielded ops a.tmps) = true then Oper.wp P o a w K Q else E := by
  have hw : Region.wanted o (yielded ops a.tmps) = true := by simp [Region.wanted, hg]
  rw [if_pos hw]
  obtain ⟨w', hrun, r1⟩ := h.mapDel hk ht hn o.type
  unfold Oper.wp
  simp [execOp, hop, resolve, invoke, builtin, hm, hx, hrun, Result.andThen]
  exact hK w' r1

theorem field_fr (d : ByteArray) (w : World) : (Instr.field 72 (.agg #[.string d]) 0).run Tryd.prog w = .ok (.string d) w := by kernel_rfl
/-- Where tell stands. -/
abbrev tlL (v : Value) (n : Nat) (ys : List Value) (p b : Nat) (r : Rc) : List Fam := [OwnF 9 1 v n ys, CellsF p 69 [.int .i64 (r.due : Int), .map (some b)], MapL Tryd.prog 3 b (wA r.due r.slots)]

theorem wA_step {r : Rc} {d : ByteArray} {l : List (Option ByteArray)} (h : r.slots = some d :: l) (hl : r.slots.length = 32) (hd : r.due < 65536) : (wA r.due r.slots).del (r.due : Int) = wA (Rc.step r).due (Rc.step r).slots := by
  have hl' : l.length ≤ 31 := by rw [h, List.length_cons] at hl; omega
  have e : (r.due : Int) = ((r.due % 65536 : Nat) : Int) := by rw [Nat.mod_eq_of_lt hd]
  rw [h, e, wA_del hl']
  simp only [Rc.step, h, List.tail_cons]
  rw [wA_none]
  exact wA_mod _ _ _ (by omega)
theorem wA_head {r : Rc} {x : Option ByteArray} {l : List (Option ByteArray)} (h : r.slots = x :: l) (hl : r.slots.length = 32) (hd : r.due < 65536) (hn : ((wA r.due r.slots).map Prod.fst).Nodup) : (wA r.due r.slots).at_ (r.due : Int) = x.map wfV := by
  have := wA_at (k := 0) hn (by omega) (by omega)
  rw [Nat.add_zero, Nat.mod_eq_of_lt hd] at this
  rw [this, h]
  rfl

set_option maxHeartbeats 2000000 in
set_option maxRecDepth 100000 in
theorem tell_ok (v : Value) (r0 : Rc) (W : World) (hl0 : r0.slots.length = 32) (hd0 : r0.due < 65536) :
    Tri Tryd.prog 35 #[v] [WRc v r0] (fun e L => ∃ u, e = .returned u ∧ L = [RowF strV u (told r0.slots), WRc v r0.go]) W := by
  intro M hM
  obtain ⟨j0, hj, ky0, ky1, ky2⟩ := info_parts Tryd.infoT
  obtain ⟨p, b, rfl, hS⟩ := WRc.open (Sep.of_star hM)
  have HS := hide (hS.nil 9 1)
  have htl := Go.Window.told_length r0.slots
  have Hd0 := hide hd0
  have Hl0 := hide hl0
  clear hS hM hd0
  go_enter Tryd.func35, Tryd.ntmps35
  go_wp2_with fail
  go_loopw [3] (fun t3 wr => ∃ (acc : List ByteArray) (r : Rc), Hid (told r0.slots = acc ++ told r.slots) ∧ Hid (r.go = r0.go) ∧ Hid (r.slots.length = 32) ∧ Hid (r.due < 65536) ∧ Hid (∃ a c, t3 = .slice a acc.length c) ∧ Hid (Sep M W (tlL t3 acc.length (acc.map strV) p b r) wr)) (fun t3 _ => 33 - (match t3 with | .slice _ n _ => n | _ => 0))
  case atStart => exact ⟨[], r0, rfl, rfl, Hl0.out, Hd0.out, ⟨_, _, rfl⟩, HS.out⟩
  case round =>
    clear HS Hd0 Hl0
    obtain ⟨acc, r, Hto, Hgo, Hl, Hd, Hsh, Hs⟩ := hrel
    obtain ⟨a3, k3, rfl⟩ := Hsh.out
    clear Hsh
    have hs := Hs.out
    have c0 := (hs.sw.cell 0).1
    have c1 := (hs.sw.cell 1).1
    simp only [List.getElem?_cons_zero, List.getElem?_cons_succ] at c0 c1
    have hnd : ((wA r.due r.slots).map Prod.fst).Nodup := by
      obtain ⟨N, hN, _⟩ := hs.third.head
      exact hN.nodup
    have hdl := Hd.out
    have hwf : WfI (r.due : Int) := ⟨by omega, by omega⟩
    have HH := hide (fun W' (k : Sep M W (tlL (.slice a3 acc.length k3) acc.length (acc.map strV) p b r) W') => has_ok k.third (allFr_waits r.slots r.due) (r.due : Int) hwf)
    have HSd := hide hs.drew
    obtain ⟨x, l, hxl⟩ : ∃ x l, r.slots = x :: l := by
      cases e : r.slots with
      | nil => have := Hl.out; rw [e] at this; simp at this
      | cons x l => exact ⟨_, _, rfl⟩
    have Hat := hide (wA_head hxl Hl.out Hd.out hnd)
    rw [Hat.out] at HH
    clear hs hnd
    cases x with
    | none =>
      have hgo : r = r0.go := by rw [← Hgo.out, go_self hxl Hd.out]
      have hto : told r0.slots = acc := by rw [Hto.out, hxl]; simp [told]
      have Hfin := hide (fun W' (k : Sep M W (tlL (.slice a3 acc.length k3) acc.length (acc.map strV) p b r) W') => show Sep M W (RowF strV (.slice a3 acc.length k3) (told r0.slots) :: WRc (.pointer (some ⟨p, 0, none⟩)) r0.go :: []) W' by
        have k2 : Sep M W (RowF strV (.slice a3 acc.length k3) acc :: CellsF p 69 [.int .i64 (r.due : Int), .map (some b)] :: MapL Tryd.prog 3 b (wA r.due r.slots) :: []) W' :=
          Sep.turn (L1 := [_]) k fun N hN => ⟨N, Star.one (RowF.fine _ _ _) (RowF.of_own hN), Step.refl _ _⟩
        rw [hto, ← hgo]
        have k3 := Sep.swap (L1 := [_]) k2
        have k4 := WRc.shut k3
        exact k4.sw)
      simp only [Option.map_none, Option.isSome_none] at HH
      clear hgo hto Hat Hto Hgo hxl Hs Hl Hd
      go_wp2_with fail
      go_region_held3 (fun w' => w'.cell? ⟨p, 0, none⟩ = some (.int .i64 (r.due : Int)) ∧ w'.cell? ⟨p, 1, none⟩ = some (.map (some b)))
        (go_keep)
        (first
          | (go_at_call 34; refine (HH.out _ HSd.out).mono ?_; rintro e w1 ⟨rfl, hb1⟩; have hs1 := HSd.out.keep hb1; have k0 := (hs1.sw.cell 0).1; have k1 := (hs1.sw.cell 1).1; simp only [List.getElem?_cons_zero, List.getElem?_cons_succ] at k0 k1))
      all_goals
        have HS2 := hide (Hfin.out _ hs1)
        clear hs1 hb1 HSd HH Hfin
        go_wp2_with fail
        go_ret
        exact ⟨_, ⟨_, rfl, rfl⟩, HS2.out⟩
    | some d =>
      have Hto2 := hide (show told r0.slots = (acc ++ [d]) ++ told (Rc.step r).slots by rw [Hto.out, step_told hxl, List.append_assoc]; rfl)
      have Hgo2 := hide ((step_go hxl).trans Hgo.out)
      have Hl2 := hide (show (Rc.step r).slots.length = 32 by simp [Rc.step, Hl.out])
      have Hd2 := hide (show (Rc.step r).due < 65536 from Nat.mod_lt _ (by decide))
      have hal : acc.length ≤ 31 := by
        have := congrArg List.length Hto2.out
        simp only [List.length_append, List.length_singleton] at this
        omega
      have Hws := hide (wA_step hxl Hl.out Hd.out)
      have HA := hide (fun W' => after_ok r.due W' hdl)
      simp only [Option.map_some, Option.isSome_some] at HH
      have hfr : (Option.some (wfV d)).getD (wfV ⟨#[]⟩) = .agg #[.string d] := rfl
      have HLk := hide (fun (L : List Fam) W' (k : Sep M W (MapL Tryd.prog 3 b (wA r.due r.slots) :: L) W') => look_fr1 k hwf)
      rw [Hat.out, Option.map_some, hfr] at HLk
      clear Hto Hgo hxl Hat Hl Hd hfr
      go_wp2_with fail
      go_region_held3 (fun w' => w'.cell? ⟨p, 0, none⟩ = some (.int .i64 (r.due : Int)) ∧ w'.cell? ⟨p, 1, none⟩ = some (.map (some b)))
        (go_keep)
        (first
          | (go_at_call 34; refine (HH.out _ HSd.out).mono ?_; rintro e w1 ⟨rfl, hb1⟩; have hs1 := HSd.out.keep hb1; have k0 := (hs1.sw.cell 0).1; have k1 := (hs1.sw.cell 1).1; simp only [List.getElem?_cons_zero, List.getElem?_cons_succ] at k0 k1))
      all_goals
        have HS1 := hide hs1
        clear hs1 hb1 HSd HH Hs c0 c1 k0 k1
        go_wp2_with fail
        have c0 := (HS1.out.sw.cell 0).1
        have c1 := (HS1.out.sw.cell 1).1
        simp only [List.getElem?_cons_zero, List.getElem?_cons_succ] at c0 c1
        have t1 := HLk.out _ _ HS1.out.drew.third
        have t2 := fun o => HLk.out _ _ (HS1.out.alloc o).drew.third
        have pl := World.block_lt_of_cell? _ _ c0
        have d0 := fun o => (((Below.refl w1.heap.size w1).alloc (Nat.le_refl _) o).drew.cell (p := ⟨p, 0, none⟩) pl).trans c0
        have d1 := fun o => (((Below.refl w1.heap.size w1).alloc (Nat.le_refl _) o).drew.cell (p := ⟨p, 1, none⟩) pl).trans c1
        have Hown := hide HS1.out.own
        have hfd := field_fr d
        go_region_held3 (fun w' => w'.cell? ⟨p, 0, none⟩ = some (.int .i64 (r.due : Int)) ∧ w'.cell? ⟨p, 1, none⟩ = some (.map (some b)) ∧ (Instr.lookup 65 (.map (some b)) (.int .i64 (r.due : Int)) false).run Tryd.prog w' = .ok (.agg #[.string d]) w')
          (go_keep)
          (first
            | (refine step_append_lies _ (by rfl) _ _ _ (by rfl) 0 9 j0 _ 1 16 Tryd.underlying22 hj ky0 ky1 ky2 rfl (by omega) (.slice a3 acc.length k3) acc.length (acc.map strV) (by rfl) ((Hown.out.alloc _).drew)
                ⟨w1.heap.size, 0, none⟩ 1 1 [.string d] (by rfl) (by rfl) (World.news_of_block (cs := #[.string d]) (t := 9) (fr := (0, 0)) (heap_alloc_new w1 _)) (by simp [Value.oneCell'])
                (by omega) (by unfold maxLen; omega) (by omega) (Nat.zero_le _) (w1.heap.size + 1) (by simp) ?_; intro gg cap w2 hown2 hgrow2 hat2 hlt2; have hs2 := ((HS1.out.alloc _).drew).lies hown2 hgrow2 hat2 (by simp); have k0 := (hs2.sw.cell 0).1; have k1 := (hs2.sw.cell 1).1; simp only [List.getElem?_cons_zero, List.getElem?_cons_succ] at k0 k1; have t3 := HLk.out _ _ hs2.third))
        all_goals
          have HS2 := hide hs2
          have HD := hide hs2.drew.third
          clear hs2 hown2 hgrow2 hat2 hlt2 k0 k1 t3 t1 t2 d0 d1 c0 c1 pl HS1 Hown HLk
          have c0 := (HS2.out.sw.cell 0).1
          have c1 := (HS2.out.sw.cell 1).1
          simp only [List.getElem?_cons_zero, List.getElem?_cons_succ] at c0 c1
          go_wp2_with fail
          go_region_held3 (fun w' => w'.cell? ⟨p, 0, none⟩ = some (.int .i64 (r.due : Int)) ∧ w'.cell? ⟨p, 1, none⟩ = some (.map (some b)))
            (go_keep)
            (first
              | (refine step_mapDel rfl _ _ 65 rfl 72 Tryd.underlying3 Tryd.underlying65 HD.out rfl (r.due : Int) rfl hwf ?_; intro w3 hs3; have k0 := (hs3.third.cell 0).1; have k1 := (hs3.third.cell 1).1; simp only [List.getElem?_cons_zero, List.getElem?_cons_succ] at k0 k1))
          all_goals
            have f0 := (hs3.third.cell 0).2
            have hs4 := (Sep.third hs3).set 0 (.int .i64 (((r.due + 1) % 65536 : Nat) : Int))
            simp only [List.set_cons_zero] at hs4
            rw [Hws.out] at hs4
            have hs5 := Sep.third hs4
            have HS5 := hide hs5
            clear hs3 hs4 hs5 HS2 HD k1 c0 c1
            go_wp2_with fail
            refine (HA.out _).mono ?_
            rintro e w4 ⟨rfl, rfl⟩
            go_wp2_with fail
            go_roundw
            case rel => exact ⟨acc ++ [d], Rc.step r, Hto2.out, Hgo2.out, Hl2.out, Hd2.out, ⟨some ⟨gg, 0, none⟩, cap, by simp⟩, by simpa [tlL, Hid, strV, Rc.step] using HS5.out⟩
            case measure => simp; omega
end Go.Proofs.YtaambclpkghddaaDoor
