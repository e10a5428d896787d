/-
  Contracts of package window's NewReceiver, Ack.
-/
import Derived.Test.YtaambclpkghddaaDoorWinOrd
import Derived.Deep.RegionHeld3
import Derived.Deep.QuietTactic
import Derived.BigQuiet
import Derived.WalkSmall
import Derived.Deep.DeepCutAuto
namespace Go.Proofs.YtaambclpkghddaaDoor
open Go.RowKit
open Go.Window (Rc dist rcNew startN)

theorem WRc.open {M0 : Foot} {w0 w : World} {v : Value} {r : Rc} {L : List Fam} (h : Sep M0 w0 (WRc v r :: L) w) : ∃ p b, v = .pointer (some ⟨p, 0, none⟩) ∧ Sep M0 w0 (CellsF p 69 [.int .i64 (r.due : Int), .map (some b)] :: MapL Tryd.prog 3 b (wA r.due r.slots) :: L) w := by
  obtain ⟨⟨⟨p, b⟩, hv⟩, hS⟩ := h.unpack
  exact ⟨p, b, hv, hS⟩
theorem WRc.shut {M0 : Foot} {w0 w : World} {r : Rc} {p b : Nat} {L : List Fam} (h : Sep M0 w0 (CellsF p 69 [.int .i64 (r.due : Int), .map (some b)] :: MapL Tryd.prog 3 b (wA r.due r.slots) :: L) w) : Sep M0 w0 (WRc (.pointer (some ⟨p, 0, none⟩)) r :: L) w :=
  Sep.pack (f := fun i : {i : Nat × Nat // Value.pointer (some ⟨p, 0, none⟩) = .pointer (some ⟨i.1, 0, none⟩)} => rrL r i.1) ⟨(p, b), rfl⟩ h

theorem wA_new (n m : Nat) : wA m (List.replicate n none) = [] := by
  induction n generalizing m with
  | zero => rfl
  | succ n ih => rw [List.replicate_succ, wA, ih]

set_option maxHeartbeats 1000000 in
set_option maxRecDepth 100000 in
theorem newReceiver_ok (n : Int) (W : World) : Tri Tryd.prog 8 #[.int .i64 n] [] (fun e L => ∃ a, e = .returned (.pointer (some a)) ∧ L = [WRc (.pointer (some a)) (rcNew (startN n))]) W := by
  intro M hM
  have hl := Go.Window.start_lt n
  have HB := hide (fun w => begin_ok n w)
  have hS := ((Sep.of_star hM).mapMade Tryd.prog 3).fresh 69 [.int .i64 (startN n : Nat), .map (some W.heap.size)]
  have e2 : (rcNew (startN n)).due = startN n := by simp [rcNew]; omega
  have hsh : ∀ q w', Sep M W (CellsF q 69 [.int .i64 (startN n : Nat), .map (some W.heap.size)] :: MapL Tryd.prog 3 W.heap.size [] :: []) w' → Sep M W (WRc (.pointer (some ⟨q, 0, none⟩)) (rcNew (startN n)) :: []) w' := fun q w' h => by
    refine WRc.shut (b := W.heap.size) ?_
    rw [e2, show (rcNew (startN n)).slots = List.replicate 32 none from rfl, wA_new]
    exact h
  have hS' := hsh _ _ hS
  rw [show (W.alloc (.map #[] 0)).heap.size = W.heap.size + 1 by simp] at hS'
  have HS := hide hS'
  have hmm := @run_makeMap Tryd.prog
  clear hS hS' hsh e2 hl hM
  generalize rcNew (startN n) = s at *
  generalize startN n = m at *
  go_enter Tryd.func8, Tryd.ntmps8
  go_wp2_with fail
  refine (HB.out _).mono ?_
  rintro e w1 ⟨rfl, rfl⟩
  go_wp2_with fail
  go_ret
  exact ⟨_, ⟨_, rfl, rfl⟩, HS.out⟩

set_option maxHeartbeats 2000000 in
set_option maxRecDepth 100000 in
theorem ackR_ok (v : Value) (r : Rc) (W : World) (hr : r.Ok) :
    Tri Tryd.prog 11 #[v] [WRc v r] (fun e L => ∃ u, e = .returned (.agg #[.int .i64 (r.due : Int), u]) ∧ L = [RowF intV u (r.more.map Int.ofNat), WRc v r]) W := by
  intro M hM
  obtain ⟨p, b, rfl, hS⟩ := WRc.open (Sep.of_star hM)
  have h1 := hS.fresh 38 [.int .i64 0, .slice none 0 0]
  have h1' : Sep M W (MapL Tryd.prog 3 b (wA r.due r.slots) :: CellsF W.heap.size 38 [.int .i64 0, .slice none 0 0] :: CellsF p 69 [.int .i64 (r.due : Int), .map (some b)] :: []) _ := h1.third
  have c0 := (h1'.third.cell 0).1
  have c1 := (h1'.third.cell 1).1
  simp only [List.getElem?_cons_zero, List.getElem?_cons_succ] at c0 c1
  have HSd := hide h1'.drew
  have hpl : p < W.heap.size := World.block_lt_of_cell? _ _ (hS.cell 0).1
  have hnd : ((wA r.due r.slots).map Prod.fst).Nodup := by
    obtain ⟨N, hN, _⟩ := h1'.head
    exact hN.nodup
  have HO := hide (fun w => inOrder_ok b (wA r.due r.slots) r.due 32 w (allFr_waits _ _) hr.due (by omega))
  rw [ordered_more hr hnd] at HO
  have Hsh := hide (fun (u : Value) w' (h : Sep M W (CellsF p 69 [.int .i64 (r.due : Int), .map (some b)] :: MapL Tryd.prog 3 b (wA r.due r.slots) :: RowF intV u (r.more.map Int.ofNat) :: []) w') => (WRc.shut (r := r) h).sw)
  clear hS hM hr h1 h1' hnd
  generalize wA r.due r.slots = l at *
  generalize r.more.map Int.ofNat = ks at *
  generalize r.due = o at *
  go_enter Tryd.func11, Tryd.ntmps11
  go_wp2_with fail
  go_region_held3 (fun w' => w'.cell? ⟨p, 0, none⟩ = some (.int .i64 (o : Int)) ∧ w'.cell? ⟨p, 1, none⟩ = some (.map (some b)))
    (first | go_keep | (refine ⟨?_, ?_⟩ <;> (rw [World.cell?_setCell_other _ _ _ _ (by simp <;> omega), World.cell?_setCell_other _ _ _ _ (by simp <;> omega)]; assumption)))
    (first
      | (go_at_call 32; refine (Sep.call (L0 := [_]) HSd.out (HO.out _)).mono ?_; rintro e w1 ⟨_, ⟨u, rfl, rfl⟩, hs1⟩; have k0 := (hs1.fourth.cell 0).1; have k1 := (hs1.fourth.cell 1).1; have j0 := (hs1.third.cell 0).1; have j1 := (hs1.third.cell 1).1; have i0 := (hs1.third.cell 0).2; have i1 := (hs1.third.cell 1).2; simp only [List.getElem?_cons_zero, List.getElem?_cons_succ] at k0 k1 j0 j1; obtain ⟨ua, uc, rfl, -⟩ := hs1.rowForm))
  all_goals
    have hs2 := ((hs1.third).set 0 (.int .i64 (o : Int))).set 1 (.slice ua ks.length uc)
    simp only [List.set_cons_zero, List.set_cons_succ] at hs2
    have m0 := (hs2.cell 0).1
    have m1 := (hs2.cell 1).1
    simp only [List.getElem?_cons_zero, List.getElem?_cons_succ] at m0 m1
    have HS2 := hide (Hsh.out _ _ (Sep.third hs2.drop).sw2)
    clear hs1 hs2 k0 k1 j0 j1 i0 i1
    go_wp2_with fail
    (try simp only [Exit.then])
    refine bodyPost_ret (v := .agg #[.int .i64 (o : Int), .slice ua ks.length uc]) ?_ rfl ⟨_, ⟨_, rfl, rfl⟩, HS2.out⟩
    simp only [results, show Tryd.f11.results = #[.cell 2 38] from rfl]
    go_simp
end Go.Proofs.YtaambclpkghddaaDoor
