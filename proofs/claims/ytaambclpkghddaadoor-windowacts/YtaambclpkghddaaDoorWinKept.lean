/-
  Contract of package window's Kept.
-/
import Derived.Test.YtaambclpkghddaaDoorWinSnd
import Derived.Deep.RegionHeld3
namespace Go.Proofs.YtaambclpkghddaaDoor
open Go.RowKit
open Go.Window (Sn dist)

set_option maxHeartbeats 2000000 in
set_option maxRecDepth 100000 in
theorem kept_ok (v : Value) (s : Sn) (W : World) (hs : s.Ok) :
    Tri Tryd.prog 12 #[v] [WSn v s] (fun e L => ∃ u, e = .returned u ∧ L = [RowF intV u (s.kept.map fun p => (p.1 : Int)), WSn v s]) W := by
  intro M hM
  obtain ⟨p, b, rfl, hS⟩ := WSn.open (Sep.of_star hM)
  have c0 := (hS.cell 0).1
  have c1 := (hS.cell 1).1
  have c2 := (hS.cell 2).1
  simp only [List.getElem?_cons_zero, List.getElem?_cons_succ] at c0 c1 c2
  have HS := hide hS.drew.sw
  have HG := hide (fun w => gap_ok (old s) s.next w (old_lt hs) hs.next)
  have hd := wdist_lt (old s) s.next
  have HO := hide (fun w => inOrder_ok b (keptA s.kept) (old s) (dist (old s) s.next) w (allFr_kept _) (old_lt hs) (by omega))
  rw [ordered_kept hs] at HO
  have Hsh := hide (fun (u : Value) w' (h : Sep M W (CellsF p 67 [.int .i64 (old s : Int), .int .i64 (s.next : Int), .map (some b)] :: MapL Tryd.prog 3 b (keptA s.kept) :: RowF intV u (s.kept.map fun p => (p.1 : Int)) :: []) w') => (WSn.shut (s := s) h).sw)
  clear hS hM hd hs
  generalize keptA s.kept = l at *
  generalize (s.kept.map fun p => (p.1 : Int)) = ks at *
  generalize dist (old s) s.next = D at *
  generalize old s = o at *
  generalize s.next = nx at *
  go_enter Tryd.func12, Tryd.ntmps12
  go_wp2_with fail
  go_region_held3 (fun w' => w'.cell? ⟨p, 0, none⟩ = some (.int .i64 (o : Int)) ∧ w'.cell? ⟨p, 1, none⟩ = some (.int .i64 (nx : Int)) ∧ w'.cell? ⟨p, 2, none⟩ = some (.map (some b)))
    (go_keep)
    (first
      | (go_at_call 26; refine (HG.out _).mono ?_; rintro e w1 ⟨rfl, rfl⟩)
      | (go_at_call 32; refine (Sep.call (L0 := [_]) HS.out (HO.out _)).mono ?_; rintro e w1 ⟨_, ⟨u, rfl, rfl⟩, hs1⟩; have k0 := (hs1.third.cell 0).1; have k1 := (hs1.third.cell 1).1; have k2 := (hs1.third.cell 2).1; simp only [List.getElem?_cons_zero, List.getElem?_cons_succ] at k0 k1 k2; obtain ⟨ua, uc, rfl, -⟩ := hs1.rowForm))
  all_goals
    have HS1 := hide (Hsh.out _ _ (Sep.sw2 (Sep.third hs1)))
    clear hs1 k0 k1 k2
    go_wp2_with fail
    go_ret
    exact ⟨_, ⟨_, rfl, rfl⟩, HS1.out⟩
end Go.Proofs.YtaambclpkghddaaDoor
