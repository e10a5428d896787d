/-
  Contracts of package window's Sender.Take and what it calls: the call that drops one, answeredBy, findOldest.
-/
import Derived.Test.YtaambclpkghddaaDoorWinSnd
import Derived.Deep.RegionHeld3
import Derived.Deep.DeepCutAuto
namespace Go.Proofs.YtaambclpkghddaaDoor
open Go.RowKit
open Go.Window (Sn dist far)

set_option maxHeartbeats 1000000 in
set_option maxRecDepth 100000 in
theorem drop1_ok {M0 : Foot} {w0 w : World} {q p b : Nat} {x y : Value} {l : Assoc} {L : List Fam}
    (h : Sep M0 w0 (MapL Tryd.prog 3 b l :: CellsF q 25 [.pointer (some ⟨p, 0, none⟩)] :: CellsF p 67 [x, y, .map (some b)] :: L) w) (n : Int) (hn : WfI n) :
    Calls Tryd.prog 28 #[.int .i64 n, .pointer (some ⟨q, 0, none⟩)] w fun e w' => e = .returned (.tuple #[]) ∧
      Sep M0 w0 (MapL Tryd.prog 3 b (l.del n) :: CellsF q 25 [.pointer (some ⟨p, 0, none⟩)] :: CellsF p 67 [x, y, .map (some b)] :: L) w' := by
  have HS := hide h
  have c0 := (h.sw.cell 0).1
  have c2 := (h.third.cell 2).1
  simp only [List.getElem?_cons_zero, List.getElem?_cons_succ] at c0 c2
  have Hn := hide hn
  clear h hn
  go_enter Tryd.func28, Tryd.ntmps28
  go_wp2_with (at_delete; refine wpList_mapDel rfl _ _ 65 rfl 72 Tryd.underlying3 Tryd.underlying65 HS.out rfl n rfl Hn.out ?_)
  intro w1 hs1
  have HS1 := hide hs1
  clear hs1 HS c0 c2
  go_wp2_with fail
  go_end0
  exact ⟨rfl, HS1.out⟩

set_option maxHeartbeats 1000000 in
set_option maxRecDepth 100000 in
theorem answered_ok (p o nx : Nat) (n : Int) (w : World) (ho : o < 65536) (hnx : nx < 65536) (c0 : w.cell? ⟨p, 0, none⟩ = some (.int .i64 (o : Int))) (c1 : w.cell? ⟨p, 1, none⟩ = some (.int .i64 (nx : Int))) :
    Calls Tryd.prog 30 #[.pointer (some ⟨p, 0, none⟩), .int .i64 n] w fun e w' => e = .returned (.int .i64 ((if (0 ≤ n ∧ n < 65536) ∧ dist o n.toNat ≤ dist o nx then dist o n.toNat else 0 : Nat) : Int)) ∧ Below w.heap.size w w' := by
  have HN := hide (fun W => isNumber_ok n W)
  by_cases hn : 0 ≤ n ∧ n < 65536
  · obtain ⟨m, rfl⟩ : ∃ m : Nat, n = m := ⟨n.toNat, by omega⟩
    have hm : m < 65536 := by omega
    have e : nmB (m : Int) = true := by simp [nmB]; omega
    rw [e] at HN
    rw [Int.toNat_natCast]
    have HG := hide (fun W => gap_ok o m W ho hm)
    have HG2 := hide (fun W => gap_ok o nx W ho hnx)
    clear e
    generalize dist o m = D at *
    generalize dist o nx = D2 at *
    by_cases hle : D ≤ D2
    · rw [if_pos ⟨hn, hle⟩]
      have hle' : (D : Int) ≤ D2 := by omega
      clear hn hle hm ho hnx
      go_enter Tryd.func30, Tryd.ntmps30
      go_wp2_with fail
      refine (HN.out _).mono ?_
      rintro e w1 ⟨rfl, rfl⟩
      go_wp2_with fail
      refine (HG.out _).mono ?_
      rintro e w2 ⟨rfl, rfl⟩
      go_wp2_with fail
      go_quiet ((go_at_call 26; exact Calls.quiet_of_same (HG2.out _)))
      go_wp2_with fail
      go_ret
      exact ⟨rfl, below_drewN (Below.refl _ _) _⟩
    · rw [if_neg (fun h => hle h.2)]
      have hle' : (D2 : Int) < D := by omega
      clear hn hle hm ho hnx
      go_enter Tryd.func30, Tryd.ntmps30
      go_wp2_with fail
      refine (HN.out _).mono ?_
      rintro e w1 ⟨rfl, rfl⟩
      go_wp2_with fail
      refine (HG.out _).mono ?_
      rintro e w2 ⟨rfl, rfl⟩
      go_wp2_with fail
      go_quiet ((go_at_call 26; exact Calls.quiet_of_same (HG2.out _)))
      go_wp2_with fail
      go_ret
      exact ⟨rfl, below_drewN (Below.refl _ _) _⟩
  · rw [if_neg (fun h => hn h.1)]
    have e : nmB n = false := by unfold nmB; exact decide_eq_false hn
    rw [e] at HN
    clear e hn
    go_enter Tryd.func30, Tryd.ntmps30
    go_wp2_with fail
    refine (HN.out _).mono ?_
    rintro e w1 ⟨rfl, rfl⟩
    go_wp2_with fail
    go_ret
    exact ⟨rfl, Below.refl _ _⟩

/-- A sender whose oldest one is yet to be found. -/
abbrev sdL (p b o : Nat) (s : Sn) : List Fam := [CellsF p 67 [.int .i64 (o : Int), .int .i64 (s.next : Int), .map (some b)], MapL Tryd.prog 3 b (keptA s.kept)]

set_option maxHeartbeats 2000000 in
set_option maxRecDepth 100000 in
theorem findOldest_ok (p b o : Nat) (s : Sn) (W : World) (hs : s.Ok) (ho : o < 65536) (hle : ∀ x ∈ s.kept, dist x.1 s.next ≤ dist o s.next) :
    Tri Tryd.prog 31 #[.pointer (some ⟨p, 0, none⟩)] (sdL p b o s) (fun e L => e = .returned (.tuple #[]) ∧ L = sdL p b (old s) s) W := by
  intro M hM
  have HS := hide (Sep.of_star hM)
  have Hok := hide hs
  have hnx := hs.next
  have Hle := hide hle
  clear hM hs hle
  go_enter Tryd.func31, Tryd.ntmps31
  go_wp2_with fail
  go_loopw [22] (fun _ wr => ∃ x : Nat, x < 65536 ∧ Hid (∀ y ∈ s.kept, dist y.1 s.next ≤ dist x s.next) ∧ Hid (Sep M W (sdL p b x s) wr)) (fun _ wr => match wr.cell? ⟨p, 0, none⟩ with | some (.int _ x) => dist x.toNat s.next | _ => 0)
  case atStart => exact ⟨o, ho, Hle.out, HS.out⟩
  case round =>
    clear HS Hle ho
    obtain ⟨x, hx, Hle, Hs⟩ := hrel
    have hs := Hs.out
    have c0 := (hs.cell 0).1
    have c1 := (hs.cell 1).1
    have c2 := (hs.cell 2).1
    have f0 := (hs.cell 0).2
    simp only [List.getElem?_cons_zero, List.getElem?_cons_succ] at c0 c1 c2
    clear hs
    by_cases hz : x = s.next
    · have hfin := old_of Hok.out hx Hle.out (.inl hz)
      have HS1 := hide (hfin ▸ Hs.out : Sep M W (sdL p b (old s) s) wr)
      have hz' : (x : Int) = (s.next : Int) := by omega
      clear hfin Hs Hle Hok hz
      go_wp2_with fail
      go_quiet (fail)
      have HS2 := hide (HS1.out.keep (below_drewN (Below.refl wr.heap.size wr) nq))
      go_wp2_with fail
      go_end0
      exact ⟨_, ⟨rfl, rfl⟩, HS2.out⟩
    · have hz' : ((x : Int) != (s.next : Int)) = true := by simp; omega
      have HH := hide (fun W' (k : Sep M W (sdL p b x s) W') => has_ok k.sw (allFr_kept s.kept) (x : Int) ⟨by omega, by omega⟩)
      have HSd := hide (Hs.out.drew)
      cases hat : ((keptA s.kept).at_ (x : Int)).isSome with
      | true =>
        have hfin := old_of Hok.out hx Hle.out (.inr hat)
        rw [hat] at HH
        have HE : Hid (sdL p b x s = sdL p b (old s) s) := by rw [hfin]; rfl
        clear hfin Hs Hle Hok hz hat hnx hx
        go_wp2_with fail
        go_region_held3 (fun w' => w'.cell? ⟨p, 0, none⟩ = some (.int .i64 (x : Int)) ∧ w'.cell? ⟨p, 1, none⟩ = some (.int .i64 (s.next : Int)) ∧ w'.cell? ⟨p, 2, none⟩ = some (.map (some b)))
          (go_keep)
          (first
            | (go_at_call 34; refine (HH.out _ HSd.out).mono ?_; rintro e w1 ⟨rfl, hb1⟩; have hs1 := HSd.out.keep hb1; have k0 := (hs1.cell 0).1; have k1 := (hs1.cell 1).1; have k2 := (hs1.cell 2).1; simp only [List.getElem?_cons_zero, List.getElem?_cons_succ] at k0 k1 k2))
        all_goals
          have HS2 := hide (HE.out ▸ hs1 : Sep M W (sdL p b (old s) s) w1)
          clear hs1 hb1 HSd HH HE
          go_wp2_with fail
          go_end0
          exact ⟨_, ⟨rfl, rfl⟩, HS2.out⟩
      | false =>
        obtain ⟨hm, hle2⟩ := old_next Hok.out hx Hle.out hz hat
        have Hle2 := hide hle2
        have hlt : dist ((x + 1) % 65536) s.next < dist x s.next := by omega
        have Hlt := hide hlt
        have HA := hide (fun W' => after_ok x W' hx)
        rw [hat] at HH
        have hc0 := c0
        have Hc0 := hide hc0
        have hy := Nat.mod_lt (x + 1) (show 0 < 65536 by decide)
        clear hle2 hm hlt Hs Hle hz hat hc0
        generalize (x + 1) % 65536 = y at *
        go_wp2_with fail
        go_region_held3 (fun w' => w'.cell? ⟨p, 0, none⟩ = some (.int .i64 (x : Int)) ∧ w'.cell? ⟨p, 1, none⟩ = some (.int .i64 (s.next : Int)) ∧ w'.cell? ⟨p, 2, none⟩ = some (.map (some b)))
          (go_keep)
          (first
            | (go_at_call 34; refine (HH.out _ HSd.out).mono ?_; rintro e w1 ⟨rfl, hb1⟩; have hs1 := HSd.out.keep hb1; have k0 := (hs1.cell 0).1; have k1 := (hs1.cell 1).1; have k2 := (hs1.cell 2).1; simp only [List.getElem?_cons_zero, List.getElem?_cons_succ] at k0 k1 k2))
        all_goals
          have hs2 := hs1.set 0 (.int .i64 (y : Int))
          have g0 := (hs1.cell 0).2
          simp only [List.set_cons_zero] at hs2
          have HS2 := hide hs2
          clear hs1 hs2 hb1 HSd HH f0
          go_wp2_with fail
          refine (HA.out _).mono ?_
          rintro e w2 ⟨rfl, rfl⟩
          go_wp2_with fail
          go_roundw
          case rel => exact ⟨y, hy, Hle2.out, HS2.out⟩
          case measure =>
            have a0 := (HS2.out.cell 0).1
            simp only [List.getElem?_cons_zero] at a0
            rw [a0, Hc0.out]
            simp only [Int.toNat_natCast]
            exact Hlt.out
end Go.Proofs.YtaambclpkghddaaDoor
