/-
  Contract of the document's Receiver.More over this dump: any receiver.
-/
import Derived.Test.YtaambclpkghddaaDoorRefPlace
namespace Go.Proofs.YtaambclpkghddaaDoor
open Go.RowKit
open Go.Window (Rc Waits dist)

/-- The cells of what waits. -/
theorem rrc_cells {M0 : Foot} {w0 w : World} {p : Nat} {r : Rc} {v : Value × Value} {l : List (Nat × ByteArray)} {L : List Fam} (h : Sep M0 w0 (rrcL p r v l ++ L) w) :
    ∃ a c a' c', v = (.slice a l.length c, .slice a' l.length c') ∧ l.length ≤ c ∧ l.length ≤ c' ∧ w.cell? ⟨p, 0, none⟩ = some (.int .i64 (r.due : Int)) ∧ w.cell? ⟨p, 1, none⟩ = some (.slice a l.length c) ∧ w.cell? ⟨p, 2, none⟩ = some (.slice a' l.length c') ∧
      (∀ i (h : i < l.length), ∃ g, a = some ⟨g, 0, none⟩ ∧ w.cell? ⟨g, i, none⟩ = some (.int .i64 (l[i].1 : Int))) ∧ ∀ i (h : i < l.length), ∃ g, a' = some ⟨g, 0, none⟩ ∧ w.cell? ⟨g, i, none⟩ = some (.string l[i].2) := by
  obtain ⟨v1, v2⟩ := v
  simp only [rrcL, List.cons_append, List.nil_append] at h
  obtain ⟨a, c, rfl, hc⟩ := own_slice h.sw.own
  obtain ⟨a', c', rfl, hc'⟩ := own_slice h.third.own
  refine ⟨a, c, a', c', rfl, hc, hc', (h.cell 0).1, (h.cell 1).1, (h.cell 2).1, fun i hi => ?_, fun i hi => ?_⟩
  · rcases h.sw.own.2 with ⟨e, e0⟩ | ⟨g, _, _, e, _⟩
    · omega
    · cases e
      exact ⟨g, rfl, (h.sw.own.cellAt i (by omega)).trans (by rw [List.getElem?_map, List.getElem?_eq_getElem hi]; rfl)⟩
  · rcases h.third.own.2 with ⟨e, e0⟩ | ⟨g, _, _, e, _⟩
    · omega
    · cases e
      exact ⟨g, rfl, (h.third.own.cellAt i (by omega)).trans (by rw [List.getElem?_map, List.getElem?_eq_getElem hi]; rfl)⟩

set_option maxHeartbeats 1000000 in
set_option maxRecDepth 100000 in
theorem more_ok (p : Nat) (r : Rc) (W : World) : Tri Tryd.prog 22 #[.pointer (some ⟨p, 0, none⟩)] [RRc p r] (fun e L => ∃ v, e = .returned v ∧ L = [RowF intV v (r.more.map Int.ofNat), RRc p r]) W := by
  intro M hM
  obtain ⟨i0, hi, hz0, hz1, hz2⟩ := info_parts Tryd.infoI
  obtain ⟨⟨⟨v, l⟩, hw⟩, hS⟩ := (Sep.of_star hM).unpack
  simp only at hw hS
  have HS := hide hS
  have hll := waits_length hw
  have hdue := hw.due
  have hdue' : (r.due : Int) ≤ 65535 := by omega
  have HC := hide (fun (wr : World) L (h : Sep M W (rrcL p r v l ++ L) wr) => rrc_cells h)
  have HW := hide (fun i (hi : i < 32) => waits_is hw i hi)
  have HP := hide (fun (a : Option Addr) (c : Nat) wr (n : Int) => place_ok p l n a c wr (by omega))
  have HF := hide (fun n => place_find l n)
  have Hfin : Hid (∀ u wr, Sep M W (OwnF 3 1 u (moreT r 32).length ((moreT r 32).map intV) :: rrcL p r v l) wr → Sep M W [RowF intV u (r.more.map Int.ofNat), RRc p r] wr) := by
    intro u wr h
    rw [moreT_all] at h
    have h2 := Sep.turn (L1 := [RowF intV u (r.more.map Int.ofNat)]) h fun M hM => ⟨M, Star.one (RowF.fine _ _ _) (RowF.of_own hM), Step.refl _ _⟩
    have h3 : Sep M W (rrcL p r v l ++ [RowF intV u (r.more.map Int.ofNat)]) wr := Sep.swap (L1 := [_]) h2
    exact (Sep.pack (f := fun i : { x : (Value × Value) × List (Nat × ByteArray) // Waits r x.2 } => rrcL p r i.1.1 i.1.2) ⟨(v, l), hw⟩ h3).sw
  have Hlen := hide (fun i => moreT_length r i)
  have Hyes := hide (fun i h => moreT_yes r i h)
  have Hno := hide (fun i h => moreT_no r i h)
  clear hM hS hw
  go_enter Tryd.func22, Tryd.ntmps22
  go_wp2_with fail
  go_loopw [3, 4] (fun t3 t4 wr => ∃ i : Nat, t4 = .int .i64 i ∧ i ≤ 32 ∧ Hid (Sep M W (OwnF 3 1 t3 (moreT r i).length ((moreT r i).map intV) :: rrcL p r v l) wr)) (fun _ t4 _ => 32 - (intOf t4).toNat)
  case atStart => exact ⟨0, rfl, by omega, HS.out.nil _ _⟩
  case round =>
    obtain ⟨i, rfl, hi2, Hs⟩ := hrel
    by_cases hlt : i < 32
    · have hlt' : (i : Int) < 32 := by omega
      have hsw : Sep M W (rrcL p r v l ++ [_]) wr := Sep.swap (L1 := [_]) Hs.out
      obtain ⟨a, c, a', c', rfl, -, -, c0, c1, -, hc, -⟩ := HC.out wr _ hsw
      have HP1 := hide (HP.out a c wr ((((r.due + i) % 65536 : Nat)) : Int) c1 hc)
      obtain ⟨k, hk, hno, hyes, hkl⟩ := HF.out ((((r.due + i) % 65536 : Nat)) : Int)
      have HP2 := hide (HP1.out k hk hno hyes)
      have hen : (((r.due + i) % 65536 : Nat) : Int) = ((r.due : Int) + i) % 65536 := by omega
      rw [HW.out i hlt] at hkl
      have hp0 : 0 ≤ (r.due : Int) + i := by omega
      obtain ⟨u3, b3, rfl, -⟩ := own_slice Hs.out.own
      have Ho3 := hide Hs.out.own
      have hl3 := Hlen.out i
      rw [hen] at HP2
      clear HP1 hno hyes hc hsw HC HP HF hlt
      by_cases hkx : k < l.length
      · have hv : placeV k l.length = (k : Int) := if_pos hkx
        have hv0 : 0 ≤ placeV k l.length := by rw [hv]; omega
        have hx := Hyes.out i (hkl.1 hkx)
        rw [hen] at hx
        have Hx := hide hx
        have hrng : 0 ≤ ((r.due : Int) + i) % 65536 ∧ ((r.due : Int) + i) % 65536 ≤ 65535 := by omega
        obtain ⟨hr0, hr1⟩ := hrng
        clear hv hkl hx hkx hk
        generalize placeV k l.length = pv at *
        generalize hy : ((r.due : Int) + i) % 65536 = y at *
        generalize moreT r i = fl at *
        have Hnx : Hid (∀ u wz, Sep M W (OwnF 3 1 u (fl.length + 1) (fl.map intV ++ [.int .i64 y]) :: rrcL p r (.slice a l.length c, .slice a' l.length c') l) wz → Sep M W (OwnF 3 1 u (moreT r (i + 1)).length ((moreT r (i + 1)).map intV) :: rrcL p r (.slice a l.length c, .slice a' l.length c') l) wz) := fun u wz h => by
          rw [Hx.out]; simpa [intV] using h
        clear Hx
        go_wp2_with fail
        refine HP2.out.mono ?_
        rintro e w3 ⟨rfl, rfl⟩
        go_wp2_with (at_builtin; refine wpList_append_lies _ rfl (.tmp 21) (.tmp 23) 23 rfl 0 3 i0 (.int .i64 0) 1 8 Tryd.underlying23 hi hz0 hz1 hz2 rfl (by decide) _ fl.length (fl.map intV) rfl (Ho3.out.alloc _) ⟨w3.heap.size, 0, none⟩ 1 1 [.int .i64 y] rfl rfl ?c1 ?c2 (by decide) ?b1 ?b2 (Nat.zero_le _) _ rfl ?next)
        case c1 => exact news1 _ _ _ _ rfl
        case c2 => intro u hu; simp at hu; subst hu; rfl
        case b1 => unfold maxLen; omega
        case b2 => omega
        case next =>
          intro g1 e1 w5 own5 hg5 hat5 hlt5
          have Hs5 := hide ((Hs.out.alloc (.cells #[.int .i64 y] 3)).lies own5 hg5 hat5 (by simp))
          clear own5 hg5 hat5 hlt5 Hs Ho3 c0 c1
          go_wp2_with fail
          go_roundw
          case rel => exact ⟨i + 1, by go_num, by omega, Hnx.out _ _ Hs5.out⟩
          case measure => simp [intOf]; omega
      · have hv : placeV k l.length = -1 := if_neg hkx
        have hv0 : placeV k l.length < 0 := by rw [hv]; omega
        have Hx := hide (Hno.out i (fun h => hkx (hkl.2 h)))
        have hrng : 0 ≤ ((r.due : Int) + i) % 65536 ∧ ((r.due : Int) + i) % 65536 ≤ 65535 := by omega
        obtain ⟨hr0, hr1⟩ := hrng
        clear hv hkl hkx hk
        generalize placeV k l.length = pv at *
        generalize hy : ((r.due : Int) + i) % 65536 = y at *
        have Hnx : Hid (Sep M W (OwnF 3 1 (.slice u3 (moreT r i).length b3) (moreT r (i + 1)).length ((moreT r (i + 1)).map intV) :: rrcL p r (.slice a l.length c, .slice a' l.length c') l) wr) := by
          rw [Hx.out]; exact Hs.out
        clear Hx
        go_wp2_with fail
        refine HP2.out.mono ?_
        rintro e w3 ⟨rfl, rfl⟩
        go_wp2_with fail
        go_roundw
        case rel => exact ⟨i + 1, by go_num, by omega, Hnx.out⟩
        case measure => simp [intOf]; omega
    · have hle : (32 : Int) ≤ (i : Int) := by omega
      obtain rfl : i = 32 := by omega
      have Hf := hide (Hfin.out _ _ Hs.out)
      clear Hfin HC HW HP HF Hlen Hyes Hno
      go_wp2_with fail
      go_ret
      exact ⟨_, ⟨_, rfl, rfl⟩, Hf.out⟩
end Go.Proofs.YtaambclpkghddaaDoor
