/-
  Contracts of package gate's rising and of Text: a range over a function.
-/
import Derived.Test.YtogpjblikphpcaaGreatDoorGtLine
import Derived.Test.YtogpjblikphpcaaGreatDoorBuildF
import Derived.Test.YtogpjblikphpcaaGreatDoorSepRange
import Derived.RangeFuncBound
import Derived.Shelf.Abstract
import Derived.Shelf.AbstractIn
import Derived.Shelf.RegionOpen
import Derived.WalkKit
import Derived.OwnWalkIn
import Derived.TacticsInMore
import Derived.LoopNIn
import Derived.LoopIn
namespace Go.Proofs.YtogpjblikphpcaaGreatDoor
open Go.RowKit Go.Shelf
open Go.Gate
open Go.Digits (digits)
attribute [local go_sem] Oper.semAt_some

set_option maxHeartbeats 1000000 in
set_option maxRecDepth 100000 in
theorem rising_ok (b : Nat) (W : World) : Calls Tryz.prog 37 #[.map (some b)] W fun r w' => r = .returned (.func (.func 65) #[] #[.pointer (some ⟨W.heap.size, 0, none⟩)]) ∧ w' = W.alloc (.cells #[.map (some b)] 76) := by
  go_enter Tryz.func37, Tryz.ntmps37
  go_wp2_with fail
  go_ret
  exact ⟨rfl, rfl⟩

theorem less_iff : ∀ x y : List UInt8, Op.bytesLess x y = true ↔ x < y
  | [], [] => by simp [Op.bytesLess]
  | [], _ :: _ => by simp [Op.bytesLess]
  | _ :: _, [] => by simp [Op.bytesLess]
  | a :: x, b :: y => by
    rw [List.cons_lt_cons_iff, ← less_iff x y]
    simp [Op.bytesLess]
theorem lt_le {a b : ByteArray} (h : Go.Files.lt a b = true) : a.data.toList ≤ b.data.toList := by
  unfold Go.Files.lt at h
  rw [less_iff, ByteArray.toList_eq, ByteArray.toList_eq] at h
  exact List.le_of_lt h
theorem keys_sorted {l : Toks} (h : RiseT l) : (l.map fun p => p.1.data.toList).mergeSort (fun x y => decide (x ≤ y)) = l.map fun p => p.1.data.toList := by
  refine List.mergeSort_of_pairwise ?_
  rw [List.pairwise_map]
  exact h.imp fun h => by simpa using lt_le h

/-- The map's keys, sorted: a new row that reads as the tokens. -/
theorem keys_ok {M0 : Foot} {w0 W : World} {L : List Fam} (b : Nat) (l : Toks) (hS : Sep M0 w0 (MapS Tryz.prog 9 b l :: L) W) (hl : Fit l) :
    Calls Tryz.prog 66 #[.func (.func 91) #[] #[.pointer (some ⟨W.heap.size, 0, none⟩)]] (W.alloc (.cells #[.map (some b)] 76)) fun r w' => ∃ a c, r = .returned (.slice a l.length c) ∧
      Sep M0 w0 (OwnF 9 1 (.slice a l.length c) l.length (l.map fun p => .string p.1) :: MapS Tryz.prog 9 b l :: L) w' := by
  obtain ⟨D, hD, hs, hp⟩ := hS.textKeys Tryz.underlying9
  have hlen := hl.len
  refine (callsIn_wide.1 (Tryz.slices_Sorted_keys_66_67 b l.length D asIs W hD (by unfold maxLen; omega) (by omega))).mono ?_
  rintro r w' ⟨v, ss, rfl, h1, h2, _, h3⟩
  have hss : ss.mergeSort (fun x y => decide (x ≤ y)) = l.map fun p => p.1.data.toList := by
    rw [← keys_sorted hl.rise]
    exact mergeSort_of_perm (h1.trans hp.symm)
  have hn : ss.length = l.length := by rw [h1.length_eq, ← hp.length_eq, List.length_map]
  rw [hss, hn, List.map_map] at h2
  obtain ⟨a, c, rfl, _⟩ := own_slice' h2
  refine ⟨a, c, rfl, Sep.more (L1 := [_]) (hS.alloc (.cells #[.map (some b)] 76)) h3 (Star.one (M := fun k => (Value.slice a l.length c).ownBlock = some k) (OwnF.fine _ _ _ _ _) ⟨own_mono h2 (Nat.zero_le _), fun _ => Iff.rfl⟩) (fun k hk => (World.ownsRow.lt h2 k hk).1)⟩

/-- What a round of the loop's body owes: from a state of its own to the next one. -/
def Rounds2 (M0 : Foot) (w0 : World) (l : Nat) (A : List Fam) (xs : List (ByteArray × Int)) (R : Nat → List Fam → Prop) : Prop :=
  ∀ k (hk : k < xs.length) n L W, R k L → Sep M0 w0 (A ++ L) W → YieldAt Fence.wide n Tryz.prog l #[.string xs[k].1, .int .i64 xs[k].2] W fun e W' => e = .returned (.bool true) ∧ ∃ L', R (k + 1) L' ∧ Sep M0 w0 (A ++ L') W'
/-- Where it stands. -/
abbrev rsL (q b : Nat) (g : Toks) (v : Value) : List Fam := [OwnF 9 1 v g.length (g.map fun p => .string p.1), MapS Tryz.prog 9 b g, CellsF q 76 [.map (some b)]]

set_option maxHeartbeats 2000000 in
set_option maxRecDepth 100000 in
theorem rising1_ok {M0 : Foot} {w0 W : World} (l q b : Nat) (g : Toks) (hl : Fit g) (R : Nat → List Fam → Prop) (L : List Fam)
    (hY : ∀ v, Rounds2 M0 w0 l (rsL q b g v) g R)
    (h0 : R 0 L) (hS : Sep M0 w0 (MapS Tryz.prog 9 b g :: CellsF q 76 [.map (some b)] :: L) W) :
    Calls Tryz.prog 65 #[.func (.yield l) #[] #[], .pointer (some ⟨q, 0, none⟩)] W fun e W' => (∃ v, e = .returned v) ∧ ∃ v L', R g.length L' ∧ Sep M0 w0 (rsL q b g v ++ L') W' := by
  have HK := hide (keys_ok b g hS hl)
  have c0 := (hS.sw.cell 0).1
  simp only [List.getElem?_cons_zero] at c0
  have HM := hide (fun W' => Tryz.maps_Keys_67 (some b) W')
  have HY := hide hY
  have HR := hide h0
  have Hrise := hide hl.rise
  have Hok := hide hl.ok
  have Hlen : Hid (g.length ≤ 20) := hl.len
  clear hS hY h0 hl
  refine (callsIn_wide (n := 6)).1 ?_
  refine callsIn_of_wp Tryz.func65 rfl trivial ?_ rfl
  simp only [Tryz.ntmps65, List.size_toArray, List.length_cons, List.length_nil, Nat.reduceAdd, Nat.reduceSub, Array.replicate_succ, Array.replicate_zero, List.push_toArray, List.append_toArray, List.nil_append, List.cons_append]
  gi_wp2_with (first
    | (refine ⟨trivial, ?_⟩; gi_at_call 67; refine (callsIn_wide.2 (callsIn_wide.1 (HM.out _))).mono ?_; rintro e w' ⟨rfl, rfl⟩)
    | (refine ⟨trivial, ?_⟩; gi_at_call 66; refine (callsIn_wide.2 HK.out).mono ?_; rintro e w' ⟨a, c, rfl, hs1⟩))
  have HS := hide (show Sep M0 w0 (rsL q b g (.slice a g.length c) ++ L) w' from hs1)
  have HYv := hide (HY.out (.slice a g.length c))
  clear HK HM hs1 HY c0
  gi_loopw [9] (fun t wr => ∃ k : Nat, t = .int .i64 k ∧ Hid (k ≤ g.length) ∧ ∃ L', Hid (R k L') ∧ Hid (Sep M0 w0 (rsL q b g (.slice a g.length c) ++ L') wr)) (fun t _ => g.length - (intOf t).toNat)
  case atStart => exact ⟨0, rfl, Nat.zero_le _, L, HR.out, HS.out⟩
  case round =>
    clear HS HR
    obtain ⟨k, rfl, Hk, L', Hr, Hs⟩ := hrel
    by_cases hlt : k < g.length
    · have hlt' : (k : Int) < g.length := by omega
      have own := Hs.out.own
      have hlook := (Hs.out.sw).tokLook1 (t := g[k].1) (by
        have := (Hok.out _ (List.getElem_mem hlt)).1
        unfold Go.Files.isNm at this
        simp only [Bool.and_eq_true, decide_eq_true_eq] at this
        omega)
      have hla : lastT g g[k].1 = g[k].2 := by
        unfold lastT
        rw [getT_of_mem Hrise.out (List.getElem_mem hlt)]
        rfl
      rw [hla] at hlook
      have c0 := (Hs.out.third.cell 0).1
      simp only [List.getElem?_cons_zero] at c0
      obtain ⟨fn, tmps, assign, body, hy, hR⟩ := HYv.out k hlt 5 L' wr Hr.out Hs.out
      rcases own.2 with ⟨_, hz⟩ | ⟨gg, cc, cur, e1, _, hb1, h1, h2, h3, h4⟩
      · omega
      · cases e1
        have cw := own.cells (g := gg) rfl k (.string g[k].1) (by simp [List.getElem?_map, List.getElem?_eq_getElem hlt])
        rw [Go.WideShapes.add_plain] at cw
        simp only [Nat.zero_add] at cw
        have Hlt := hide hlt
        have hks : (0 : Int) ≤ k := by omega
        generalize g[k].1 = t at *
        generalize g[k].2 = n at *
        clear hla own h4 h3 h2 h1 hb1 Hok Hrise
        gi_wp2
        refine hR.mono ?_
        rintro e W3 ⟨rfl, L2, hr2, hs2⟩
        have Hr2 := hide hr2
        have Hs2 := hide hs2
        have hkw : IntKind.i64.wrap ((k : Int) + 1) = (k : Int) + 1 := iwrap_id _ (by omega) (by have := Hlen.out; omega)
        clear hr2 hs2 hy hlook cw Hs Hr c0
        gi_wp2
        go_roundw
        case rel => exact ⟨k + 1, by simp, Hlt.out, L2, Hr2.out, Hs2.out⟩
        case measure => have := Hlt.out; simp [intOf]; omega
    · have hlt' : (g.length : Int) ≤ k := by omega
      obtain rfl : k = g.length := by have := Hk.out; omega
      gi_wp2
      go_end0
      exact ⟨⟨_, rfl⟩, _, _, Hr.out, Hs.out⟩
end Go.Proofs.YtogpjblikphpcaaGreatDoor
