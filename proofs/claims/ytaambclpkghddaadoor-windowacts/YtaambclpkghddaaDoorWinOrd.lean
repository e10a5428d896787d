/-
  Contracts of frames.inOrder and of the call that it hands on.
-/
import Derived.Test.YtaambclpkghddaaDoorWinRound
import Derived.Test.YtaambclpkghddaaDoorWinOk
import Derived.Deep.AppendLies
namespace Go.Proofs.YtaambclpkghddaaDoor
open Go.RowKit

theorem Tryd.infoN : (Tryd.prog.info? 3).map (fun i => (i.zero, i.size, i.bytes)) = some (some (.int .i64 0), 1, 8) := by kernel_rfl

set_option maxHeartbeats 1000000 in
set_option maxRecDepth 100000 in
theorem order1_ok {M0 : Foot} {w0 w : World} {pl pb b : Nat} {v : Value} {xs : List Int} {l : Assoc} {L : List Fam}
    (h : Sep M0 w0 (CellsF pl 23 [v] :: OwnF 3 1 v xs.length (xs.map intV) :: CellsF pb 65 [.map (some b)] :: MapL Tryd.prog 3 b l :: L) w) (ha : AllFr l) (n : Int) (hn : WfI n) (hx : xs.length ≤ 1000000) :
    Calls Tryd.prog 40 #[.int .i64 n, .pointer (some ⟨pb, 0, none⟩), .pointer (some ⟨pl, 0, none⟩)] w fun e w' => e = .returned (.tuple #[]) ∧
      ∃ v', Sep M0 w0 (CellsF pl 23 [v'] :: OwnF 3 1 v' (xs ++ if (l.at_ n).isSome then [n] else []).length ((xs ++ if (l.at_ n).isSome then [n] else []).map intV) :: CellsF pb 65 [.map (some b)] :: MapL Tryd.prog 3 b l :: L) w' := by
  obtain ⟨i0, hi, hz0, hz1, hz2⟩ := info_parts Tryd.infoN
  have HS := hide h
  obtain ⟨a, c, rfl, hc⟩ := own_slice' h.sw.own
  have HH := hide (fun W (k : Sep M0 w0 (CellsF pl 23 [.slice a xs.length c] :: OwnF 3 1 (.slice a xs.length c) xs.length (xs.map intV) :: CellsF pb 65 [.map (some b)] :: MapL Tryd.prog 3 b l :: L) W) => has_ok k.fourth ha n hn)
  have c0 := (h.third.cell 0).1
  simp only [List.getElem?_cons_zero] at c0
  clear h ha hn hc
  generalize (l.at_ n).isSome = x at *
  cases x with
  | false =>
    simp only [Bool.false_eq_true, if_false, List.append_nil]
    go_enter Tryd.func40, Tryd.ntmps40
    go_wp2_with fail
    refine (HH.out _ HS.out).mono ?_
    rintro e w1 ⟨rfl, hb1⟩
    have HS1 := hide (HS.out.keep hb1)
    clear hb1 c0 HS HH
    go_wp2_with fail
    go_end0
    exact ⟨rfl, _, HS1.out⟩
  | true =>
    simp only [if_true]
    have hlen : (xs ++ [n]).length = xs.length + 1 := by simp
    have hmap : (xs ++ [n]).map intV = xs.map intV ++ [.int .i64 n] := by simp [intV]
    rw [hlen, hmap]
    clear hlen hmap
    generalize xs.map intV = ys at *
    generalize xs.length = m at *
    go_enter Tryd.func40, Tryd.ntmps40
    go_wp2_with fail
    refine (HH.out _ HS.out).mono ?_
    rintro e w1 ⟨rfl, hb1⟩
    have hs1 := HS.out.keep hb1
    have c1 := (hs1.cell 0).1
    simp only [List.getElem?_cons_zero] at c1
    have ho1 := hide hs1.sw.own
    have HS1 := hide hs1
    clear hb1 c0 HS HH hs1
    go_wp2_with (at_builtin; refine wpList_append_lies _ rfl (.tmp 7) (.tmp 9) 23 rfl 0 3 i0 (.int .i64 0) 1 8 Tryd.underlying23 hi hz0 hz1 hz2 rfl (by decide) _ m ys rfl (ho1.out.alloc _) ⟨w1.heap.size, 0, none⟩ 1 1 [.int .i64 n] rfl rfl ?c1 ?c2 (by decide) ?b1 ?b2 (Nat.zero_le _) _ rfl ?next)
    case c1 => exact news1 _ _ _ _ (by simp)
    case c2 => intro u hu; simp at hu; subst hu; rfl
    case b1 => unfold maxLen; omega
    case b2 => omega
    case next =>
      intro g2 k2 w2 own2 hg2 hat2 hlt2
      have hs2 := ((HS1.out.alloc (.cells #[.int .i64 n] 3)).sw.lies own2 hg2 hat2 (by simp)).sw
      have c2 := (hs2.cell 0).1
      have f2 := (hs2.cell 0).2
      simp only [List.getElem?_cons_zero] at c2
      have hs3 := hs2.set 0 (.slice (some ⟨g2, 0, none⟩) (m + 1) k2)
      simp only [List.set_cons_zero] at hs3
      have HS3 := hide hs3
      clear own2 hg2 hat2 hlt2 hs2 hs3 HS1 ho1 c1
      go_wp2_with fail
      go_end0
      exact ⟨rfl, _, HS3.out⟩

set_option maxHeartbeats 1000000 in
set_option maxRecDepth 100000 in
theorem inOrder_ok (b : Nat) (l : Assoc) (first count : Nat) (W : World) (ha : AllFr l) (hf : first < 65536) (hc : count ≤ 100000) :
    Tri Tryd.prog 32 #[.map (some b), .int .i64 (first : Int), .int .i64 (count : Int)] [MapL Tryd.prog 3 b l] (fun e L => ∃ u, e = .returned u ∧ L = [RowF intV u (ordered l first count), MapL Tryd.prog 3 b l]) W := by
  intro M hM
  have hS := (((Sep.of_star hM).fresh 65 [.map (some b)]).fresh 23 [.slice none 0 0])
  have e1 : (W.alloc (.cells #[.map (some b)] 65)).heap.size = W.heap.size + 1 := by simp
  simp only [e1] at hS
  have hS2 := (hS.nil 3 1).sw
  have HI := hide (fun i W' (hi : i < count) (k : ∃ v, Sep M W (CellsF (W.heap.size + 1) 23 [v] :: OwnF 3 1 v (ordered l first i).length ((ordered l first i).map intV) :: CellsF W.heap.size 65 [.map (some b)] :: MapL Tryd.prog 3 b l :: []) W') =>
    k.elim fun v hv => order1_ok hv ha (((first + i) % 65536 : Nat) : Int) ⟨by omega, by omega⟩ (by have := ordered_length l first i; omega))
  simp only [← ordered_succ] at HI
  have HR := hide (fun W' k0 => round2_ok 40 W.heap.size (W.heap.size + 1) first count W' (fun i W' => ∃ v, Sep M W (CellsF (W.heap.size + 1) 23 [v] :: OwnF 3 1 v (ordered l first i).length ((ordered l first i).map intV) :: CellsF W.heap.size 65 [.map (some b)] :: MapL Tryd.prog 3 b l :: []) W') hf (by omega) enter_order (fun i W' hi k => HI.out i W' hi k) k0)
  have HS := hide hS2
  clear hS hS2 HI hM e1
  go_enter Tryd.func32, Tryd.ntmps32
  go_wp2_with fail
  refine (HR.out _ ⟨_, HS.out⟩).mono ?_
  rintro e w1 ⟨rfl, v, hs1⟩
  have c1 := (hs1.cell 0).1
  simp only [List.getElem?_cons_zero] at c1
  have hs2 : Sep M W (RowF intV v (ordered l first count) :: MapL Tryd.prog 3 b l :: []) w1 := Sep.turn (L1 := [_]) (Sep.sw hs1.drop).drop.sw.sw fun N hN => ⟨N, Star.one (RowF.fine _ _ _) (RowF.of_own hN), Step.refl _ _⟩
  obtain ⟨a2, c2, rfl, -⟩ := hs2.rowForm
  have HS2 := hide hs2
  clear hs1 hs2 HS HR
  go_wp2_with fail
  go_ret
  exact ⟨_, ⟨_, rfl, rfl⟩, HS2.out⟩
end Go.Proofs.YtaambclpkghddaaDoor
