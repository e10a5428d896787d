/-
  Contract of package flow's Play.
-/
import Derived.Test.YtffcdampeehgcaaFlowPlay
import Derived.Laws.AppendOwnNone
namespace Go.Proofs.Ytffcdampeehgcaa
open Go.RowKit
open Go.Flow (Fw fwNew Within new_within well_within bad_within run play run_within)

set_option maxHeartbeats 1000000 in
set_option maxRecDepth 100000 in
theorem play_ok (u : Value) (l : List Bool) (W : World) (hu : Row1 boolV W u l) (hl : l.length ≤ 1000) :
    Calls Try.prog 15 #[u] W fun e w' => ∃ v, e = .returned v ∧ Row1 intV w' v ((play fwNew l).map Int.ofNat) ∧ Below W.heap.size W w' := by
  obtain ⟨i0, hi, hz0, hz1, hz2⟩ := info_parts Try.infoI
  have hu' := hu
  obtain ⟨ua, uc, rfl, -⟩ := hu'
  have HT := hide (fun W' (k : Below W.heap.size W W') => hu.below k)
  have H1 := hide (fun W => newFlow_ok W)
  have HG := hide (fun p f W k => good_ok p f W k)
  have HB := hide (fun p f W k => fbad_ok p f W k)
  have HS := hide (Sep.start W)
  have hl' : (l.length : Int) ≤ 1000 := by omega
  have Hl := hide hl
  clear hu hl
  go_enter Try.func15, Try.ntmps15
  go_wp2_with fail
  refine (Sep.call (L0 := []) HS.out (H1.out _)).mono ?_
  rintro e w2 ⟨_, ⟨p, rfl, rfl⟩, hs2⟩
  have hs2' := Sep.nil hs2 3 1
  simp only [List.cons_append, List.nil_append] at hs2'
  have HS2 := hide hs2'
  clear hs2 hs2' HS H1
  go_wp2_with fail
  go_loopw [4, 10] (fun t4 t10 wr => ∃ (i : Nat) (l1 l2 : List Bool), t10 = .int .i64 i ∧ Hid (l = l1 ++ l2) ∧ Hid (l1.length = i) ∧ Hid (∃ a c, t4 = .slice a i c) ∧ Hid (Sep Foot.none W [OwnF 3 1 t4 i (((play fwNew l1).map Int.ofNat).map intV), FlF p (run fwNew l1)] wr)) (fun _ t10 _ => l.length - (intOf t10).toNat)
  case atStart => exact ⟨0, [], l, rfl, rfl, rfl, ⟨_, _, rfl⟩, HS2.out⟩
  case round =>
    clear HS2
    obtain ⟨i, l1, l2, rfl, Hll, Hi, Hsh, Hs⟩ := hrel
    obtain ⟨a3, k3, rfl⟩ := Hsh.out
    clear Hsh
    cases l2 with
    | cons b l3 =>
      have hlen := congrArg List.length Hll.out
      rw [List.length_append, List.length_cons, Hi.out] at hlen
      have hlt' : (i : Int) < l.length := by omega
      have hi31 : i < 1000 := by have := Hl.out; omega
      have hat : l[i]? = some b := by rw [Hll.out, List.getElem?_append_right (by rw [Hi.out]; exact Nat.le_refl _), Hi.out]; simp
      have HTc : Hid (∃ tb o, ua = some ⟨tb, o, none⟩ ∧ ∀ W', Below W.heap.size W W' → W'.cell? ⟨tb, o + i, none⟩ = some (.bool b)) := by
        obtain ⟨_, _, e, hrow⟩ := HT.out W (Below.refl _ _)
        cases e
        obtain ⟨tb, o, rfl, hc⟩ := hrow (by omega)
        have hil : i < l.length := by omega
        have hb : l[i] = b := by rw [List.getElem?_eq_getElem hil] at hat; exact Option.some.inj hat
        exact ⟨tb, o, rfl, fun W' k => (k.cell (World.block_lt_of_cell? _ _ (hc i hil))).trans ((hc i hil).trans (by rw [hb]; rfl))⟩
      obtain ⟨tb, o, rfl, htc⟩ := HTc.out
      have HTd := hide htc
      have c0 := htc _ Hs.out.below
      have Hw := hide (run_within new_within l1)
      have Hnx : Hid (∀ x c, ∀ wq, Sep Foot.none W [OwnF 3 1 (.slice (some ⟨x, 0, none⟩) (i + 1) c) (i + 1) ((((play fwNew l1).map Int.ofNat).map intV) ++ [.int .i64 (((run fwNew l1).next b).window : Int)]), FlF p ((run fwNew l1).next b)] wq → Sep Foot.none W [OwnF 3 1 (.slice (some ⟨x, 0, none⟩) (i + 1) c) (i + 1) (((play fwNew (l1 ++ [b])).map Int.ofNat).map intV), FlF p (run fwNew (l1 ++ [b]))] wq) := by
        intro x c wq k
        rw [Go.Flow.play_snoc, Go.Flow.run_snoc]
        simpa [intV] using k
      have Hll2 := hide (show l = (l1 ++ [b]) ++ l3 by rw [Hll.out, List.append_assoc]; rfl)
      have Hi2 := hide (show (l1 ++ [b]).length = i + 1 by rw [List.length_append, Hi.out]; rfl)
      have Hlen := hide hlen
      clear HTc htc HT Hll Hi hat hlen Hl
      generalize ((play fwNew l1).map Int.ofNat).map intV = xs at *
      generalize run fwNew l1 = f at *
      cases b with
      | true =>
        have HC := hide (Sep.call (L0 := [_]) Hs.out.sw (HG.out _ _ _ Hw.out))
        go_wp2_with fail
        refine HC.out.mono ?_
        rintro e w5 ⟨_, ⟨rfl, rfl⟩, hs5⟩
        simp only [List.cons_append, List.nil_append] at hs5
        have HW := hide (flWindow_ok hs5)
        have HS5 := hide hs5.sw
        have Ho5 := hide hs5.sw.own
        clear hs5 HC Hs HG HB Hw
        go_wp2_with fail
        refine HW.out.mono ?_
        rintro e w6 ⟨rfl, hq⟩
        have hq := hq.symm
        subst hq
        clear HW
        go_wp2_with (at_builtin; refine wpList_append_lies _ rfl (.tmp 19) (.tmp 22) 31 rfl 0 3 i0 (.int .i64 0) 1 8 Try.underlying31 hi hz0 hz1 hz2 rfl (by decide) _ i xs rfl (Ho5.out.alloc _) ⟨w5.heap.size, 0, none⟩ 1 1 [.int .i64 (f.well.window : Int)] rfl rfl ?c1 ?c2 (by decide) ?b1 ?b2 (Nat.zero_le _) _ rfl ?next)
        case c1 => exact news1 _ _ _ _ (by simp)
        case c2 => intro u hu; simp at hu; subst hu; rfl
        case b1 => unfold maxLen; omega
        case b2 => omega
        case next =>
          intro g1 k1 w7 own7 hg7 hat7 hlt7
          have hs7 := (HS5.out.alloc (.cells #[.int .i64 (f.well.window : Int)] 3)).lies own7 hg7 hat7 (by simp)
          have HS7 := hide (Hnx.out _ _ _ hs7)
          clear own7 hg7 hat7 hlt7 hs7 HS5 Ho5 Hnx
          go_wp2_with fail
          go_roundw
          case rel => exact ⟨i + 1, _, l3, by go_num, Hll2.out, Hi2.out, ⟨_, _, rfl⟩, HS7.out⟩
          case measure => simp [intOf]; omega
      | false =>
        have HC := hide (Sep.call (L0 := [_]) Hs.out.sw (HB.out _ _ _ Hw.out))
        go_wp2_with fail
        refine HC.out.mono ?_
        rintro e w5 ⟨_, ⟨rfl, rfl⟩, hs5⟩
        simp only [List.cons_append, List.nil_append] at hs5
        have HW := hide (flWindow_ok hs5)
        have HS5 := hide hs5.sw
        have Ho5 := hide hs5.sw.own
        clear hs5 HC Hs HG HB Hw
        go_wp2_with fail
        refine HW.out.mono ?_
        rintro e w6 ⟨rfl, hq⟩
        have hq := hq.symm
        subst hq
        clear HW
        go_wp2_with (at_builtin; refine wpList_append_lies _ rfl (.tmp 19) (.tmp 22) 31 rfl 0 3 i0 (.int .i64 0) 1 8 Try.underlying31 hi hz0 hz1 hz2 rfl (by decide) _ i xs rfl (Ho5.out.alloc _) ⟨w5.heap.size, 0, none⟩ 1 1 [.int .i64 (f.bad.window : Int)] rfl rfl ?c1 ?c2 (by decide) ?b1 ?b2 (Nat.zero_le _) _ rfl ?next)
        case c1 => exact news1 _ _ _ _ (by simp)
        case c2 => intro u hu; simp at hu; subst hu; rfl
        case b1 => unfold maxLen; omega
        case b2 => omega
        case next =>
          intro g1 k1 w7 own7 hg7 hat7 hlt7
          have hs7 := (HS5.out.alloc (.cells #[.int .i64 (f.bad.window : Int)] 3)).lies own7 hg7 hat7 (by simp)
          have HS7 := hide (Hnx.out _ _ _ hs7)
          clear own7 hg7 hat7 hlt7 hs7 HS5 Ho5 Hnx
          go_wp2_with fail
          go_roundw
          case rel => exact ⟨i + 1, _, l3, by go_num, Hll2.out, Hi2.out, ⟨_, _, rfl⟩, HS7.out⟩
          case measure => simp [intOf]; omega
    | nil =>
      have e1 : l = l1 := by rw [Hll.out, List.append_nil]
      subst e1
      have e2 := Hi.out
      subst e2
      have hle : (l.length : Int) ≤ (l.length : Int) := Int.le_refl _
      have hrow := Hs.out.own
      have Hrow := hide (Row1.of_own hrow)
      have Hb := hide Hs.out.below
      clear Hs hrow hle HG HB
      go_wp2_with fail
      go_ret
      exact ⟨_, rfl, Hrow.out, Hb.out⟩
end Go.Proofs.Ytffcdampeehgcaa
