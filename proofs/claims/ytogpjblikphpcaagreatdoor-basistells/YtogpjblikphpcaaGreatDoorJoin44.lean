/-
  Contracts of package basis's marks, Marks.
  Package basis meets what the laws ask of it.
-/
import Derived.Test.YtogpjblikphpcaaGreatDoorBkRise
import Derived.Test.YtogpjblikphpcaaGreatDoorBkFront
import Derived.Test.YtogpjblikphpcaaGreatDoorBkCheck
import Derived.OwnWalk
import Derived.BigQuiet
import Derived.Test.YtogpjblikphpcaaGreatDoorBkText
import Derived.Test.YtogpjblikphpcaaGreatDoorBkFar
namespace Go.Proofs.YtogpjblikphpcaaGreatDoor
open Go.RowKit
open Go.Basis

theorem Sep.made {M0 : Foot} {w0 w w' : World} {e : TypeId} {size n : Nat} {v : Value} {xs : List Value} {L : List Fam} (h : Sep M0 w0 L w) (hb : Below w.heap.size w w') (ho : w'.ownsRow w.heap.size e size v n xs) : Sep M0 w0 (OwnF e size v n xs :: L) w' :=
  Sep.more (L1 := [_]) h hb (M' := fun k => v.ownBlock = some k) (Star.one (OwnF.fine _ _ _ _ _) ⟨own_mono ho (Nat.zero_le _), fun _ => Iff.rfl⟩) (fun k hk => (World.ownsRow.lt ho k hk).1)

set_option maxHeartbeats 4000000 in
set_option maxRecDepth 100000 in
theorem marks_ok (nm data : ByteArray) (step : Nat) (w : World) (hd : data.size ≤ 4001) (h1 : 1 ≤ step) (h2 : step ≤ 4000) :
    Calls Tryz.prog 54 #[.string nm, .string data, .int .i64 step] w fun r w' => ∃ u, r = .returned u ∧ MkRow w' u (marksL nm data step) ∧ Below w.heap.size w w' := by
  obtain ⟨i0, hi0, hz0, hz1, hz2⟩ := info_parts Tryz.infoMk'
  have HUp := hide (fun p i j W (h1 : i ≤ j) (h2 : j ≤ data.size) => upTo_ok p data i j W h1 h2 (by omega))
  have hs0 := (Sep.start w).fresh 113 [.string data, .int .i64 0, .int .u32 0]
  have HS0 : Hid (Sep Foot.none w [Fr3 w.heap.size data 0] (w.alloc (.cells #[.string data, .int .i64 0, .int .u32 0] 113))) := by
    unfold Fr3
    rw [sumTo_zero]
    exact hs0
  have hd' : (data.size : Int) ≤ 4001 := by omega
  have h1' : (1 : Int) ≤ step := by omega
  have h2' : (step : Int) ≤ 4000 := by omega
  have hst0 : ¬ (step : Int) = 0 := by omega
  have hquo : Int.tdiv (data.size : Int) (step : Int) = ((data.size / step : Nat) : Int) := by rw [Int.tdiv_eq_ediv_of_nonneg (by omega)]; omega
  have hdq : data.size / step ≤ 4001 := Nat.le_trans (Nat.div_le_self _ _) hd
  have HGo : Hid (∀ k, step * (k + 1) ≤ data.size ↔ k < data.size / step) := fun k => marks_go h1
  have HAll : Hid (marksP nm data step (data.size / step) = marksL nm data step) := rfl
  have HSucc : Hid (∀ k, marksP nm data step (k + 1) = marksP nm data step k ++ [⟨nm, ((step * (k + 1) : Nat) : Int), sumTo data (step * (k + 1))⟩]) := fun k => marksP_succ nm data step k
  have HLen : Hid (∀ k, (marksP nm data step k).length = k) := fun k => marksP_length nm data step k
  generalize data.size / step = dq at *
  clear hs0
  go_enter Tryz.func54, Tryz.ntmps54
  go_wp2_with (first | (at_make; refine wpList_make_own _ rfl _ _ 55 rfl (w.alloc (.cells #[.string data, .int .i64 0, .int .u32 0] 113)).heap.size 60 i0 (.agg #[.string ⟨#[]⟩, .int .i64 0, .int .u32 0]) 3 Tryz.underlying55 hi0 hz0 hz1 .i64 .i64 _ dq rfl rfl ?m1 ?m2 ?m3 ?m4 ?next))
  case m1 => first | exact hquo | (rw [← hquo]; rfl) | simp
  case m2 => rw [hz2]; omega
  case m3 => unfold maxLen; omega
  case m4 => exact Nat.le_refl _
  case next =>
    intro w3 hown3 hgrow3
    have hb3 : Below (w.alloc (.cells #[.string data, .int .i64 0, .int .u32 0] 113)).heap.size (w.alloc (.cells #[.string data, .int .i64 0, .int .u32 0] 113)) w3 := (Below.refl _ _).grown hgrow3 (Nat.le_refl _) (fun k hk => by cases hk)
    have HS3 := hide (HS0.out.made hb3 (own_mono (b' := (w.alloc (.cells #[.string data, .int .i64 0, .int .u32 0] 113)).heap.size) hown3 (by simp)))
    clear hown3 hgrow3 hb3 hquo HS0
    go_wp2_with fail
    go_loopw [8, 9] (fun t8 t9 wr => ∃ i f n : Nat, t9 = .int .i64 n ∧ n = step * (i + 1) ∧ f = step * i ∧ i ≤ dq ∧ Hid (Sep Foot.none w [OwnF 60 3 t8 i (kcs' (marksP nm data step i)), Fr3 w.heap.size data f] wr)) (fun _ t9 _ => data.size + step - (intOf t9).toNat)
    case atStart => exact ⟨0, 0, step, rfl, by omega, by omega, Nat.zero_le _, HS3.out⟩
    case round =>
      clear HS3
      obtain ⟨i, f, n, rfl, hn, hf, hiq, Hs⟩ := hrel
      have hgo := HGo.out i
      rw [← hn] at hgo
      have Hn := hide hn
      have Hf := hide hf
      have hfn : f ≤ n ∧ n ≤ f + step := by rw [hn, hf, Nat.mul_succ]; exact ⟨Nat.le_add_right _ _, Nat.le_refl _⟩
      have hf1 := hfn.1
      clear hn hf hfn
      by_cases hlt : n ≤ data.size
      · have hlt' : (n : Int) ≤ data.size := by omega
        have hil : i < dq := hgo.1 hlt
        have hwr : IntKind.i64.wrap ((n : Int) + step) = ((n + step : Nat) : Int) := by rw [iwrap_id _ (by omega) (by omega)]; omega
        have hS : Sep Foot.none w ([Fr3 w.heap.size data f] ++ [OwnF 60 3 u8 i (kcs' (marksP nm data step i))]) wr := Hs.out.sw
        have HSc := hide (hS.call (HUp.out w.heap.size f n wr (by omega) hlt))
        have hSu := HSucc.out i
        rw [← Hn.out] at hSu
        have hcs1 : kcs' (marksP nm data step (i + 1)) = kcs' (marksP nm data step i) ++ [.string nm, .int .i64 n, .int .u32 (sumTo data n)] := by rw [hSu]; exact cs3_snoc _ _
        have Hcs1 := hide hcs1
        have hxl3 : (kcs' (marksP nm data step i)).length = i * 3 := by rw [cs3_length, HLen.out]
        clear hcs1 hSu hS Hs hgo
        generalize kcs' (marksP nm data step i) = xs at *
        generalize sumTo data n = cn at *
        go_wp2_with fail
        refine HSc.out.mono ?_
        rintro r w5 ⟨_, ⟨rfl, rfl⟩, hs5⟩
        have HSa := hide hs5.sw
        have Ho := hide hs5.sw.own
        clear hs5 HSc
        go_wp2_with (at_builtin; refine wpList_append_lies _ rfl (.tmp 25) (.tmp 31) 55 rfl 0 60 i0 (.agg #[.string ⟨#[]⟩, .int .i64 0, .int .u32 0]) 3 32 Tryz.underlying55 hi0 hz0 hz1 hz2 rfl (by decide) u8 i xs rfl (Ho.out.alloc _) ⟨w5.heap.size, 0, none⟩ 1 1 [.string nm, .int .i64 n, .int .u32 cn] rfl rfl ?c1 ?c2 (by decide) ?b1 ?b2 (Nat.zero_le _) _ rfl ?next2)
        try case c1 => exact newsM _ _ _ _ _ _ rfl
        case c2 => first | rfl | (intro u hu; simp at hu; rcases hu with rfl | rfl | rfl <;> rfl)
        case b1 => unfold maxLen; omega
        case b2 => omega
        case next2 =>
          intro g5 k5 w6 own5 hg5 hat5 hlt5
          have hs5 := (HSa.out.alloc (.cells #[.string nm, .int .i64 n, .int .u32 cn] 60)).lies own5 hg5 hat5 (by simp)
          have Hs5 := hide hs5
          clear own5 hg5 hat5 hlt5 Ho hs5 HSa
          go_wp2_with fail
          go_roundw
          case rel => exact ⟨i + 1, n, n + step, by first | exact congrArg _ hwr | go_num, by rw [Hn.out, Nat.mul_succ step (i + 1)], by rw [Hn.out], by omega, by rw [Hcs1.out]; exact Hs5.out⟩
          case measure => simp [intOf]; omega
      · have hlt' : (data.size : Int) < n := by omega
        have hid : ¬ i < dq := fun h => hlt (hgo.2 h)
        obtain rfl : i = dq := by omega
        rw [HAll.out] at Hs
        have hown := Hs.out.own
        have HR : Hid (MkRow wr u8 (marksL nm data step)) := Row3.of_own hown
        have Hb := hide Hs.out.below
        clear Hs HUp HSucc HLen HAll hown
        go_wp2_with fail
        go_ret
        exact ⟨_, rfl, HR.out, Hb.out⟩

set_option maxHeartbeats 2000000 in
set_option maxRecDepth 100000 in
theorem marksX_ok {a : Nat → Addr} (nm data : ByteArray) (step : Int) (W : World) (hE : BkErrs W a) (hn : nm.size ≤ 100) (hd : data.size ≤ 4001) :
    Calls Tryz.prog 28 #[.string nm, .string data, .int .i64 step] W fun r w' =>
      ∃ v, r = .returned (.tuple #[v, errA a (marksE nm data.size step)]) ∧ MkRow w' v (if marksE nm data.size step = 0 then marksL nm data step.toNat else []) ∧ Below W.heap.size W w' := by
  have HC := hide (bkCheck_ok nm data.size W hE (by omega))
  have g1 := hE.c1
  have hd' : (data.size : Int) ≤ 4001 := by omega
  have hME : marksE nm data.size step = if chkE nm data.size = 0 then (if step < 1 ∨ 4000 < step then 2 else 0) else chkE nm data.size := by
    unfold marksE chkE
    by_cases h1 : Go.Files.isNm nm = false
    · rw [if_pos h1, if_pos h1, if_neg (by decide)]
    · rw [if_neg h1, if_neg h1]
      by_cases h2 : 4000 < data.size
      · rw [if_pos (.inl h2), if_pos (show (data.size : Int) < 0 ∨ (4000 : Int) < data.size by omega), if_neg (by decide)]
      · rw [if_neg (show ¬ ((data.size : Int) < 0 ∨ (4000 : Int) < data.size) by omega), if_pos rfl]
        by_cases h3 : step < 1 ∨ 4000 < step
        · rw [if_pos h3, if_pos (by omega)]
        · rw [if_neg h3, if_neg (by omega)]
  rw [hME]
  cases hk : chkE nm data.size with
  | succ k =>
    rw [if_neg (by omega), if_neg (by omega)]
    rw [hk] at HC
    simp only [errA] at HC ⊢
    clear hME hk hE
    go_enter Tryz.func28, Tryz.ntmps28
    go_wp2_with fail
    refine HC.out.mono ?_
    rintro r w1 ⟨rfl, rfl⟩
    go_wp2_with fail
    go_ret2
    exact ⟨_, rfl, Row3.nil _, Below.refl _ _⟩
  | zero =>
    rw [if_pos rfl]
    rw [hk] at HC
    simp only [errA] at HC
    clear hME hk hE
    by_cases h3 : step < 1 ∨ 4000 < step
    · rw [if_pos h3, if_neg (by decide)]
      simp only [errA]
      have hcs : step < 1 ∨ (1 ≤ step ∧ 4000 < step) := by omega
      clear h3
      rcases hcs with h3 | ⟨h3, h4⟩
      all_goals
        go_enter Tryz.func28, Tryz.ntmps28
        go_wp2_with fail
        refine HC.out.mono ?_
        rintro r w1 ⟨rfl, rfl⟩
        go_wp2_with fail
        go_quiet (fail)
        go_wp2_with fail
        go_ret2
        exact ⟨_, rfl, Row3.nil _, below_drewN (Below.refl _ _) _⟩
    · rw [if_neg h3, if_pos rfl]
      obtain ⟨st, rfl⟩ := Int.eq_ofNat_of_zero_le (show 0 ≤ step by omega)
      rw [Int.toNat_natCast]
      have HM := hide (marks_ok nm data st W hd (by omega) (by omega))
      have h4 : (1 : Int) ≤ st := by omega
      have h5 : (st : Int) ≤ 4000 := by omega
      simp only [errA]
      clear h3
      go_enter Tryz.func28, Tryz.ntmps28
      go_wp2_with fail
      refine HC.out.mono ?_
      rintro r w1 ⟨rfl, rfl⟩
      go_wp2_with fail
      refine HM.out.mono ?_
      rintro r w2 ⟨u, rfl, hrow, hb⟩
      have HR := hide hrow
      have Hb := hide hb
      obtain ⟨ua, uc, rfl, _⟩ := hrow
      clear hb HM
      go_wp2_with fail
      go_ret2
      exact ⟨_, rfl, HR.out, Hb.out⟩
end Go.Proofs.YtogpjblikphpcaaGreatDoor

namespace Go.Proofs.YtogpjblikphpcaaGreatDoor
open Go.RowKit
open Go.Basis

theorem basisAll {a : Nat → Addr} {e : TypeId × Value} {W0 : World} (hE : BkEnv a e W0) : BasisAll a (fun w => Below W0.heap.size W0 w) where
  env := fun h k => bthen h k
  text := fun m W hs h0 h1 hW => text_ok' m W (hE.below hW) hs h0 h1
  read := fun s W hs hW => read_ok' s W (hE.below hW) hs
  far := fun v l nm data W hl hn hd hv _ => far_ok v l nm data W hv hl (by omega) (by omega)
  marks := fun nm data step W hn hd hW => marksX_ok nm data step W (hE.below hW).err hn hd
end Go.Proofs.YtogpjblikphpcaaGreatDoor
