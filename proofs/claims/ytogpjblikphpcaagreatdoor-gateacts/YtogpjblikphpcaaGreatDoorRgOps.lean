/-
  Contracts of the document's Gate.Open, Admit, Set over this dump.
-/
import Derived.Test.YtogpjblikphpcaaGreatDoorRgSet
namespace Go.Proofs.YtogpjblikphpcaaGreatDoor
open Go.RowKit
open Go.Gate

set_option maxHeartbeats 1000000 in
set_option maxRecDepth 100000 in
theorem radmit_ok (p : Nat) (l : Toks) (t : ByteArray) (n : Int) (W : World) (hf : Fit l) :
    Tri Tryz.prog 15 #[.pointer (some ⟨p, 0, none⟩), .string t, .int .i64 n] [RGt p l] (fun r L => r = .returned (.int .i64 (admE l t n : Nat)) ∧ L = [RGt p l]) W := by
  refine Tri.of_below (ψ := fun r => r = .returned (.int .i64 (admE l t n : Nat))) fun M hM => ?_
  have HL := hide (rlast_ok (Sep.of_star hM) t (by have := hf.len; omega))
  have ha := adm_last hf t n
  clear hM
  rw [ha]
  clear ha hf
  generalize lastT l t = x at *
  by_cases h0 : x = 0
  · subst h0
    rw [if_pos rfl]
    go_enter Tryz.func15, Tryz.ntmps15
    go_wp2_with fail
    refine HL.out.mono ?_
    rintro r w1 ⟨rfl, rfl⟩
    clear HL
    go_wp2_with fail
    go_ret
    exact ⟨rfl, Below.refl _ _⟩
  · by_cases hx : x = n
    · subst hx
      rw [if_neg h0, if_neg (by simp)]
      go_enter Tryz.func15, Tryz.ntmps15
      go_wp2_with fail
      refine HL.out.mono ?_
      rintro r w1 ⟨rfl, rfl⟩
      clear HL
      go_wp2_with fail
      go_ret
      exact ⟨rfl, Below.refl _ _⟩
    · rw [if_neg h0, if_pos hx]
      go_enter Tryz.func15, Tryz.ntmps15
      go_wp2_with fail
      refine HL.out.mono ?_
      rintro r w1 ⟨rfl, rfl⟩
      clear HL
      go_wp2_with fail
      go_ret
      exact ⟨rfl, Below.refl _ _⟩

theorem mayT_le (l : Toks) (t : ByteArray) : mayT l t ≤ 8 := by
  unfold mayT
  split
  · omega
  · split <;> omega
set_option maxHeartbeats 1000000 in
set_option maxRecDepth 100000 in
theorem rSet_ok (p : Nat) (l : Toks) (t : ByteArray) (n : Int) (W : World) (hf : Fit l) (ht : t.size ≤ 1000000) :
    Tri Tryz.prog 17 #[.pointer (some ⟨p, 0, none⟩), .string t, .int .i64 n] [RGt p l] (fun r L => r = .returned (.int .i64 (setE l t n : Nat)) ∧ L = [RGt p (setT l t n)]) W := by
  intro M hM
  have hlen := hf.len
  have HM := hide (rmay_ok (Sep.of_star hM) t (by omega) ht)
  have HL := hide (rlast_ok (Sep.of_star hM) t (by omega))
  have HS := hide (Sep.of_star hM)
  have HT := hide (fun k W => rset_ok p l t k W (by omega))
  have hm8 := mayT_le l t
  by_cases hm : mayT l t = 0
  · by_cases he : isEp n = true
    · have h1 : setE l t n = 0 := setE_zero.2 ⟨hm, he⟩
      have h2 : setT l t n = insT t (max (lastT l t) n) l := by unfold setT; rw [if_pos h1]
      rw [h1, h2]
      rw [hm] at HM
      rw [isEp_iff] at he
      obtain ⟨e1, e2⟩ := he
      have HT' := hide (HT.out (max (lastT l t) n))
      clear h1 h2 hm hm8 hf HT hM
      generalize lastT l t = x at *
      by_cases hx : x < n
      · rw [show max x n = n by omega] at HT' ⊢
        go_enter Tryz.func17, Tryz.ntmps17
        go_wp2_with fail
        refine HM.out.mono ?_
        rintro r w1 ⟨rfl, rfl⟩
        clear HM
        go_wp2_with fail
        refine HL.out.mono ?_
        rintro r w1 ⟨rfl, rfl⟩
        clear HL
        go_wp2_with fail
        refine (Sep.call (L0 := [_]) HS.out (HT'.out _)).mono ?_
        rintro r w2 ⟨_, ⟨rfl, rfl⟩, hs2⟩
        have HS2 := hide hs2
        clear hs2 HS HT'
        go_wp2_with fail
        go_ret
        exact ⟨_, ⟨rfl, rfl⟩, HS2.out⟩
      · have hx' : n ≤ x := by omega
        rw [show max x n = x by omega] at HT' ⊢
        go_enter Tryz.func17, Tryz.ntmps17
        go_wp2_with fail
        refine HM.out.mono ?_
        rintro r w1 ⟨rfl, rfl⟩
        clear HM
        go_wp2_with fail
        refine HL.out.mono ?_
        rintro r w1 ⟨rfl, rfl⟩
        clear HL
        go_wp2_with fail
        refine (Sep.call (L0 := [_]) HS.out (HT'.out _)).mono ?_
        rintro r w2 ⟨_, ⟨rfl, rfl⟩, hs2⟩
        have HS2 := hide hs2
        clear hs2 HS HT'
        go_wp2_with fail
        go_ret
        exact ⟨_, ⟨rfl, rfl⟩, HS2.out⟩
    · have h1 : setE l t n = 2 := by unfold setE; rw [if_pos hm, if_neg he]
      have h2 : setT l t n = l := by unfold setT; rw [if_neg (by omega)]
      rw [h1, h2]
      rw [hm] at HM
      have he' : n < 1 ∨ 1 ≤ n ∧ 2147483648 < n := by
        rw [isEp_iff] at he
        omega
      clear h1 h2 hm hm8 hf HT hM HL he
      rcases he' with e1 | ⟨e1, e2⟩
      all_goals
        go_enter Tryz.func17, Tryz.ntmps17
        go_wp2_with fail
        refine HM.out.mono ?_
        rintro r w1 ⟨rfl, rfl⟩
        clear HM
        go_wp2_with fail
        go_ret
        exact ⟨_, ⟨rfl, rfl⟩, HS.out⟩
  · have h1 : setE l t n = mayT l t := by unfold setE; rw [if_neg hm]
    have h2 : setT l t n = l := by unfold setT; rw [if_neg (by omega)]
    rw [h1, h2]
    clear h1 h2 hf HT hM HL
    generalize mayT l t = m at *
    have hm0 : (0 : Int) < m := by omega
    have hm9 : (m : Int) ≤ 8 := by omega
    go_enter Tryz.func17, Tryz.ntmps17
    go_wp2_with fail
    refine HM.out.mono ?_
    rintro r w1 ⟨rfl, rfl⟩
    clear HM
    go_wp2_with fail
    go_ret
    exact ⟨_, ⟨rfl, rfl⟩, HS.out⟩

set_option maxHeartbeats 1000000 in
set_option maxRecDepth 100000 in
theorem ropen_ok (p : Nat) (l : Toks) (t : ByteArray) (W : World) (hf : Fit l) (ht : t.size ≤ 1000000) :
    Tri Tryz.prog 14 #[.pointer (some ⟨p, 0, none⟩), .string t] [RGt p l] (fun r L => r = .returned (.tuple #[.int .i64 (openN l t), .int .i64 (openE l t : Nat)]) ∧ L = [RGt p (openT l t)]) W := by
  intro M hM
  have hlen := hf.len
  obtain ⟨hb0, hb1⟩ := last_bound hf t
  have HM := hide (rmay_ok (Sep.of_star hM) t (by omega) ht)
  have HL := hide (rlast_ok (Sep.of_star hM) t (by omega))
  have HS := hide (Sep.of_star hM)
  have HT := hide (fun k W => rset_ok p l t k W (by omega))
  have hm8 := mayT_le l t
  unfold openN openT openE
  by_cases hm : mayT l t = 0
  · by_cases he : lastT l t < 2147483648
    · have hep : isEp (lastT l t + 1) = true := isEp_iff.2 (by omega)
      have h1 : setE l t (lastT l t + 1) = 0 := setE_zero.2 ⟨hm, hep⟩
      have h2 : setT l t (lastT l t + 1) = insT t (lastT l t + 1) l := by unfold setT; rw [if_pos h1, show max (lastT l t) (lastT l t + 1) = lastT l t + 1 by omega]
      rw [h1, h2, if_pos rfl]
      rw [hm] at HM
      have HT' := hide (HT.out (lastT l t + 1))
      clear h1 h2 hm hm8 hf HT hM hep
      generalize lastT l t = x at *
      have hwr : IntKind.i64.wrap (x + 1) = x + 1 := iwrap_id _ (by omega) (by omega)
      go_enter Tryz.func14, Tryz.ntmps14
      go_wp2_with fail
      refine HM.out.mono ?_
      rintro r w1 ⟨rfl, rfl⟩
      clear HM
      go_wp2_with fail
      refine HL.out.mono ?_
      rintro r w1 ⟨rfl, rfl⟩
      clear HL
      go_wp2_with fail
      refine (Sep.call (L0 := [_]) HS.out (HT'.out _)).mono ?_
      rintro r w2 ⟨_, ⟨rfl, rfl⟩, hs2⟩
      have HS2 := hide hs2
      clear hs2 HS HT'
      go_wp2_with fail
      go_ret2
      exact ⟨_, ⟨rfl, rfl⟩, HS2.out⟩
    · have hep : isEp (lastT l t + 1) = false := by
        cases h : isEp (lastT l t + 1) with
        | false => rfl
        | true => rw [isEp_iff] at h; omega
      have h1 : setE l t (lastT l t + 1) = 2 := by unfold setE; rw [if_pos hm, hep]; rfl
      have h2 : setT l t (lastT l t + 1) = l := by unfold setT; rw [if_neg (by omega)]
      rw [h1, h2, if_neg (by omega)]
      rw [hm] at HM
      clear h1 h2 hm hm8 hf HT hM hep
      have he' : 2147483648 ≤ lastT l t := by omega
      generalize lastT l t = x at *
      go_enter Tryz.func14, Tryz.ntmps14
      go_wp2_with fail
      refine HM.out.mono ?_
      rintro r w1 ⟨rfl, rfl⟩
      clear HM
      go_wp2_with fail
      refine HL.out.mono ?_
      rintro r w1 ⟨rfl, rfl⟩
      clear HL
      go_wp2_with fail
      go_ret2
      exact ⟨_, ⟨rfl, rfl⟩, HS.out⟩
  · have h1 : setE l t (lastT l t + 1) = mayT l t := by unfold setE; rw [if_neg hm]
    have h2 : setT l t (lastT l t + 1) = l := by unfold setT; rw [if_neg (by omega)]
    rw [h1, h2, if_neg hm]
    clear h1 h2 hf HT hM HL
    generalize mayT l t = m at *
    have hm0 : (0 : Int) < m := by omega
    have hm9 : (m : Int) ≤ 8 := by omega
    go_enter Tryz.func14, Tryz.ntmps14
    go_wp2_with fail
    refine HM.out.mono ?_
    rintro r w1 ⟨rfl, rfl⟩
    clear HM
    go_wp2_with fail
    go_ret2
    exact ⟨_, ⟨rfl, rfl⟩, HS.out⟩
end Go.Proofs.YtogpjblikphpcaaGreatDoor
