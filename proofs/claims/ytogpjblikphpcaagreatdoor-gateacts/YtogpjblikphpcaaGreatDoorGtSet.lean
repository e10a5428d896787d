/-
  Contracts of package gate's Set, Open, Admit.
-/
import Derived.Test.YtogpjblikphpcaaGreatDoorGtDef
import Derived.Test.YtogpjblikphpcaaGreatDoorErrA
import Derived.Test.YtogpjblikphpcaaGreatDoorFName
import Derived.Deep.RegionHeld3
import Derived.Deep.RegionLaw
namespace Go.Proofs.YtogpjblikphpcaaGreatDoor
open Go.RowKit
open Go.Gate
open Go.Files (isNm)

theorem max_if (x n : Int) : (if x < n then n else x) = max x n := by split <;> omega

theorem mayT_room {l : Toks} {t : ByteArray} (hn : isNm t = true) : (mayT l t = 0 ↔ ((getT l t).isSome || decide (l.length < 20)) = true) ∧ (mayT l t = 0 ∨ mayT l t = 8) := by
  unfold mayT
  rw [hn]
  simp only [Bool.true_eq_false, if_false]
  cases getT l t with
  | none => by_cases h : 20 ≤ l.length <;> simp [h] <;> omega
  | some m => simp

set_option maxHeartbeats 1000000 in
set_option maxRecDepth 100000 in
theorem setG_ok (a : Nat → Addr) (v : Value) (l : Toks) (t : ByteArray) (n : Int) (W : World) (hl : Fit l) (ht : t.size ≤ 1000000) (hE : Sents W a) :
    Tri Tryz.prog 16 #[v, .string t, .int .i64 n] [GtO v l] (fun e L => e = .returned (errA a (setE l t n)) ∧ L = [GtO v (setT l t n)]) W := by
  intro M hM
  have h0 := Sep.of_star hM
  have HS0 := hide h0
  obtain ⟨p, b, rfl, hS⟩ := GtO.open h0
  have HS := hide hS
  have c0 := (hS.cell 0).1
  simp only [List.getElem?_cons_zero] at c0
  have g4 := hE.c4
  have g7 := hE.c7
  have g1 := hE.c1
  have HN := hide (fun w => name_ok t w ht)
  have HR := hide (hasRoom_ok b l t hS.sw ht)
  have HP := hide (fun w => isEpoch_ok n w)
  clear h0 hS hM hE
  cases hn : isNm t with
  | false =>
    have he : setE l t n = 5 := by unfold setE mayT; rw [hn]; rfl
    have HE : Hid (setT l t n = l) := by unfold setT; rw [he]; rfl
    rw [he]
    rw [hn] at HN
    clear he hl
    go_enter Tryz.func16, Tryz.ntmps16
    go_wp2_with fail
    refine (HN.out _).mono ?_
    rintro e w1 ⟨rfl, rfl⟩
    go_wp2_with fail
    go_ret
    exact ⟨_, ⟨rfl, rfl⟩, by rw [HE.out]; exact HS0.out⟩
  | true =>
    obtain ⟨hm1, hm2⟩ := mayT_room (l := l) hn
    rw [hn] at HN
    cases hr : ((getT l t).isSome || decide (l.length < 20)) with
    | false =>
      have hm : mayT l t = 8 := hm2.resolve_left (fun h => by rw [hm1] at h; rw [hr] at h; cases h)
      have he : setE l t n = 8 := by unfold setE; rw [hm]; rfl
      have HE : Hid (setT l t n = l) := by unfold setT; rw [he]; rfl
      rw [he]
      rw [hr] at HR
      clear he hm hm1 hm2 hr hn hl
      go_enter Tryz.func16, Tryz.ntmps16
      go_wp2_with fail
      refine (HN.out _).mono ?_
      rintro e w1 ⟨rfl, rfl⟩
      go_wp2_with fail
      refine HR.out.mono ?_
      rintro e w1 ⟨rfl, rfl⟩
      go_wp2_with fail
      go_ret
      exact ⟨_, ⟨rfl, rfl⟩, by rw [HE.out]; exact HS0.out⟩
    | true =>
      have hm : mayT l t = 0 := hm1.2 hr
      rw [hr] at HR
      cases hp : isEp n with
      | false =>
        have he : setE l t n = 2 := by unfold setE; rw [hm, hp]; rfl
        have HE : Hid (setT l t n = l) := by unfold setT; rw [he]; rfl
        rw [he]
        rw [hp] at HP
        clear he hm hm1 hm2 hr hn hl hp
        go_enter Tryz.func16, Tryz.ntmps16
        go_wp2_with fail
        refine (HN.out _).mono ?_
        rintro e w1 ⟨rfl, rfl⟩
        go_wp2_with fail
        refine HR.out.mono ?_
        rintro e w1 ⟨rfl, rfl⟩
        go_wp2_with fail
        refine (HP.out _).mono ?_
        rintro e w1 ⟨rfl, rfl⟩
        go_wp2_with fail
        go_ret
        exact ⟨_, ⟨rfl, rfl⟩, by rw [HE.out]; exact HS0.out⟩
      | true =>
        have he : setE l t n = 0 := by unfold setE; rw [hm, hp]; rfl
        have HE : Hid (setT l t n = insT t (max (lastT l t) n) l) := by unfold setT; rw [he]; rfl
        rw [he]
        rw [hp] at HP
        have Hlen : Hid (l.length ≤ 1000000) := by have := hl.len; exact (by omega : l.length ≤ 1000000)
        have Hrise := hide hl.rise
        have Hsz : Hid (t.size ≤ maxLen) := hide (by unfold maxLen; omega)
        have hlook := HS.out.drew.sw.tokLook1 ht
        have c0' : W.drew.cell? ⟨p, 0, none⟩ = some (.map (some b)) := c0
        have HSd := hide HS.out.drew.sw
        clear he hm hm1 hm2 hr hn hl hp HS HS0
        go_enter Tryz.func16, Tryz.ntmps16
        go_wp2_with fail
        refine (HN.out _).mono ?_
        rintro e w1 ⟨rfl, rfl⟩
        go_wp2_with fail
        refine HR.out.mono ?_
        rintro e w1 ⟨rfl, rfl⟩
        go_wp2_with fail
        refine (HP.out _).mono ?_
        rintro e w1 ⟨rfl, rfl⟩
        go_wp2_with fail
        have hmx := max_if (lastT l t) n
        generalize max (lastT l t) n = mx at *
        generalize lastT l t = x at *
        obtain ⟨w3, hst, hs3⟩ := HSd.out.textStore Tryz.underlying9 Tryz.underlying76 Hlen.out Hsz.out mx
        have k0 := (hs3.sw.cell 0).1
        simp only [List.getElem?_cons_zero] at k0
        have HS3 := hide (GtO.shut (hs3.textPerm (set_ins Hrise.out t _)).sw)
        clear hs3 HSd
        go_region_held3 (fun w' => w'.cell? ⟨p, 0, none⟩ = some (.map (some b))) (go_keep) (fail)
        all_goals
          go_wp2_with fail
          go_ret
          exact ⟨_, ⟨rfl, rfl⟩, by rw [HE.out]; exact HS3.out⟩

set_option maxHeartbeats 1000000 in
set_option maxRecDepth 100000 in
theorem openG_ok (a : Nat → Addr) (v : Value) (l : Toks) (t : ByteArray) (W : World) (hl : Fit l) (ht : t.size ≤ 1000000) (hE : Sents W a) :
    Tri Tryz.prog 9 #[v, .string t] [GtO v l] (fun e L => e = .returned (.tuple #[.int .i64 (openN l t), errA a (openE l t)]) ∧ L = [GtO v (openT l t)]) W := by
  intro M hM
  have HS := hide (Sep.of_star hM)
  have HL := hide (last_pure HS.out t ht)
  have HG := hide (setG_ok a v l t (lastT l t + 1) W hl ht hE)
  have hb := last_bound hl t
  have hw : IntKind.i64.wrap (lastT l t + 1) = lastT l t + 1 := iwrap_id _ (by omega) (by omega)
  have HO : Hid (openT l t = setT l t (lastT l t + 1)) := rfl
  have hN : openN l t = if openE l t = 0 then lastT l t + 1 else 0 := rfl
  have hEe : openE l t = setE l t (lastT l t + 1) := rfl
  rw [← hEe] at HG
  clear hM hE hEe hb hl
  cases ho : openE l t with
  | zero =>
    rw [ho] at HG hN
    simp only [if_true] at hN
    rw [hN]
    clear hN ho
    generalize lastT l t = x at *
    go_enter Tryz.func9, Tryz.ntmps9
    go_wp2_with fail
    refine HL.out.mono ?_
    rintro e w1 ⟨rfl, rfl⟩
    clear HL
    go_wp2_with fail
    refine (Sep.call (L0 := [_]) HS.out HG.out).mono ?_
    rintro e w2 ⟨_, ⟨rfl, rfl⟩, hs2⟩
    have HS2 := hide hs2
    clear hs2 HS HG
    simp only [errA]
    go_wp2_with fail
    go_ret2
    exact ⟨_, ⟨rfl, rfl⟩, by rw [HO.out]; exact HS2.out⟩
  | succ k =>
    rw [ho] at HG hN
    simp only [Nat.add_one_ne_zero, if_false] at hN
    rw [hN]
    clear hN ho
    generalize lastT l t = x at *
    go_enter Tryz.func9, Tryz.ntmps9
    go_wp2_with fail
    refine HL.out.mono ?_
    rintro e w1 ⟨rfl, rfl⟩
    clear HL
    go_wp2_with fail
    refine (Sep.call (L0 := [_]) HS.out HG.out).mono ?_
    rintro e w2 ⟨_, ⟨rfl, rfl⟩, hs2⟩
    have HS2 := hide hs2
    clear hs2 HS HG
    simp only [errA]
    go_wp2_with fail
    go_ret2
    exact ⟨_, ⟨rfl, rfl⟩, by rw [HO.out]; exact HS2.out⟩

set_option maxHeartbeats 1000000 in
set_option maxRecDepth 100000 in
theorem admitG_ok (a : Nat → Addr) (v : Value) (l : Toks) (t : ByteArray) (n : Int) (W : World) (ht : t.size ≤ 1000000) (hE : Sents W a) :
    Tri Tryz.prog 10 #[v, .string t, .int .i64 n] [GtO v l] (fun e L => e = .returned (errA a (admE l t n)) ∧ L = [GtO v l]) W := by
  intro M hM
  have h0 := Sep.of_star hM
  have HS0 := hide h0
  obtain ⟨p, b, rfl, hS⟩ := GtO.open h0
  have c0 := (hS.cell 0).1
  simp only [List.getElem?_cons_zero] at c0
  have g5 := hE.c5
  have g10 := hE.c10
  have hlook := hS.sw.tokLook ht
  have hA : admE l t n = match getT l t with | none => 6 | some m => if n = m then 0 else 11 := rfl
  have hL : lastT l t = (getT l t).getD 0 := rfl
  rw [hL] at hlook
  rw [hA]
  clear h0 hS hM hE hA hL
  cases hg : getT l t with
  | none =>
    rw [hg] at hlook
    simp only [Option.getD_none, Option.isSome_none] at hlook
    go_enter Tryz.func10, Tryz.ntmps10
    go_wp2_with fail
    go_ret
    exact ⟨_, ⟨rfl, rfl⟩, HS0.out⟩
  | some m =>
    rw [hg] at hlook
    simp only [Option.getD_some, Option.isSome_some] at hlook
    by_cases hm : n = m
    · subst hm
      simp only [if_true]
      go_enter Tryz.func10, Tryz.ntmps10
      go_wp2_with fail
      go_ret
      exact ⟨_, ⟨rfl, rfl⟩, HS0.out⟩
    · have hm' : (n == m) = false := by simpa using hm
      simp only [if_neg hm]
      clear hm
      go_enter Tryz.func10, Tryz.ntmps10
      go_wp2_with fail
      go_ret
      exact ⟨_, ⟨rfl, rfl⟩, HS0.out⟩
end Go.Proofs.YtogpjblikphpcaaGreatDoor
