/-
  Contracts of package basis's Text, Read.
-/
import Derived.Test.YtogpjblikphpcaaGreatDoorBkMark
namespace Go.Proofs.YtogpjblikphpcaaGreatDoor
open Go.RowKit
open Go.Basis
open Go.Digits (digits numberOf)
open Go.Gate (cutC)

theorem readM_three {s x y z : List UInt8} {n c : Nat} (h : cutC 32 s = [x, y, z]) (hy : numberOf y 10 = some n) (hz : numberOf z 10 = some c) : readM s = mkR (str x) n c := by
  unfold readM mkR chkE
  rw [h]
  simp only [hy, hz]
  cases hn : Go.Files.isNm (str x) with
  | false => simp
  | true =>
    simp only [Bool.true_eq_false, if_false]
    by_cases h1 : 4000 < n
    · have h1' : ((n : Int) < 0 ∨ 4000 < (n : Int)) := by omega
      rw [if_pos (Or.inl h1), if_pos h1', if_neg (by decide)]
    · have h1' : ¬ ((n : Int) < 0 ∨ 4000 < (n : Int)) := by omega
      by_cases h2 : 4294967295 < c
      · have h2' : (4294967295 : Int) < c := by omega
        rw [if_pos (Or.inr h2), if_neg h1', if_pos rfl, if_pos h2']
      · have h2' : ¬ (4294967295 : Int) < c := by omega
        rw [if_neg (by omega), if_neg h1', if_pos rfl, if_neg h2']
theorem readM_none {s : List UInt8} (h : ∀ x y z, cutC 32 s = [x, y, z] → ((numberOf y 10).isSome && (numberOf z 10).isSome) = false) : readM s = (1, noMk) := by
  unfold readM
  split
  · rename_i x y z hc
    have := h x y z hc
    split
    · rename_i n c hy hz
      rw [hy, hz] at this
      cases this
    · rfl
  · rfl

set_option maxHeartbeats 2000000 in
set_option maxRecDepth 100000 in
theorem text_ok' {a : Nat → Addr} {e : TypeId × Value} (m : Mk) (W : World) (hE : BkEnv a e W) (hs : m.name.size ≤ 100) (h0 : 0 ≤ m.c) (h1 : m.c ≤ 4294967295) :
    Calls Tryz.prog 24 #[mkV m] W fun r w' => r = .returned (.tuple #[.string (textM m), errA a (markE m)]) ∧ Below W.heap.size W w' := by
  have HC := hide (fun W' (q : Below W.heap.size W W') => bkCheck_ok m.name m.n W' (hE.err.below q) (by omega))
  have HW := hide (fun W' (q : Below W.heap.size W W') (h2 : 0 ≤ m.n) (h3 : m.n ≤ 4000) => bkWordsOf_ok m W' (var_below hE.num.tab q) (by omega) h2 h3 h0 h1)
  rw [chkE_mark] at HC
  have HT : Hid (textM m = if markE m = 0 then str (lineM m) else ⟨#[]⟩) := rfl
  have HM : Hid (markE m = 0 → 0 ≤ m.n ∧ m.n ≤ 4000) := fun h => by
    unfold markE at h
    split at h
    · cases h
    · split at h
      · cases h
      · omega
  obtain ⟨nm, n, c⟩ := m
  simp only [mkV] at HC HW HM ⊢
  have HS := hide ((Sep.start W).fresh 60 [.string nm, .int .i64 n, .int .u32 c])
  obtain ⟨c0, c1, c2⟩ : (W.alloc (.cells #[.string nm, .int .i64 n, .int .u32 c] 60)).cell? ⟨W.heap.size, 0, none⟩ = some (.string nm) ∧ (W.alloc (.cells #[.string nm, .int .i64 n, .int .u32 c] 60)).cell? ⟨W.heap.size, 1, none⟩ = some (.int .i64 n) ∧ (W.alloc (.cells #[.string nm, .int .i64 n, .int .u32 c] 60)).cell? ⟨W.heap.size, 2, none⟩ = some (.int .u32 c) := by simp
  have HCa := hide (HC.out _ HS.out.below)
  clear hE hs h0 h1 HC
  generalize textM ⟨nm, n, c⟩ = T at *
  generalize str (lineM ⟨nm, n, c⟩) = Ln at *
  generalize markE ⟨nm, n, c⟩ = k at *
  cases k with
  | zero =>
    rw [if_pos rfl] at HT
    obtain ⟨m0, m1⟩ := HM.out rfl
    rw [HT.out]
    simp only [errA] at HCa ⊢
    have HWa := hide (HW.out _ HS.out.below m0 m1)
    clear HM HW HT
    go_enter Tryz.func24, Tryz.ntmps24
    go_upto_region 1 with fail
    have Hb := hide HS.out.below
    clear HS
    generalize W.alloc (.cells #[.string nm, .int .i64 n, .int .u32 c] 60) = w1 at *
    go_wp2_with fail
    refine HCa.out.mono ?_
    rintro r w2 ⟨rfl, rfl⟩
    go_wp2_with fail
    refine HWa.out.mono ?_
    rintro r w3 ⟨rfl, hb3⟩
    have Hb3 := hide (bthen Hb.out hb3)
    clear hb3 c0 c1 c2 HCa HWa Hb
    go_wp2_with fail
    go_ret2
    exact ⟨rfl, Hb3.out⟩
  | succ k =>
    rw [if_neg (by omega)] at HT
    rw [HT.out]
    simp only [errA] at HCa ⊢
    clear HM HW HT
    go_enter Tryz.func24, Tryz.ntmps24
    go_upto_region 1 with fail
    have Hb := hide HS.out.below
    clear HS
    generalize W.alloc (.cells #[.string nm, .int .i64 n, .int .u32 c] 60) = w1 at *
    go_wp2_with fail
    refine HCa.out.mono ?_
    rintro r w2 ⟨rfl, rfl⟩
    go_wp2_with fail
    go_ret2
    exact ⟨rfl, Hb.out⟩

set_option maxHeartbeats 2000000 in
set_option maxRecDepth 100000 in
theorem read_ok' {a : Nat → Addr} {e : TypeId × Value} (s : ByteArray) (W : World) (hE : BkEnv a e W) (hs : s.size ≤ 1000) :
    Calls Tryz.prog 26 #[.string s] W fun r w' => r = .returned (.tuple #[mkV (readM s.data.toList).2, errA a (readM s.data.toList).1]) ∧ Below W.heap.size W w' := by
  have HW := hide (fun W' (q : Below W.heap.size W W') => readWords_ok s W' e (hE.num.below q) (by omega))
  have HS0 := hide ((Sep.start W).fresh 60 [.string ⟨#[]⟩, .int .i64 0, .int .u32 0])
  have HE := hide (fun W' (q : Below W.heap.size W W') => hE.err.below q)
  have hcs : (∃ x y z, cutC 32 s.data.toList = [x, y, z] ∧ ((numberOf y 10).isSome && (numberOf z 10).isSome) = true) ∨ (∃ nm n c, wdsV s.data.toList = .tuple #[.agg #[.string nm, .int .i64 n, .int .i64 c], .bool false] ∧ readM s.data.toList = (1, noMk)) := by
    by_cases h3 : (cutC 32 s.data.toList).length = 3
    · match hc : cutC 32 s.data.toList, h3 with
      | [x, y, z], _ =>
        cases hb : ((numberOf y 10).isSome && (numberOf z 10).isSome) with
        | true => exact .inl ⟨x, y, z, rfl, hb⟩
        | false => exact .inr ⟨_, _, _, by rw [wdsV_three hc, hb], readM_none fun x' y' z' h => by rw [hc] at h; cases h; exact hb⟩
    · exact .inr ⟨_, _, _, wdsV_other h3, readM_none fun x y z h => by rw [h] at h3; exact absurd rfl h3⟩
  rcases hcs with ⟨x, y, z, hc, hb⟩ | ⟨nm, n, c, hv, hr⟩
  · obtain ⟨ny, hy⟩ : ∃ ny, numberOf y 10 = some ny := by
      cases h : numberOf y 10 with
      | none => rw [h] at hb; cases hb
      | some v => exact ⟨v, rfl⟩
    obtain ⟨nz, hz⟩ : ∃ nz, numberOf z 10 = some nz := by
      cases h : numberOf z 10 with
      | none => rw [h, Bool.and_comm] at hb; cases hb
      | some v => exact ⟨v, rfl⟩
    have hl : (str x).size ≤ 1000000 := by
      have := Go.Gate.cutC_parts 32 _ x (by rw [hc]; simp)
      rw [lenL] at this
      rw [str_len]
      omega
    rw [wdsV_three hc, hb, hy, hz] at HW
    rw [readM_three hc hy hz]
    simp only [Option.getD_some] at HW
    have HM := hide (fun W' (q : Below W.heap.size W W') => mark_ok (a := a) (str x) ny nz W' (HE.out W' q) hl (by omega))
    clear hc hb hy hz hl hE HE
    generalize mkR (str x) ny nz = R at *
    obtain ⟨re, rn, rk, rc⟩ := R
    generalize str x = X at *
    simp only [mkV] at HM ⊢
    generalize errA a re = ev at *
    go_enter Tryz.func26, Tryz.ntmps26
    go_wp2_with fail
    refine (HW.out _ HS0.out.below).mono ?_
    rintro r w1 ⟨rfl, hb1⟩
    have hs1 := HS0.out.keep hb1
    have HS1 := hide (hs1.fresh 106 [.string X, .int .i64 ny, .int .i64 nz])
    obtain ⟨c0, c1, c2⟩ : (w1.alloc (.cells #[.string X, .int .i64 ny, .int .i64 nz] 106)).cell? ⟨w1.heap.size, 0, none⟩ = some (.string X) ∧ (w1.alloc (.cells #[.string X, .int .i64 ny, .int .i64 nz] 106)).cell? ⟨w1.heap.size, 1, none⟩ = some (.int .i64 ny) ∧ (w1.alloc (.cells #[.string X, .int .i64 ny, .int .i64 nz] 106)).cell? ⟨w1.heap.size, 2, none⟩ = some (.int .i64 nz) := by simp
    have HMa := hide (HM.out _ HS1.out.below)
    clear hs1 hb1 HS0 HW HM
    go_upto_region 4 with fail
    generalize (w1.alloc (.cells #[.string X, .int .i64 ny, .int .i64 nz] 106)) = w2 at *
    go_wp2_with fail
    refine HMa.out.mono ?_
    rintro r w3 ⟨rfl, hb3⟩
    have hs3 := HS1.out.keep hb3
    obtain ⟨⟨d0, f0⟩, ⟨d1, f1⟩, ⟨d2, f2⟩⟩ : (w3.cell? ⟨W.heap.size, 0, none⟩ = some (.string ⟨#[]⟩) ∧ w3.frozen? ⟨W.heap.size, 0, none⟩ = false) ∧ (w3.cell? ⟨W.heap.size, 1, none⟩ = some (.int .i64 0) ∧ w3.frozen? ⟨W.heap.size, 1, none⟩ = false) ∧ (w3.cell? ⟨W.heap.size, 2, none⟩ = some (.int .u32 0) ∧ w3.frozen? ⟨W.heap.size, 2, none⟩ = false) := ⟨hs3.sw.cell 0, hs3.sw.cell 1, hs3.sw.cell 2⟩
    have hs4 := ((hs3.sw.set 0 (.string rn)).set 1 (.int .i64 rk)).set 2 (.int .u32 rc)
    simp only [List.set_cons_zero, List.set_cons_succ] at hs4
    have HS4 := hide hs4
    clear hs4 hs3 hb3 HS1 c0 c1 c2 HMa
    go_wp2_with fail
    (try simp only [Exit.inBlock, Exit.then])
    refine bodyPost_ret (v := .tuple #[.agg #[.string rn, .int .i64 rk, .int .u32 rc], ev]) ?_ rfl ⟨rfl, HS4.out.below⟩
    have k0 := (HS4.out.cell 0).1
    have k1 := (HS4.out.cell 1).1
    have k2 := (HS4.out.cell 2).1
    simp only [List.getElem?_cons_zero, List.getElem?_cons_succ] at k0 k1 k2
    simp only [results, show Tryz.f26.results = #[.cell 2 60, .tmp 3] from rfl]
    go_simp
  · rw [hv] at HW
    rw [hr]
    simp only [mkV, errA, noMk]
    clear hv hr hE hs
    have HE0 := hide (fun W' (q : Below W.heap.size W W') => (HE.out W' q).c0)
    have hgl : 5 < W.heap.size := World.block_lt_of_cell? _ _ (HE.out W (Below.refl _ _)).c0
    have hq1 : ¬ (5 = W.heap.size) := by omega
    have hq2 : ¬ (W.heap.size = 5) := by omega
    clear HE hgl
    go_enter Tryz.func26, Tryz.ntmps26
    go_wp2_with fail
    refine (HW.out _ HS0.out.below).mono ?_
    rintro r w1 ⟨rfl, hb1⟩
    have hs1 := HS0.out.keep hb1
    have hs2 := hs1.fresh 106 [.string nm, .int .i64 n, .int .i64 c]
    have HS1 := hide hs2.sw
    have G0 := hide (HE0.out _ hs2.below)
    clear hs1 hs2 hb1 HS0 HW HE0
    go_upto_region 3 with fail
    have HS1' : Hid (Sep Foot.none W _ (w1.alloc (.cells #[.string nm, .int .i64 n, .int .i64 c] 106))) := HS1.out
    have G0' : Hid ((w1.alloc (.cells #[.string nm, .int .i64 n, .int .i64 c] 106)).cell? ⟨5, 0, none⟩ = _) := G0.out
    clear HS1 G0
    generalize (w1.alloc (.cells #[.string nm, .int .i64 n, .int .i64 c] 106)) = w3 at *
    have hs3 := HS1'.out
    have g0 := G0'.out
    obtain ⟨⟨d0, f0⟩, ⟨d1, f1⟩, ⟨d2, f2⟩⟩ : (w3.cell? ⟨W.heap.size, 0, none⟩ = some (.string ⟨#[]⟩) ∧ w3.frozen? ⟨W.heap.size, 0, none⟩ = false) ∧ (w3.cell? ⟨W.heap.size, 1, none⟩ = some (.int .i64 0) ∧ w3.frozen? ⟨W.heap.size, 1, none⟩ = false) ∧ (w3.cell? ⟨W.heap.size, 2, none⟩ = some (.int .u32 0) ∧ w3.frozen? ⟨W.heap.size, 2, none⟩ = false) := ⟨hs3.cell 0, hs3.cell 1, hs3.cell 2⟩
    have hs4 := ((hs3.set 0 (.string ⟨#[]⟩)).set 1 (.int .i64 0)).set 2 (.int .u32 0)
    simp only [List.set_cons_zero, List.set_cons_succ] at hs4
    have HS4 := hide hs4
    clear hs4 hs3 G0' HS1'
    go_region
    all_goals
      go_wp2_with fail
      (try simp only [Exit.inBlock, Exit.then])
      refine bodyPost_ret (v := .tuple #[.agg #[.string ⟨#[]⟩, .int .i64 0, .int .u32 0], .iface 231 (.pointer (some (a 0)))]) ?_ rfl ⟨rfl, by first | exact HS4.out.below | exact HS4.out.drew.below⟩
      have k0 := (HS4.out.cell 0).1
      have k1 := (HS4.out.cell 1).1
      have k2 := (HS4.out.cell 2).1
      simp only [List.getElem?_cons_zero, List.getElem?_cons_succ] at k0 k1 k2
      simp only [results, show Tryz.f26.results = #[.cell 2 60, .tmp 3] from rfl]
      go_simp
end Go.Proofs.YtogpjblikphpcaaGreatDoor
