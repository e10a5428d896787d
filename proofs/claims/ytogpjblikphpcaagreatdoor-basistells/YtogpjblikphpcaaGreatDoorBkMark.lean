/-
  Contracts of package basis's words.mark; Text, Read.
-/
import Derived.Test.YtogpjblikphpcaaGreatDoorBkRead
import Derived.Deep.DeepCutAuto
namespace Go.Proofs.YtogpjblikphpcaaGreatDoor
open Go.RowKit
open Go.Basis
open Go.Digits (digits numberOf)
open Go.Gate (cutC)

/-- What mark answers. -/
def mkR (nm : ByteArray) (n c : Int) : Nat × Mk := if chkE nm n = 0 then (if 4294967295 < c then (2, noMk) else (0, ⟨nm, n, c⟩)) else (chkE nm n, noMk)

set_option maxHeartbeats 2000000 in
set_option maxRecDepth 100000 in
theorem mark_ok {a : Nat → Addr} (nm : ByteArray) (n c : Int) (W : World) (hE : BkErrs W a) (hs : nm.size ≤ 1000000) (h0 : 0 ≤ c) :
    Calls Tryz.prog 53 #[.agg #[.string nm, .int .i64 n, .int .i64 c]] W fun r w' => r = .returned (.tuple #[mkV (mkR nm n c).2, errA a (mkR nm n c).1]) ∧ Below W.heap.size W w' := by
  have HC := hide (fun W' (q : Below W.heap.size W W') => bkCheck_ok nm n W' (hE.below q) hs)
  have HS := hide (((Sep.start W).fresh 106 [.string nm, .int .i64 n, .int .i64 c]).fresh 60 [.string ⟨#[]⟩, .int .i64 0, .int .u32 0])
  have HR : Hid (mkR nm n c = if chkE nm n = 0 then (if 4294967295 < c then (2, noMk) else (0, ⟨nm, n, c⟩)) else (chkE nm n, noMk)) := rfl
  have hx : chkE nm n = 0 ∨ ∃ k, chkE nm n = k + 1 := by cases chkE nm n with | zero => exact .inl rfl | succ k => exact .inr ⟨k, rfl⟩
  have hgl : 4 < W.heap.size := World.block_lt_of_cell? _ _ hE.c1
  have hq1 : ¬ (4 = W.heap.size + 1) := by omega
  have hq2 : ¬ (W.heap.size + 1 = 4) := by omega
  have HE := hide (fun W' (q : Below W.heap.size W W') => (hE.below q).c1)
  have c0 : ((W.alloc (.cells #[.string nm, .int .i64 n, .int .i64 c] 106)).alloc (.cells #[.string ⟨#[]⟩, .int .i64 0, .int .u32 0] 60)).cell? ⟨W.heap.size, 0, none⟩ = some (.string nm) := by simp
  have c1 : ((W.alloc (.cells #[.string nm, .int .i64 n, .int .i64 c] 106)).alloc (.cells #[.string ⟨#[]⟩, .int .i64 0, .int .u32 0] 60)).cell? ⟨W.heap.size, 1, none⟩ = some (.int .i64 n) := by simp
  have c2 : ((W.alloc (.cells #[.string nm, .int .i64 n, .int .i64 c] 106)).alloc (.cells #[.string ⟨#[]⟩, .int .i64 0, .int .u32 0] 60)).cell? ⟨W.heap.size, 2, none⟩ = some (.int .i64 c) := by simp
  have HSS : Hid (Sep Foot.none W [CellsF (W.heap.size + 1) 60 [.string ⟨#[]⟩, .int .i64 0, .int .u32 0], CellsF W.heap.size 106 [.string nm, .int .i64 n, .int .i64 c]] ((W.alloc (.cells #[.string nm, .int .i64 n, .int .i64 c] 106)).alloc (.cells #[.string ⟨#[]⟩, .int .i64 0, .int .u32 0] 60))) := by
    have h := HS.out
    simp only [World.size_alloc] at h
    exact h
  have hwc : c ≤ 4294967295 → IntKind.u32.wrap c = c := fun h => by rw [IntKind.wrap_u32]; omega
  clear HS hE hs hgl
  rcases hx with hx | ⟨k, hx⟩
  · rw [hx] at HC HR
    rw [if_pos rfl] at HR
    simp only [errA] at HC
    by_cases hb : 4294967295 < c
    · rw [if_pos hb] at HR
      rw [HR.out]
      simp only [errA, mkV, noMk]
      go_enter Tryz.func53, Tryz.ntmps53
      go_upto_region 1 with fail
      generalize ((W.alloc (.cells #[.string nm, .int .i64 n, .int .i64 c] 106)).alloc (.cells #[.string ⟨#[]⟩, .int .i64 0, .int .u32 0] 60)) = w1 at *
      generalize W.heap.size + 1 = q at *
      obtain ⟨⟨d0, f0⟩, ⟨d1, f1⟩, ⟨d2, f2⟩⟩ : (w1.cell? ⟨q, 0, none⟩ = some (.string ⟨#[]⟩) ∧ w1.frozen? ⟨q, 0, none⟩ = false) ∧ (w1.cell? ⟨q, 1, none⟩ = some (.int .i64 0) ∧ w1.frozen? ⟨q, 1, none⟩ = false) ∧ (w1.cell? ⟨q, 2, none⟩ = some (.int .u32 0) ∧ w1.frozen? ⟨q, 2, none⟩ = false) := ⟨HSS.out.cell 0, HSS.out.cell 1, HSS.out.cell 2⟩
      have HC1 := hide (HC.out w1 HSS.out.below)
      have g1 := HE.out w1 HSS.out.below
      have hs4 := ((HSS.out.set 0 (.string ⟨#[]⟩)).set 1 (.int .i64 0)).set 2 (.int .u32 0)
      simp only [List.set_cons_zero, List.set_cons_succ] at hs4
      have HS4 := hide hs4
      clear hs4 HC HR hx HE
      go_wp2_with fail
      refine HC1.out.mono ?_
      rintro r w2 ⟨rfl, rfl⟩
      go_wp2_with fail
      go_region
      all_goals
        go_wp2_with fail
        (try simp only [Exit.inBlock, Exit.then])
        refine bodyPost_ret (v := .tuple #[.agg #[.string ⟨#[]⟩, .int .i64 0, .int .u32 0], .iface 231 (.pointer (some (a 1)))]) ?_ rfl ⟨rfl, by first | exact HS4.out.below | exact HS4.out.below.drew | exact HS4.out.drew.below⟩
        have k0 := (HS4.out.cell 0).1
        have k1 := (HS4.out.cell 1).1
        have k2 := (HS4.out.cell 2).1
        simp only [List.getElem?_cons_zero, List.getElem?_cons_succ] at k0 k1 k2
        simp only [results, show Tryz.f53.results = #[.cell 2 60, .tmp 3] from rfl]
        go_simp
    · rw [if_neg hb] at HR
      rw [HR.out]
      have hb' : c ≤ 4294967295 := by omega
      have hwc' := hwc hb'
      simp only [errA, mkV]
      clear hwc hb
      go_enter Tryz.func53, Tryz.ntmps53
      go_upto_region 1 with fail
      generalize ((W.alloc (.cells #[.string nm, .int .i64 n, .int .i64 c] 106)).alloc (.cells #[.string ⟨#[]⟩, .int .i64 0, .int .u32 0] 60)) = w1 at *
      generalize W.heap.size + 1 = q at *
      obtain ⟨⟨d0, f0⟩, ⟨d1, f1⟩, ⟨d2, f2⟩⟩ : (w1.cell? ⟨q, 0, none⟩ = some (.string ⟨#[]⟩) ∧ w1.frozen? ⟨q, 0, none⟩ = false) ∧ (w1.cell? ⟨q, 1, none⟩ = some (.int .i64 0) ∧ w1.frozen? ⟨q, 1, none⟩ = false) ∧ (w1.cell? ⟨q, 2, none⟩ = some (.int .u32 0) ∧ w1.frozen? ⟨q, 2, none⟩ = false) := ⟨HSS.out.cell 0, HSS.out.cell 1, HSS.out.cell 2⟩
      have HC1 := hide (HC.out w1 HSS.out.below)
      have g1 := HE.out w1 HSS.out.below
      have hs4 := ((HSS.out.set 0 (.string nm)).set 1 (.int .i64 n)).set 2 (.int .u32 c)
      simp only [List.set_cons_zero, List.set_cons_succ] at hs4
      have HS4 := hide hs4
      clear hs4 HC HR hx HE
      go_wp2_with fail
      refine HC1.out.mono ?_
      rintro r w2 ⟨rfl, rfl⟩
      go_wp2_with fail
      (try simp only [Exit.inBlock, Exit.then])
      refine bodyPost_ret (v := .tuple #[.agg #[.string nm, .int .i64 n, .int .u32 c], .nilIface]) ?_ rfl ⟨rfl, by first | exact HS4.out.below | exact HS4.out.below.drew | exact HS4.out.drew.below⟩
      have k0 := (HS4.out.cell 0).1
      have k1 := (HS4.out.cell 1).1
      have k2 := (HS4.out.cell 2).1
      simp only [List.getElem?_cons_zero, List.getElem?_cons_succ] at k0 k1 k2
      simp only [results, show Tryz.f53.results = #[.cell 2 60, .tmp 3] from rfl]
      go_simp
  · rw [hx] at HC HR
    rw [if_neg (by omega)] at HR
    rw [HR.out]
    simp only [errA, mkV, noMk] at HC ⊢
    clear hwc
    go_enter Tryz.func53, Tryz.ntmps53
    go_upto_region 1 with fail
    generalize ((W.alloc (.cells #[.string nm, .int .i64 n, .int .i64 c] 106)).alloc (.cells #[.string ⟨#[]⟩, .int .i64 0, .int .u32 0] 60)) = w1 at *
    generalize W.heap.size + 1 = q at *
    obtain ⟨⟨d0, f0⟩, ⟨d1, f1⟩, ⟨d2, f2⟩⟩ : (w1.cell? ⟨q, 0, none⟩ = some (.string ⟨#[]⟩) ∧ w1.frozen? ⟨q, 0, none⟩ = false) ∧ (w1.cell? ⟨q, 1, none⟩ = some (.int .i64 0) ∧ w1.frozen? ⟨q, 1, none⟩ = false) ∧ (w1.cell? ⟨q, 2, none⟩ = some (.int .u32 0) ∧ w1.frozen? ⟨q, 2, none⟩ = false) := ⟨HSS.out.cell 0, HSS.out.cell 1, HSS.out.cell 2⟩
    have HC1 := hide (HC.out w1 HSS.out.below)
    have g1 := HE.out w1 HSS.out.below
    have hs4 := ((HSS.out.set 0 (.string ⟨#[]⟩)).set 1 (.int .i64 0)).set 2 (.int .u32 0)
    simp only [List.set_cons_zero, List.set_cons_succ] at hs4
    have HS4 := hide hs4
    clear hs4 HC HR hx HE
    go_wp2_with fail
    refine HC1.out.mono ?_
    rintro r w2 ⟨rfl, rfl⟩
    go_wp2_with fail
    (try simp only [Exit.inBlock, Exit.then])
    refine bodyPost_ret (v := .tuple #[.agg #[.string ⟨#[]⟩, .int .i64 0, .int .u32 0], .iface 231 (.pointer (some (a k)))]) ?_ rfl ⟨rfl, by first | exact HS4.out.below | exact HS4.out.below.drew | exact HS4.out.drew.below⟩
    have k0 := (HS4.out.cell 0).1
    have k1 := (HS4.out.cell 1).1
    have k2 := (HS4.out.cell 2).1
    simp only [List.getElem?_cons_zero, List.getElem?_cons_succ] at k0 k1 k2
    simp only [results, show Tryz.f53.results = #[.cell 2 60, .tmp 3] from rfl]
    go_simp
end Go.Proofs.YtogpjblikphpcaaGreatDoor
