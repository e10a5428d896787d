/-
  Contract of package basis's Far.
-/
import Derived.Test.YtogpjblikphpcaaGreatDoorBkRise
import Derived.Test.YtogpjblikphpcaaGreatDoorBkFront
import Derived.Test.YtogpjblikphpcaaGreatDoorRow3F
namespace Go.Proofs.YtogpjblikphpcaaGreatDoor
open Go.RowKit
open Go.Basis

/-- Marks as an object. -/
abbrev MkF (v : Value) (l : List Mk) : Fam := Row3F (fun m : Mk => .string m.name) (fun m => .int .i64 m.n) (fun m => .int .u32 m.c) v l

set_option maxHeartbeats 4000000 in
set_option maxRecDepth 100000 in
theorem far_ok (v : Value) (l : List Mk) (nm data : ByteArray) (w : World) (hv : MkRow w v l) (hl : l.length ≤ 1000) (hn : nm.size ≤ 1000000) (hd : data.size ≤ 1000000) :
    Calls Tryz.prog 31 #[v, .string nm, .string data] w fun r w' => r = .returned (.int .i64 (farL l nm data : Nat)) ∧ Below w.heap.size w w' := by
  have HRi := hide (fun W (q : Below w.heap.size w W) => rising_ok v l nm data.size W (hv.below q) hl hd hn)
  have HUp := hide (fun p i j W (h1 : i ≤ j) (h2 : j ≤ data.size) => upTo_ok p data i j W h1 h2 hd)
  have hs0 := (Sep.start w).fresh 113 [.string data, .int .i64 0, .int .u32 0]
  have HS0 : Hid (Sep Foot.none w [Fr3 w.heap.size data 0] (w.alloc (.cells #[.string data, .int .i64 0, .int .u32 0] 113))) := by
    unfold Fr3
    rw [sumTo_zero]
    exact hs0
  have HD : Hid (∀ p k, FarG data p k → p.Perm (hereL l nm data.size) → farL l nm data = k) := fun p k h1 h2 => h1.done h2
  have HMem : Hid (∀ l' : List Mk, l'.Perm (hereL l nm data.size) → ∀ x ∈ l', 0 ≤ x.n ∧ x.n ≤ data.size) := fun l' h x hx => by
    have := here_mem.1 (h.mem_iff.1 hx)
    exact this.2.2
  obtain ⟨va, vc, rfl, _⟩ := hv
  have hd' : (data.size : Int) ≤ 1000000 := by omega
  clear hs0
  go_enter Tryz.func31, Tryz.ntmps31
  go_wp2_with fail
  refine (HRi.out _ HS0.out.below).mono ?_
  rintro r w2 ⟨u, l', rfl, hp, hup, hrow, hnew, hb2⟩
  have HS2 := hide (HS0.out.newRow3 hb2 hrow hnew)
  have hrow' := hrow
  obtain ⟨ua, uc, rfl, _⟩ := hrow'
  have hll : l'.length ≤ l.length := by rw [hp.length_eq]; exact here_len _ _ _
  have hll' : (l'.length : Int) ≤ 1000 := by omega
  have HMe := hide (HMem.out l' hp)
  have HDo := hide (fun k h => HD.out l' k h hp)
  have HU := hide hup
  clear hb2 hrow hnew hp hup HMem HD HRi HS0
  go_wp2_with fail
  go_loopw [8, 19] (fun t8 t19 wr => ∃ i k n : Nat, t19 = .int .i64 i ∧ t8 = .int .i64 k ∧ i ≤ l'.length ∧ Hid (FarG data (l'.take i) k) ∧ n ≤ data.size ∧ Hid (∀ h : i < l'.length, (n : Int) ≤ l'[i].n) ∧ Hid (Sep Foot.none w [MkF (.slice ua l'.length uc) l', Fr3 w.heap.size data n] wr)) (fun _ t19 _ => l'.length - (intOf t19).toNat)
  case atStart => exact ⟨0, 0, 0, rfl, rfl, Nat.zero_le _, FarG.nil data, Nat.zero_le _, fun h => by have := (HMe.out _ (List.getElem_mem h)).1; omega, HS2.out⟩
  case round =>
    clear HS2
    obtain ⟨i, k, n, rfl, rfl, hi, HG, hnd, HN, Hs⟩ := hrel
    by_cases hil : i < l'.length
    · have hil' : (i : Int) < l'.length := by omega
      obtain ⟨_, _, hv, hrow⟩ := Hs.out.row3
      cases hv
      obtain ⟨b, o, rfl, hcell⟩ := hrow (by omega)
      obtain ⟨m0, m1, m2⟩ := hcell i hil
      have hmb := HMe.out _ (List.getElem_mem hil)
      have hmn := HN.out hil
      have Htk : Hid (l'.take (i + 1) = l'.take i ++ [l'[i]]) := List.take_succ_eq_append_getElem hil
      have Hle : Hid (∀ x ∈ l'.take i, x.n ≤ l'[i].n) := fun x hx => by
        obtain ⟨j, hj, rfl⟩ := List.getElem_of_mem hx
        rw [List.length_take] at hj
        rw [List.getElem_take]
        exact HU.out j i (by omega) hil
      have Hnx : Hid (∀ h : i + 1 < l'.length, l'[i].n ≤ l'[i + 1].n) := fun h => HU.out i (i + 1) (by omega) h
      clear hcell hrow HN
      generalize l'[i] = m at *
      obtain ⟨mn, mk, mc⟩ := m
      simp only at m0 m1 m2 hmb hmn Hle Hnx
      obtain ⟨j, rfl⟩ := Int.eq_ofNat_of_zero_le hmb.1
      have hs3 := (Hs.out.fresh 60 [.string mn, .int .i64 j, .int .u32 mc]).third
      have HS3 := hide hs3
      have HUpc := hide (fun W => HUp.out w.heap.size n j W (by omega) (by omega))
      have hjd : j ≤ data.size := by omega
      obtain ⟨d0, d1, d2⟩ : (wr.alloc (.cells #[.string mn, .int .i64 j, .int .u32 mc] 60)).cell? ⟨wr.heap.size, 0, none⟩ = some (.string mn) ∧ (wr.alloc (.cells #[.string mn, .int .i64 j, .int .u32 mc] 60)).cell? ⟨wr.heap.size, 1, none⟩ = some (.int .i64 j) ∧ (wr.alloc (.cells #[.string mn, .int .i64 j, .int .u32 mc] 60)).cell? ⟨wr.heap.size, 2, none⟩ = some (.int .u32 mc) := by simp
      obtain ⟨B, hB⟩ : ∃ B : Bool, (sumTo data j == mc) = B := ⟨_, rfl⟩
      have HB := hide hB
      clear hs3 Hs hmb hmn
      go_upto_region 5 with fail
      have HS3' : Hid (Sep Foot.none w [Fr3 w.heap.size data n, CellsF wr.heap.size 60 [.string mn, .int .i64 j, .int .u32 mc], MkF (.slice (some ⟨b, o, none⟩) l'.length uc) l'] (wr.alloc (.cells #[.string mn, .int .i64 j, .int .u32 mc] 60))) := HS3.out
      clear HS3
      generalize (wr.alloc (.cells #[.string mn, .int .i64 j, .int .u32 mc] 60)) = w3 at *
      generalize wr.heap.size = q at *
      go_cut [28] (fun v28 wc => v28 = .bool B ∧ Hid (Sep Foot.none w [Fr3 w.heap.size data j, CellsF q 60 [.string mn, .int .i64 j, .int .u32 mc], MkF (.slice (some ⟨b, o, none⟩) l'.length uc) l'] wc))
      case first =>
        have hS : Sep Foot.none w ([Fr3 w.heap.size data n] ++ [CellsF q 60 [.string mn, .int .i64 j, .int .u32 mc], MkF (.slice (some ⟨b, o, none⟩) l'.length uc) l']) w3 := HS3'.out
        have HSa := hide hS
        generalize sumTo data j = cj at *
        clear hS HS3' HG HDo HMe HU Htk Hle Hnx
        go_region_with (go_at_call 57; refine (HSa.out.drew.call (HUpc.out _)).mono ?_; rintro r w7 ⟨_, ⟨rfl, rfl⟩, hs7⟩; have Hs7 := hide hs7; obtain ⟨e1, e2⟩ : w7.cell? ⟨q, 1, none⟩ = some (.int .i64 j) ∧ w7.cell? ⟨q, 2, none⟩ = some (.int .u32 mc) := ⟨(hs7.sw.cell 1).1, (hs7.sw.cell 2).1⟩; clear hs7)
        all_goals
          go_wp2_with fail
          go_meet
          case rel => exact ⟨by rw [← HB.out], by first | exact Hs7.out | exact Hs7.out.drew⟩
      case rest =>
        obtain ⟨rfl, Hs8⟩ := hcut
        have hs9 := Hs8.out.sw.drop.sw
        obtain ⟨e0, e1, e2⟩ : wc.cell? ⟨q, 0, none⟩ = some (.string mn) ∧ wc.cell? ⟨q, 1, none⟩ = some (.int .i64 j) ∧ wc.cell? ⟨q, 2, none⟩ = some (.int .u32 mc) := ⟨(Hs8.out.sw.cell 0).1, (Hs8.out.sw.cell 1).1, (Hs8.out.sw.cell 2).1⟩
        have HS9 := hide hs9
        clear hs9 Hs8
        cases B with
        | true =>
          have hcj : sumTo data j = mc := by simpa using HB.out
          have HG2 := hide (FarG.hit (p := l'.take i) (m := ⟨mn, j, mc⟩) rfl hcj Hle.out)
          clear HG hcj
          go_wp2_with fail
          go_roundw
          case rel => exact ⟨i + 1, j, j, by go_num, rfl, by omega, by rw [Htk.out]; exact HG2.out, hjd, fun h => Hnx.out h, HS9.out⟩
          case measure => simp [intOf]; omega
        | false =>
          have hcj : sumTo data j ≠ mc := by simpa using HB.out
          have HG2 := hide (FarG.miss HG.out (m := ⟨mn, j, mc⟩) rfl hcj)
          clear HG hcj
          go_wp2_with fail
          go_roundw
          case rel => exact ⟨i + 1, k, j, by go_num, rfl, by omega, by rw [Htk.out]; exact HG2.out, hjd, fun h => Hnx.out h, HS9.out⟩
          case measure => simp [intOf]; omega
    · have hil' : (l'.length : Int) ≤ i := by omega
      obtain rfl : i = l'.length := by omega
      rw [List.take_length] at HG
      have HR := hide (HDo.out k HG.out)
      have Hb := hide Hs.out.below
      clear HG HDo Hs HN
      go_wp2_with fail
      go_ret
      exact ⟨by rw [HR.out]; rfl, Hb.out⟩
end Go.Proofs.YtogpjblikphpcaaGreatDoor
