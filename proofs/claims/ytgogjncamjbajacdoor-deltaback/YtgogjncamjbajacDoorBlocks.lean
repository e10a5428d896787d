/-
  Contracts of package sign's small functions over this dump: Size, isSize, blockOf. A block as three cells.
-/
import Derived.Test.YtgogjncamjbajacDoorSignMath
import Derived.Test.YtgogjncamjbajacDoorWeakSumOf
import Derived.Test.YtgogjncamjbajacDoorDivide
namespace Go.Proofs.YtgogjncamjbajacDoor
open Go.RowKit
open Go.Sign (Blk)

/-- A block as cells, and as a value. -/
def bcells (b : Blk) : List Value := [.int .i64 b.n, .int .i64 b.weak, .int .u32 b.strong]
def bval (b : Blk) : Value := .agg #[.int .i64 b.n, .int .i64 b.weak, .int .u32 b.strong]
/-- The block of a text. -/
def blk (l : List UInt8) : Blk := ⟨l.length, wk l, Go.Crc.crc 0 l⟩

/-- A block's three cells at block p of the memory. -/
structure BkAt (p : Nat) (w : World) (b : Blk) : Prop where
  c0 : w.cell? ⟨p, 0, none⟩ = some (.int .i64 b.n)
  c1 : w.cell? ⟨p, 1, none⟩ = some (.int .i64 b.weak)
  c2 : w.cell? ⟨p, 2, none⟩ = some (.int .u32 b.strong)
  f0 : w.frozen? ⟨p, 0, none⟩ = false
  f1 : w.frozen? ⟨p, 1, none⟩ = false
  f2 : w.frozen? ⟨p, 2, none⟩ = false
  lt : p < w.heap.size
theorem BkAt.below {p k : Nat} {w w' : World} {b : Blk} (h : BkAt p w b) (hb : Below k w w') (hp : p < k) : BkAt p w' b :=
  ⟨(hb.cell (p := ⟨p, 0, none⟩) (by simpa using hp)).trans h.c0, (hb.cell (p := ⟨p, 1, none⟩) (by simpa using hp)).trans h.c1, (hb.cell (p := ⟨p, 2, none⟩) (by simpa using hp)).trans h.c2, (hb.frozen (p := ⟨p, 0, none⟩) (by simpa using hp)).trans h.f0, (hb.frozen (p := ⟨p, 1, none⟩) (by simpa using hp)).trans h.f1, (hb.frozen (p := ⟨p, 2, none⟩) (by simpa using hp)).trans h.f2, Nat.lt_of_lt_of_le h.lt hb.size⟩
theorem BkAt.set {p : Nat} {w : World} {b : Blk} (h : BkAt p w b) (c : Blk) : BkAt p (((w.setCell ⟨p, 0, none⟩ (.int .i64 c.n)).setCell ⟨p, 1, none⟩ (.int .i64 c.weak)).setCell ⟨p, 2, none⟩ (.int .u32 c.strong)) c := by
  obtain ⟨c0, c1, c2, f0, f1, f2, lt⟩ := h
  refine ⟨?_, ?_, ?_, by simpa using f0, by simpa using f1, by simpa using f2, by simpa using lt⟩
  · rw [World.cell?_setCell_other _ _ _ _ (by simp), World.cell?_setCell_other _ _ _ _ (by simp)]; exact World.cell?_setCell_same _ _ _ c0
  · rw [World.cell?_setCell_other _ _ _ _ (by simp)]; exact World.cell?_setCell_same _ _ _ (by rw [World.cell?_setCell_other _ _ _ _ (by simp)]; exact c1)
  · exact World.cell?_setCell_same _ _ _ (by rw [World.cell?_setCell_other _ _ _ _ (by simp), World.cell?_setCell_other _ _ _ _ (by simp)]; exact c2)
theorem BkAt.fresh (w : World) (b : Blk) (t : TypeId) : BkAt w.heap.size (w.alloc (.cells #[.int .i64 b.n, .int .i64 b.weak, .int .u32 b.strong] t)) b :=
  ⟨by simp, by simp, by simp, by simp, by simp, by simp, by simp⟩
theorem BkAt.drew {p : Nat} {w : World} {b : Blk} (h : BkAt p w b) : BkAt p w.drew b := ⟨h.c0, h.c1, h.c2, h.f0, h.f1, h.f2, h.lt⟩
def zeroB : Blk := ⟨0, 0, 0⟩

theorem isSize_ok (n : Int) (w : World) : Calls Tryd.prog 18 #[.int .i64 n] w fun r w' => r = .returned (.bool (decide (1 ≤ n ∧ n ≤ 64))) ∧ w' = w := by
  by_cases h0 : 1 ≤ n
  · go_enter Tryd.func18, Tryd.ntmps18
    go_wp2
    go_ret
    exact ⟨ret_bool (by simp [h0]), rfl⟩
  · have h0' : decide (1 ≤ n) = false := by simp; omega
    go_enter Tryd.func18, Tryd.ntmps18
    go_wp2
    go_ret
    exact ⟨ret_bool (by simp), rfl⟩

set_option maxHeartbeats 1000000 in
set_option maxRecDepth 100000 in
theorem blockOf_ok (s : ByteArray) (w : World) (hs : s.size ≤ 1000000) : Calls Tryd.prog 19 #[.string s] w fun r w' => r = .returned (bval (blk s.data.toList)) ∧ Below w.heap.size w w' := by
  have HW := hide (fun W => wSum_ok s W hs)
  have HS := hide (fun W => sum_ok s W hs)
  have hs' : (s.size : Int) ≤ 1000000 := by omega
  unfold bval blk
  rw [lenL]
  generalize wk s.data.toList = k at *
  generalize Go.Crc.crc 0 s.data.toList = c at *
  go_enter Tryd.func19, Tryd.ntmps19
  go_wp2_with fail
  refine (HW.out _).mono ?_
  rintro e w1 ⟨rfl, hb1⟩
  have hf := (BkAt.fresh w zeroB 43).below hb1 (by simp)
  have Hb1 := hide (((Below.refl w.heap.size w).alloc (Nat.le_refl _) (.cells #[.int .i64 0, .int .i64 0, .int .u32 0] 43)).trans (hb1.mono (by simp)))
  have Hf := hide hf
  clear hb1
  obtain ⟨c0, c1, c2, f0, f1, f2, lt⟩ := hf
  go_wp2_with fail
  refine (HS.out _).mono ?_
  rintro e w2 ⟨rfl, rfl⟩
  go_wp2_with fail
  (try simp only [Exit.inBlock, Exit.then])
  refine bodyPost_ret (v := .agg #[.int .i64 s.size, .int .i64 k, .int .u32 c]) ?_ rfl ⟨rfl, ((Hb1.out.setCell (by simp) _).setCell (by simp) _).setCell (by simp) _⟩
  obtain ⟨s0, s1, s2, _, _, _, _⟩ := Hf.out.set ⟨s.size, k, c⟩
  simp only [results, show Tryd.f19.results = #[.cell 2 43] from rfl]
  go_simp
end Go.Proofs.YtgogjncamjbajacDoor
