/-
  Contract of the document's Tape.Recover over this dump.
-/
import Derived.Test.YtledipmimfphdaaDoorTpRead
namespace Go.Proofs.YtledipmimfphdaaDoor
open Go.RowKit
open Go.Tape

set_option maxHeartbeats 1000000 in
set_option maxRecDepth 100000 in
theorem rback_ok {M0 : Foot} {w0 W : World} {L : List Fam} {p : Nat} {d : Tp} (h0 : Sep M0 w0 (RTp p d :: L) W) (hd : d.b.size ≤ 2000000) :
    Calls Tryd.prog 19 #[.pointer (some ⟨p, 0, none⟩)] W fun r w' => ∃ v, r = .returned v ∧ Sep M0 w0 (RTp p d.back :: OwnF 9 1 v (readT d.b.data.toList).1.length ((readT d.b.data.toList).1.map recV) :: L) w' := by
  have HR := hide (rreadT_ok h0 d.b hd)
  obtain ⟨⟨c0, c1, c2⟩, f0, f1, f2⟩ := RTp.cells h0
  have hle := readT_le d.b.data.toList
  rw [lenL] at hle
  have hB : Hid (d.back = ⟨d.b.extract 0 (readT d.b.data.toList).2, false, -1⟩) := rfl
  generalize readT d.b.data.toList = R at *
  have hle' : (R.2 : Int) ≤ d.b.size := by omega
  clear h0 hle
  go_enter Tryd.func19, Tryd.ntmps19
  go_wp2_with fail
  refine HR.out.mono ?_
  rintro r w1 ⟨v, rfl, hs1⟩
  obtain ⟨⟨e0, e1, e2⟩, g0, g1, g2⟩ := RTp.cells hs1.sw
  have hs2 := RTp.set0 hs1.sw (d.b.extract 0 R.2)
  obtain ⟨⟨i0, i1, i2⟩, j0, j1, j2⟩ := RTp.cells hs2
  have hs3 := RTp.set1 hs2 false
  obtain ⟨⟨k0, k1, k2⟩, l0, l1, l2⟩ := RTp.cells hs3
  have HF := hide (RTp.set2 hs3 (-1))
  clear hs1 hs2 hs3 HR c0 c1 c2 f0 f1 f2
  go_wp2_with fail
  go_ret
  rw [hB.out]
  exact ⟨_, rfl, HF.out⟩
end Go.Proofs.YtledipmimfphdaaDoor
