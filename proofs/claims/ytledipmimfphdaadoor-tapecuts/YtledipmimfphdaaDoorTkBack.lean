/-
  Contracts of package tape's Append, Recover.
-/
import Derived.Test.YtledipmimfphdaaDoorTkWrite
import Derived.Test.YtledipmimfphdaaDoorTkRead
namespace Go.Proofs.YtledipmimfphdaaDoor
open Go.RowKit
open Go.Tape

set_option maxHeartbeats 1000000 in
set_option maxRecDepth 100000 in
theorem tkAppend_ok {a : Nat → Addr} {e f : TypeId × Value} {M0 : Foot} {w0 W : World} {L : List Fam} (v : Value) (d : Tp) (s : ByteArray) (h0 : Sep M0 w0 (TkO v d :: L) W) (hE : ∀ L' w', Sep M0 w0 L' w' → TkEnv a e f w') (hd : d.b.size ≤ 1048576) (hs : s.size ≤ 20001) :
    Calls Tryd.prog 9 #[v, .string s] W fun r w' => r = .returned (errA a (d.appE s)) ∧ Sep M0 w0 (TkO v (d.app s) :: L) w' := by
  have hE0 := hE _ _ h0
  have g1 := hE0.err.c1
  obtain ⟨p, _, _, _, rfl, -, -⟩ := TkO.open h0
  have HS := hide h0
  by_cases h1 : 20000 < s.size
  · have h1' : (20000 : Int) < s.size := by omega
    have hC : d.appE s = 2 := by unfold Tp.appE; rw [if_pos h1]
    have hT : d.app s = d := by unfold Tp.app; rw [if_pos (.inl h1)]
    rw [hC, hT]
    clear hE hE0 h0 hC hT
    go_enter Tryd.func9, Tryd.ntmps9
    go_wp2_with fail
    go_ret
    exact ⟨rfl, HS.out⟩
  · have h1' : (s.size : Int) ≤ 20000 := by omega
    obtain ⟨hC, hT⟩ := wr_app d s h1
    rw [← hC, ← hT]
    have HRe := hide (tkRec_ok s W hE0 (by omega))
    have hrl := rec1_le (s := s) (by omega)
    have HW := hide (fun w' (k : Below W.heap.size W w') => tkWrite_ok (.pointer (some ⟨p, 0, none⟩)) d (rec1 s) (HS.out.keep k) (fun L' w' q => (hE L' w' q).err) hd (by omega))
    generalize rec1 s = R at *
    clear hE hE0 h0 hC hT g1
    go_enter Tryd.func9, Tryd.ntmps9
    go_wp2_with fail
    refine HRe.out.mono ?_
    rintro r w1 ⟨rfl, hb1⟩
    have HW1 := hide (HW.out _ hb1)
    clear hb1 HRe HW HS
    go_wp2_with fail
    refine HW1.out.mono ?_
    rintro r w2 ⟨rfl, hs2⟩
    have HS2 := hide hs2
    clear hs2 HW1
    go_wp2_with fail
    go_ret
    exact ⟨rfl, HS2.out⟩

theorem tkRead_tri {a : Nat → Addr} {e f : TypeId × Value} (s : ByteArray) (W : World) (hE : TkEnv a e f W) (hs : s.size ≤ 2000000) :
    Tri Tryd.prog 13 #[.string s] [] (fun r L => ∃ v, r = .returned (.tuple #[v, .int .i64 ((readT s.data.toList).2 : Nat)]) ∧ L = [OwnF 9 1 v (readT s.data.toList).1.length ((readT s.data.toList).1.map recV)]) W := by
  intro M hM
  obtain rfl : M = Foot.none := funext fun k => propext ⟨fun h => (hM.nil_inv k h).elim, False.elim⟩
  exact (tkRead_own s W hE hs).mono fun r w' ⟨v, h1, h2⟩ => ⟨_, ⟨v, h1, rfl⟩, h2⟩

set_option maxHeartbeats 1000000 in
set_option maxRecDepth 100000 in
theorem tkBack_ok {a : Nat → Addr} {e f : TypeId × Value} {M0 : Foot} {w0 W : World} {L : List Fam} (v : Value) (d : Tp) (h0 : Sep M0 w0 (TkO v d :: L) W) (hE : ∀ L' w', Sep M0 w0 L' w' → TkEnv a e f w') (hd : d.b.size ≤ 1048576) :
    Calls Tryd.prog 10 #[v] W fun r w' => ∃ x, r = .returned (.tuple #[x, .nilIface]) ∧ Sep M0 w0 (OwnF 9 1 x (readT d.b.data.toList).1.length ((readT d.b.data.toList).1.map recV) :: TkO v d.back :: L) w' := by
  obtain ⟨p, _, _, _, rfl, -, -⟩ := TkO.open h0
  have HS := hide h0
  have HOn := hide (fun w' => tkOn_ok (.pointer (some ⟨p, 0, none⟩)) d w')
  have HBy := hide (fun w' => tkBytes_ok (.pointer (some ⟨p, 0, none⟩)) d.on w')
  have HRd := hide (fun L' w' (q : Sep M0 w0 L' w') => tkRead_tri d.b w' (hE L' w' q) (by omega))
  have hle := readT_le d.b.data.toList
  rw [lenL] at hle
  have hdl : d.b.data.toList.length = d.b.size := lenL _
  have hB : Hid (d.back = ⟨d.b.extract 0 (readT d.b.data.toList).2, false, -1⟩) := rfl
  have hxs : Hid ((d.b.extract 0 (readT d.b.data.toList).2).data.toList = d.b.data.toList.take (readT d.b.data.toList).2) := by show _ = _; rw [extractL]; simp
  have Hob : Hid (d.on = ⟨d.b, false, -1⟩) := rfl
  generalize readT d.b.data.toList = R at *
  have hle' : (R.2 : Int) ≤ d.b.size := by omega
  have hle0 : (0 : Int) ≤ R.2 := by omega
  clear h0 hE
  go_enter Tryd.func10, Tryd.ntmps10
  go_wp2_with fail
  refine (Sep.call (L0 := [_]) HS.out (HOn.out _)).mono ?_
  rintro r w1 ⟨_, ⟨rfl, rfl⟩, hs1⟩
  have HS1 := hide hs1
  clear hs1 HS HOn
  go_wp2_with fail
  refine (Sep.call (L0 := [_]) HS1.out (HBy.out _)).mono ?_
  rintro r w2 ⟨_, ⟨rfl, rfl⟩, hs2⟩
  have HS2 := hide hs2
  clear hs2 HS1 HBy
  have HRd2 := hide (HRd.out _ _ HS2.out)
  go_wp2_with fail
  refine (Sep.call (L0 := []) HS2.out HRd2.out).mono ?_
  rintro r w3 ⟨_, ⟨x, rfl, rfl⟩, hs3⟩
  obtain ⟨xa, xc, rfl, -⟩ := own_slice' hs3.own
  have hs4 := hs3.sw
  rw [Hob.out] at hs4
  obtain ⟨q, y, c, m, hq, hk, hs5⟩ := TkO.open hs4
  cases hq
  obtain ⟨⟨c0, c1, c2, c3⟩, f0, f1, f2, f3⟩ := Tk4.cells hs5
  obtain ⟨g, cap, rfl, hcap⟩ := hs5.sw.bytes
  simp only [hdl] at c0 hcap hs5
  have hcap' : (R.2 : Int) ≤ cap := by omega
  have hs6 := (Tk4.set0 hs5 (.slice (some ⟨g, 0, none⟩) R.2 cap)).sw.bytesCut R.2 (by omega)
  have HF := hide (TkO.shut (d := ⟨d.b.extract 0 R.2, false, -1⟩) hk (by rw [hxs.out]; exact hs6.sw))
  clear hs3 hs4 hs5 hs6 HS2 HRd HRd2 c1 c2 c3 hk
  go_wp2_with fail
  go_ret2
  rw [hB.out]
  exact ⟨_, rfl, HF.out.sw⟩
end Go.Proofs.YtledipmimfphdaaDoor
