/-
  The closed fact 'made' over this dump.
-/
import Derived.Test.YtgogjncamjbajacDoorMakeOps
namespace Go.Proofs.YtgogjncamjbajacDoor
open Go.RowKit
open Go.Sign (Blk)
open Go.Delta (Opx gd dataOp copyOp addCopy addByte)

/-- Right blocks, a file that is not too long. -/
theorem make_right (v : Value) (L : List Blk) (size : Nat) (s : ByteArray) (e : EV) (w : World) (hv : RowIn w v L) (hL : L.length ≤ 900000) (hs : s.size ≤ 4000) (hf : (Go.Sign.fault L size).1 = 0) (he : Er2 e w) :
    Calls Tryd.prog 10 #[v, .int .i64 size, .string s] w fun r w' => (∃ u, r = .returned (.tuple #[u, .nilIface]) ∧ w'.ownsRow w.heap.size 48 4 u (dmake L size s.data.toList).length (ocs (dmake L size s.data.toList))) ∧ Below w.heap.size w w' := by
  refine (make_ok v L size s e w hv hL (by omega) he).mono ?_
  rintro r w' ⟨hm, hb⟩
  rw [MakeRes, if_pos hf, if_pos (by rw [lenL]; exact hs), Int.toNat_natCast] at hm
  exact ⟨hm, hb⟩

theorem sig_abcdef : sigL (⟨#[97, 98, 99, 100, 101, 102]⟩ : ByteArray).data.toList 3 = [blk [97, 98, 99], blk [100, 101, 102]] := rfl
theorem find_new : findW [blk [97, 98, 99], blk [100, 101, 102]] [120, 97, 98] = -1 := by
  unfold findW findOut
  rw [findFrom, if_neg (by intro h; have := congrArg Blk.weak h; revert this; decide), findFrom, if_neg (by intro h; have := congrArg Blk.weak h; revert this; decide), findFrom]
theorem find_abc : findW [blk [97, 98, 99], blk [100, 101, 102]] [97, 98, 99] = 0 := by
  unfold findW findOut
  rw [findFrom, if_pos rfl]
  rfl
theorem find_def : findW [blk [97, 98, 99], blk [100, 101, 102]] [100, 101, 102] = 1 := by
  unfold findW findOut
  rw [findFrom, if_neg (by intro h; have := congrArg Blk.weak h; revert this; decide), findFrom, if_pos rfl]
  rfl
theorem made_x : dmake [blk [97, 98, 99], blk [100, 101, 102]] 3 (⟨#[120, 97, 98, 99, 100, 101, 102]⟩ : ByteArray).data.toList = [⟨⟨#[100, 97, 116, 97]⟩, 0, 0, ⟨#[120]⟩⟩, ⟨⟨#[99, 111, 112, 121]⟩, 0, 2, ⟨#[]⟩⟩] := by
  unfold dmake
  show gd _ 3 [120, 97, 98, 99, 100, 101, 102] [] = _
  rw [gd, show List.take 3 [(120 : UInt8), 97, 98, 99, 100, 101, 102] = [120, 97, 98] from rfl, find_new, if_neg (by decide)]
  rw [gd, show List.take 3 [(97 : UInt8), 98, 99, 100, 101, 102] = [97, 98, 99] from rfl, find_abc, if_pos (by decide), show List.drop (3 - 1) [(98 : UInt8), 99, 100, 101, 102] = [100, 101, 102] from rfl]
  rw [gd, show List.take 3 [(100 : UInt8), 101, 102] = [100, 101, 102] from rfl, find_def, if_pos (by decide), show List.drop (3 - 1) [(101 : UInt8), 102] = [] from rfl, gd]
  rfl

theorem Tryd.opGuard : Tryd.prog.eqGuardType Tryd.prog.depth 48 = false := by kernel_rfl
theorem eql_data (w : World) : (binOp .eql 48 (.agg #[.string ⟨#[100, 97, 116, 97]⟩, .int .i64 0, .int .i64 0, .string ⟨#[120]⟩]) (.agg #[.string ⟨#[100, 97, 116, 97]⟩, .int .i64 0, .int .i64 0, .string ⟨#[120]⟩])).run Tryd.prog w = .ok (.bool true) w := by kernel_rfl
theorem eql_copy (w : World) : (binOp .eql 48 (.agg #[.string ⟨#[99, 111, 112, 121]⟩, .int .i64 0, .int .i64 2, .string ⟨#[]⟩]) (.agg #[.string ⟨#[99, 111, 112, 121]⟩, .int .i64 0, .int .i64 2, .string ⟨#[]⟩])).run Tryd.prog w = .ok (.bool true) w := by kernel_rfl

set_option maxHeartbeats 1000000 in
set_option maxRecDepth 100000 in
theorem madeFact_ok (e : EV) (w : World) (he : Er2 e w) : Calls Tryd.prog 9 #[] w fun r w' => r = .returned (.bool true) ∧ Below w.heap.size w w' := by
  have HO := hide (fun W => of_ok ⟨#[97, 98, 99, 100, 101, 102]⟩ 3 W (by decide) (by decide) (by decide))
  rw [sig_abcdef] at HO
  have hf : Go.Sign.fault [blk [97, 98, 99], blk [100, 101, 102]] 3 = (0, -1) := by
    rw [← sig_abcdef]
    exact fault_sig _ 3 (by decide) (by decide) (by decide)
  have HM := hide (fun v W (h : RowIn W v [blk [97, 98, 99], blk [100, 101, 102]]) (k : Er2 e W) => make_right v _ 3 ⟨#[120, 97, 98, 99, 100, 101, 102]⟩ e W h (by decide) (by decide) (by rw [show ((3 : Nat) : Int) = 3 from rfl, hf]) k)
  rw [made_x] at HM
  have hE := eql_data
  have hE2 := eql_copy
  have hG := Tryd.opGuard
  have HE := hide he
  clear he hf
  go_enter Tryd.func9, Tryd.ntmps9
  go_wp2_with fail
  refine (HO.out _).mono ?_
  rintro r w1 ⟨v, rfl, hown, hb1⟩
  have hr := RowIn.of_own hown
  have Hr := hide hr
  have Hb1 := hide hb1
  obtain ⟨a, c, rfl, hc⟩ := hr
  clear hown hb1 HO hc
  go_wp2_with fail
  refine (HM.out _ _ Hr.out (HE.out.below Hb1.out)).mono ?_
  rintro r w2 ⟨hm, hb2⟩
  obtain ⟨u, rfl, hown⟩ := hm
  have hr2 := ORow.of_own hown
  have Hb2 := hide (bthen Hb1.out hb2)
  obtain ⟨a2, c2, rfl, hc2⟩ := hr2
  obtain ⟨g, o, rfl, hd⟩ := hc2 (by decide)
  obtain ⟨p0, p1, p2, p3⟩ := hd 0 (by decide)
  obtain ⟨q0, q1, q2, q3⟩ := hd 1 (by decide)
  simp only [List.getElem_cons_zero, List.getElem_cons_succ, Nat.zero_mul, Nat.one_mul, Nat.add_zero] at p0 p1 p2 p3 q0 q1 q2 q3
  simp only [List.length_cons, List.length_nil]
  clear hown hb2 hc2 hd HM
  go_wp2_with fail
  go_ret
  exact ⟨rfl, Hb2.out⟩
end Go.Proofs.YtgogjncamjbajacDoor
