/-
  The closed fact 'signed' over this dump.
-/
import Derived.Test.YtgcpljgdeoeppabDoorFind
namespace Go.Proofs.YtgcpljgdeoeppabDoor
open Go.RowKit
open Go.Sign (Blk)

theorem sig_abcde : sigL (⟨#[97, 98, 99, 100, 101]⟩ : ByteArray).data.toList 3 = [blk [97, 98, 99], blk [100, 101]] := rfl

set_option maxHeartbeats 1000000 in
set_option maxRecDepth 100000 in
theorem signed_ok (w : World) : Calls Tryd.prog 15 #[] w fun r w' => r = .returned (.bool true) ∧ Below w.heap.size w w' := by
  have HO := hide (fun W => of_ok ⟨#[97, 98, 99, 100, 101]⟩ 3 W (by decide) (by decide) (by decide))
  rw [sig_abcde] at HO
  have HF := hide (fun v W (h : RowIn W v [blk [97, 98, 99], blk [100, 101]]) => find_ok v _ ⟨#[100, 101]⟩ W h (by decide) (by decide))
  have e1 : findOut [blk [97, 98, 99], blk [100, 101]] (blk (⟨#[100, 101]⟩ : ByteArray).data.toList) = 1 := by
    unfold findOut
    rw [findFrom, if_neg (by intro h; have := congrArg Blk.n h; revert this; decide), findFrom, if_pos rfl]
    rfl
  rw [e1] at HF
  clear e1
  go_enter Tryd.func15, Tryd.ntmps15
  go_wp2_with fail
  refine (HO.out _).mono ?_
  rintro r w1 ⟨v, rfl, hown, hb1⟩
  have hr := RowIn.of_own hown
  have Hr := hide hr
  have Hb1 := hide hb1
  obtain ⟨a, c, rfl, hc⟩ := hr
  obtain ⟨g, o, rfl, hd⟩ := hc (by decide)
  have c0 := (hd 0 (by decide)).1
  have c1 := (hd 0 (by decide)).2.1
  have c3 := (hd 1 (by decide)).1
  have k0 : ([blk [97, 98, 99], blk [100, 101]][0]).n = 3 := rfl
  have k1 : ([blk [97, 98, 99], blk [100, 101]][0]).weak = 38404390 := by decide
  have k3 : ([blk [97, 98, 99], blk [100, 101]][1]).n = 2 := rfl
  rw [k0] at c0
  rw [k1] at c1
  rw [k3] at c3
  rw [Nat.zero_mul, Nat.add_zero] at c0 c1
  rw [Nat.one_mul] at c3
  rw [show [blk [97, 98, 99], blk [100, 101]].length = 2 from rfl] at Hr ⊢
  clear hown hb1 HO k0 k1 k3 hc hd
  go_wp2_with fail
  refine (HF.out _ _ Hr.out).mono ?_
  rintro r w2 ⟨rfl, hb2⟩
  have Hb2 := hide (bthen Hb1.out hb2)
  clear hb2
  go_wp2
  go_ret
  exact ⟨rfl, Hb2.out⟩
end Go.Proofs.YtgcpljgdeoeppabDoor
