/-
  The walk of the law NumTells over the contracts: a text of one byte more than there may be.
-/
import Derived.Test.YtgcpljgdeoeppaaDoorTellsWalk
namespace Go.Proofs.YtgcpljgdeoeppaaDoor
open Go.RowKit

set_option maxHeartbeats 2000000 in
set_option maxRecDepth 100000 in
theorem tells_big (n : Int) (s : ByteArray) (a : Nat → Addr) (w : World) (h : Sents w a) (hs : s.size = 20001) :
    Calls Tryd.prog 4 #[.int .i64 n, .string s] w fun r w' => r = .returned (.bool true) ∧ Below w.heap.size w w' := by
  have H := hide h
  clear h
  have hs' : (s.size : Int) ≤ 20001 := by omega
  have hs2 : (20001 : Int) ≤ s.size := by omega
  have b1 : decide ((300 : Int) < s.size) = true := by simp; omega
  have b2 : ((s.size : Int) != 20001) = false := by simp; omega
  have HS := hide hs
  clear hs
  go_enter Tryd.func4, Tryd.ntmps4
  go_wp2_with fail
  refine (numbered_ok _ _ _ _ _ H.out.errs).mono ?_
  rintro e w1 ⟨rfl, hb1⟩
  have H1 := hide (H.out.below hb1)
  have Hb1 := hide hb1
  clear hb1 H
  go_wp2_with fail
  refine (put_any n a _ H1.out).mono ?_
  rintro e w2 ⟨rfl, hb2⟩
  have H2 := hide (H1.out.below hb2)
  have Hb2 := hide (bthen Hb1.out hb2)
  clear hb2 H1 Hb1
  go_upto_region 5 with fail
  go_cut [38] (fun v38 wc => v38 = .bool (decide (n < 0 ∨ 1099511627776 < n)) ∧ wc = w2)
  case first =>
    by_cases h0 : n < 0
    · have c0 : decide (n < 0) = true := by simp; omega
      go_wp2_with fail
      go_meet
      case rel => exact ⟨by simp [h0], rfl⟩
    · have c0 : decide (n < 0) = false := by simp; omega
      go_wp2_with fail
      go_meet
      case rel =>
        have h0' : ¬ n < 0 := by omega
        exact ⟨by simp [h0'], rfl⟩
  case rest =>
    obtain ⟨rfl, rfl⟩ := hcut
    go_upto_if 38 with fail
    go_cut [0, 1, 6, 7] (fun v0 v1 _ _ wd => v0 = .int .i64 n ∧ v1 = .string s ∧ Hid (Sents wd a) ∧ Hid (Below w.heap.size w wd))
    case first =>
      by_cases hbad : n < 0 ∨ 1099511627776 < n
      · have hd : decide (n < 0 ∨ 1099511627776 < n) = true := by simp [hbad]
        have hS : putS n = ⟨#[]⟩ := by unfold putS; rw [if_pos hbad]; rfl
        have hE : putE n a = .iface 55 (.pointer (some (a 1))) := by unfold putE; rw [if_pos hbad]
        simp only [hS, hE, hd]
        clear hbad hS hE hd
        go_wp2_with fail
        refine (coded_sent 1 (by omega) a 2 _ H2.out).mono ?_
        rintro e w3 ⟨rfl, hb3⟩
        have H3 := hide (H2.out.below hb3)
        have Hb3 := hide (bthen Hb2.out hb3)
        clear hb3 H2 Hb2
        rw [show ((2 : Int) == ((1 : Nat) : Int) + 1) = true from rfl]
        go_wp2_with fail
        go_meet
        case rel => exact ⟨rfl, rfl, H3.out, Hb3.out⟩
      · have hd : decide (n < 0 ∨ 1099511627776 < n) = false := by simp; omega
        have hS : putS n = str (Go.Num.enc n.toNat) := by unfold putS; rw [if_neg hbad]
        have hE : putE n a = .nilIface := by unfold putE; rw [if_neg hbad]
        simp only [hS, hE, hd]
        obtain ⟨m, rfl⟩ := Int.eq_ofNat_of_zero_le (show 0 ≤ n by omega)
        rw [Int.toNat_natCast]
        have hm : m ≤ 1099511627776 := by omega
        clear hbad hS hE hd
        go_wp2_with fail
        refine (numText_ok m _ hm).mono ?_
        rintro e w3 ⟨rfl, hb3⟩
        have H3 := hide (H2.out.below hb3)
        have Hb3 := hide (bthen Hb2.out hb3)
        clear hb3 H2 Hb2
        generalize str (Go.Num.enc m) = A at *
        go_wp2_with fail
        go_meet
        case rel => exact ⟨rfl, rfl, H3.out, Hb3.out⟩
    case rest =>
      obtain ⟨rfl, rfl, H3, Hb3⟩ := hcut
      clear H2 Hb2
      go_wp2_with fail
      refine (putText_err s _ _ _ (by omega) (by omega) H3.out.errs.bound).mono ?_
      rintro e w4 ⟨rfl, hb4⟩
      have H4 := hide (H3.out.below hb4)
      have Hb4 := hide (bthen Hb3.out hb4)
      clear hb4 H3 Hb3
      go_wp2_with fail
      refine (coded_sent 1 (by omega) a 2 _ H4.out).mono ?_
      rintro e w5 ⟨rfl, hb5⟩
      have H5 := hide (H4.out.below hb5)
      have Hb5 := hide (bthen Hb4.out hb5)
      clear hb5 H4 Hb4
      rw [show ((2 : Int) == ((1 : Nat) : Int) + 1) = true from rfl]
      rw [show ByteArray.empty = ⟨#[]⟩ from rfl]
      go_wp2_with fail
      refine (get_tells s a _ (by omega) H5.out).mono ?_
      rintro e w6 ⟨⟨R, E, rfl, hT⟩, hb6⟩
      have H6 := hide (H5.out.below hb6)
      have Hb6 := hide (bthen Hb5.out hb6)
      clear hb6 H5 Hb5
      go_wp2_with fail
      refine (numOf_zero s _ (by omega)).mono ?_
      rintro e w7 ⟨rfl, rfl⟩
      have hbd := numOfOut_bd s 0 (Nat.zero_le _)
      generalize numOfOut s 0 = x at *
      obtain ⟨m, k, c⟩ := x
      simp only at hT hbd ⊢
      have hk : (k : Int) ≤ s.size := by omega
      have hm : (m : Int) ≤ 1099511627776 := by omega
      clear hbd
      rcases hT with ⟨rfl, rfl, rfl⟩ | ⟨i, hi, rfl, rfl, rfl⟩
      · go_wp2_with fail
        refine (coded_nil _ _).mono ?_
        rintro e w7 ⟨rfl, rfl⟩
        rw [show ((0 : Int) == 0) = true from rfl]
        go_wp2_with fail
        refine (getText_tells s a _ (by omega) H6.out).mono ?_
        rintro e w8 ⟨⟨R2, E2, rfl, hT2⟩, hb8⟩
        have H8 := hide (H6.out.below hb8)
        have Hb8 := hide (bthen Hb6.out hb8)
        clear hb8 H6 Hb6
        go_wp2_with fail
        refine (textOf_zero s _ (by omega)).mono ?_
        rintro e w9 ⟨rfl, rfl⟩
        have hbd2 := textOfOut_bd s
        generalize textOfOut s 0 = x2 at *
        obtain ⟨m2, k2, c2⟩ := x2
        simp only at hT2 hbd2 ⊢
        have hk2 : (k2 : Int) ≤ s.size := by omega
        clear hbd2
        rcases hT2 with ⟨rfl, rfl, rfl⟩ | ⟨i2, hi2, rfl, rfl, rfl⟩
        · go_wp2_with fail
          refine (coded_nil _ _).mono ?_
          rintro e wa ⟨rfl, rfl⟩
          rw [show ((0 : Int) == 0) = true from rfl]
          go_wp2_with fail
          go_ret
          exact ⟨by simp, Hb8.out⟩
        · have hi2' : (0 : Int) < (i2 : Int) + 1 := by omega
          go_wp2_with fail
          refine (coded_sent i2 (by omega) a _ _ H8.out).mono ?_
          rintro e wa ⟨rfl, hba⟩
          have Hba := hide (bthen Hb8.out hba)
          clear hba
          rw [show ((i2 : Int) + 1 == (i2 : Int) + 1) = true by simp]
          go_wp2_with fail
          go_ret
          exact ⟨by simp, Hba.out⟩
      · have hi' : (0 : Int) < (i : Int) + 1 := by omega
        have hi0 : (((i : Int) + 1) == 0) = false := by simp; omega
        go_wp2_with fail
        refine (coded_sent i (by omega) a _ _ H6.out).mono ?_
        rintro e w7 ⟨rfl, hb7⟩
        have H7 := hide (H6.out.below hb7)
        have Hb7 := hide (bthen Hb6.out hb7)
        clear hb7 H6 Hb6
        rw [show ((i : Int) + 1 == (i : Int) + 1) = true by simp]
        go_wp2_with fail
        refine (getText_tells s a _ (by omega) H7.out).mono ?_
        rintro e w8 ⟨⟨R2, E2, rfl, hT2⟩, hb8⟩
        have H8 := hide (H7.out.below hb8)
        have Hb8 := hide (bthen Hb7.out hb8)
        clear hb8 H7 Hb7
        go_wp2_with fail
        refine (textOf_zero s _ (by omega)).mono ?_
        rintro e w9 ⟨rfl, rfl⟩
        have hbd2 := textOfOut_bd s
        generalize textOfOut s 0 = x2 at *
        obtain ⟨m2, k2, c2⟩ := x2
        simp only at hT2 hbd2 ⊢
        have hk2 : (k2 : Int) ≤ s.size := by omega
        clear hbd2
        rcases hT2 with ⟨rfl, rfl, rfl⟩ | ⟨i2, hi2, rfl, rfl, rfl⟩
        · go_wp2_with fail
          refine (coded_nil _ _).mono ?_
          rintro e wa ⟨rfl, rfl⟩
          rw [show ((0 : Int) == 0) = true from rfl]
          go_wp2_with fail
          go_ret
          exact ⟨by simp, Hb8.out⟩
        · have hi2' : (0 : Int) < (i2 : Int) + 1 := by omega
          go_wp2_with fail
          refine (coded_sent i2 (by omega) a _ _ H8.out).mono ?_
          rintro e wa ⟨rfl, hba⟩
          have Hba := hide (bthen Hb8.out hba)
          clear hba
          rw [show ((i2 : Int) + 1 == (i2 : Int) + 1) = true by simp]
          go_wp2_with fail
          go_ret
          exact ⟨by simp, Hba.out⟩
end Go.Proofs.YtgcpljgdeoeppaaDoor
