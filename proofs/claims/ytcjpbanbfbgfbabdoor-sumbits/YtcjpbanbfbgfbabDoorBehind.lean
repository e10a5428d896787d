/-
  Contracts of sum.behind and sum.Join over this dump.
-/
import Derived.Test.YtcjpbanbfbgfbabDoorTables
namespace Go.Proofs.YtcjpbanbfbgfbabDoor
open Go.RowKit

theorem half_odd (k q x : Nat) (h : q % 2 = 1) : Go.Crc.shs ((k + k) * (q / 2)) (Go.Crc.shs k x) = Go.Crc.shs (k * q) x := by
  rw [← Go.Crc.shs_add]
  congr 1
  rw [Nat.add_mul, ← Nat.mul_add]
  conv => rhs; rw [show q = (q / 2 + q / 2) + 1 by omega, Nat.mul_add, Nat.mul_one]
theorem half_even (k q : Nat) (h : q % 2 = 0) : (k + k) * (q / 2) = k * q := by
  rw [Nat.add_mul, ← Nat.mul_add]
  conv => rhs; rw [show q = (q / 2 + q / 2) by omega]

/-- A new array, filled. -/
theorem arr_new (w : World) (p : Nat) (c z d : Array Value) (hz : z.size = 32) (hd : d.size = 32) : Arr w.heap.size (((w.setRow p c).alloc (.cells z 39)).setRow w.heap.size d) d :=
  (Arr.fresh' (w.setRow p c) w.heap.size z (by simp) hz).row hd

set_option maxHeartbeats 1000000 in
set_option maxRecDepth 100000 in
theorem behind_ok (c : Nat) (n : Int) (w : World) (hc : c < 4294967296) (hn : n < 9223372036854775808) (hT : Tab w) : Calls Tryd.prog 15 #[.int .u32 c, .int .i64 n] w fun r w' => r = .returned (.int .u32 (Go.Crc.shs (8 * n.toNat) c : Nat)) ∧ Below w.heap.size w w' := by
  have H1 := hide (fun W => oneByte_ok W)
  have HO := hide (fun k c W hc hW => of_ok k c W hc hW)
  have HW := hide (fun k W hW => twice_ok k W hW)
  have hT' := hide hT
  clear hT
  go_enter Tryd.func15, Tryd.ntmps15
  go_wp2_with fail
  refine (H1.out _).mono ?_
  rintro e w0 ⟨rfl, hb0⟩
  have Hb0 := hide hb0
  clear hb0
  go_wp2_with (first
    | (refine wpList_store_row rfl 39 (.tmp 5) (.tmp 6) rfl w0.heap.size (tabV 8) rfl rfl _ _ (Arr.fresh w0 _ rfl).1 (made_at (tabV_size 8)) (tabV_size 8).symm (tabV_one 8) ?_; dsimp only [Act.put]))
  go_loopw [0, 1, 5] (fun t0 t1 t5 wr => ∃ (x k p : Nat) (m : Int), t0 = .int .u32 x ∧ t1 = .int .i64 m ∧ t5 = .pointer (some ⟨p, 0, none⟩) ∧ x < 2 ^ 32 ∧ m < 9223372036854775808 ∧ w.heap.size ≤ p ∧ Hid (Arr p wr (tabV k)) ∧ Hid (Go.Crc.shs (k * m.toNat) x = Go.Crc.shs (8 * n.toNat) c) ∧ Hid (Below w.heap.size w wr)) (fun _ t1 _ _ => (intOf t1).toNat)
  case atStart =>
    exact ⟨c, 8, w0.heap.size, n, rfl, rfl, rfl, hc, hn, Hb0.out.size, (Arr.fresh w0 _ rfl).row (tabV_size 8), rfl, below_row (Hb0.out.alloc Hb0.out.size _) Hb0.out.size _⟩
  case round =>
    obtain ⟨x, k, p, m, rfl, rfl, rfl, hx, hm, hp, HA, He, Hb⟩ := hrel
    by_cases hpos : 0 < m
    · obtain ⟨q, rfl⟩ : ∃ q : Nat, m = q := ⟨m.toNat, by omega⟩
      have hq0 : 0 < q := by omega
      have hwp : w.heap.size ≤ wr.heap.size := Hb.out.size
      have hT1 := hide (hT'.out.below Hb.out)
      rcases Nat.mod_two_eq_zero_or_one q with hq | hq
      · have hand : bits .and .i64 (q : Int) 1 = 0 := by
          rw [show (1 : Int) = ((1 : Nat) : Int) from rfl, i64_and_nat q 1 (by omega) (by omega), nat_mask1, hq]; rfl
        have HC2 := hide (HW.out k wr hT1.out)
        have HE := hide (half_even k q hq)
        clear hq
        go_wp2_with (first
          | (refine wpList_load_row rfl 39 (.tmp 5) rfl p rfl _ _ _ _ HA.out.1 Tryd.underlying39 rfl (made_at HA.out.2) ?_))
        refine HC2.out.mono ?_
        rintro e w2 ⟨rfl, hb2⟩
        have Hb2 := hide hb2
        clear hb2
        have HA2 := hide (HA.out.below Hb2.out HA.out.lt)
        have HA3 := hide (HA2.out.row (tabV_size (k + k)))
        have HB := hide (bthen' Hb.out Hb2.out Hb.out.size)
        go_wp2_with (first
          | (refine wpList_store_row rfl 39 (.tmp 5) (.tmp 18) rfl p (tabV (k + k)) rfl rfl _ _ HA2.out.1 (made_at (tabV_size _)) ((tabV_size _).trans (tabV_size _).symm) (tabV_one _) ?_; dsimp only [Act.put])
          | (refine wpList_load_row rfl 39 (.tmp 5) rfl p rfl _ _ _ _ HA3.out.1 Tryd.underlying39 rfl (made_at (tabV_size _)) ?_)
          | (refine wpList_store_row rfl 39 (.tmp 5) (.tmp 19) rfl w2.heap.size (tabV (k + k)) rfl rfl _ _ (Arr.fresh' (w2.setRow p (tabV (k + k))) w2.heap.size _ (by simp) rfl).1 (made_at (tabV_size _)) (tabV_size _).symm (tabV_one _) ?_; dsimp only [Act.put]))
        go_roundw
        case rel =>
          refine ⟨x, k + k, w2.heap.size, ((q / 2 : Nat) : Int), by rfl, by first | rfl | (congr 1), rfl, hx, by omega, Nat.le_trans Hb.out.size Hb2.out.size, arr_new w2 p _ _ _ rfl (tabV_size _), ?_, below_row ((below_row HB.out hp _).alloc (by simp; exact HB.out.size) _) HB.out.size _⟩
          have h := He.out
          rw [Int.toNat_natCast] at h ⊢
          exact (congrArg (fun j => Go.Crc.shs j x) HE.out).trans h
        case measure => simp [intOf]; omega
      · have hand : bits .and .i64 (q : Int) 1 = 1 := by
          rw [show (1 : Int) = ((1 : Nat) : Int) from rfl, i64_and_nat q 1 (by omega) (by omega), nat_mask1, hq]
        have HC1 := hide (HO.out k x wr hx hT1.out)
        have HE := hide (half_odd k q x hq)
        clear hq
        go_wp2_with (first
          | (refine wpList_load_row rfl 39 (.tmp 5) rfl p rfl _ _ _ _ HA.out.1 Tryd.underlying39 rfl (made_at HA.out.2) ?_))
        refine HC1.out.mono ?_
        rintro e w1 ⟨rfl, hb1⟩
        have Hb1 := hide hb1
        clear hb1
        have HA1 := hide (HA.out.below Hb1.out HA.out.lt)
        have HC2 := hide (HW.out k w1 (hT1.out.below Hb1.out))
        go_wp2_with (first
          | (refine wpList_load_row rfl 39 (.tmp 5) rfl p rfl _ _ _ _ HA1.out.1 Tryd.underlying39 rfl (made_at HA1.out.2) ?_))
        refine HC2.out.mono ?_
        rintro e w2 ⟨rfl, hb2⟩
        have Hb2 := hide hb2
        clear hb2
        have HA2 := hide (HA1.out.below Hb2.out HA1.out.lt)
        have HA3 := hide (HA2.out.row (tabV_size (k + k)))
        have HB := hide (bthen' (bthen' Hb.out Hb1.out Hb.out.size) Hb2.out (Nat.le_trans Hb.out.size Hb1.out.size))
        go_wp2_with (first
          | (refine wpList_store_row rfl 39 (.tmp 5) (.tmp 18) rfl p (tabV (k + k)) rfl rfl _ _ HA2.out.1 (made_at (tabV_size _)) ((tabV_size _).trans (tabV_size _).symm) (tabV_one _) ?_; dsimp only [Act.put])
          | (refine wpList_load_row rfl 39 (.tmp 5) rfl p rfl _ _ _ _ HA3.out.1 Tryd.underlying39 rfl (made_at (tabV_size _)) ?_)
          | (refine wpList_store_row rfl 39 (.tmp 5) (.tmp 19) rfl w2.heap.size (tabV (k + k)) rfl rfl _ _ (Arr.fresh' (w2.setRow p (tabV (k + k))) w2.heap.size _ (by simp) rfl).1 (made_at (tabV_size _)) (tabV_size _).symm (tabV_one _) ?_; dsimp only [Act.put]))
        go_roundw
        case rel =>
          refine ⟨Go.Crc.shs k x, k + k, w2.heap.size, ((q / 2 : Nat) : Int), by rfl, by first | rfl | (congr 1), rfl, Go.Crc.shs_lt k x hx, by omega, Nat.le_trans Hb.out.size (Nat.le_trans Hb1.out.size Hb2.out.size), arr_new w2 p _ _ _ rfl (tabV_size _), ?_, below_row ((below_row HB.out hp _).alloc (by simp; exact HB.out.size) _) HB.out.size _⟩
          have h := He.out
          rw [Int.toNat_natCast] at h ⊢
          exact HE.out.trans h
        case measure => simp [intOf]; omega
    · have hle : m ≤ 0 := by omega
      have hz : m.toNat = 0 := by omega
      have h := He.out
      rw [hz, Nat.mul_zero] at h
      have He' := hide h
      clear h hz He hpos
      go_wp2_with fail
      go_ret
      exact ⟨ret_u32 (congrArg Int.ofNat He'.out), Hb.out⟩

set_option maxHeartbeats 1000000 in
theorem join_ok (a b : Nat) (n : Int) (w : World) (ha : a < 4294967296) (hb : b < 4294967296) (hn : n < 9223372036854775808) (hT : Tab w) : Calls Tryd.prog 11 #[.int .u32 a, .int .u32 b, .int .i64 n] w fun r w' => r = .returned (.int .u32 (Go.Crc.shs (8 * n.toNat) a ^^^ b : Nat)) ∧ Below w.heap.size w w' := by
  have H := hide (behind_ok a n w ha hn hT)
  have hx := u32_xor_nat _ _ (Go.Crc.shs_lt (8 * n.toNat) a ha) hb
  have hz : Go.Crc.shs (8 * n.toNat) a ^^^ b < 2 ^ 32 := Nat.xor_lt_two_pow (Go.Crc.shs_lt (8 * n.toNat) a ha) hb
  generalize Go.Crc.shs (8 * n.toNat) a ^^^ b = z at *
  generalize Go.Crc.shs (8 * n.toNat) a = y at *
  clear hT
  go_enter Tryd.func11, Tryd.ntmps11
  go_wp2_with fail
  refine H.out.mono ?_
  rintro e w1 ⟨rfl, hb1⟩
  have Hb1 := hide hb1
  clear hb1
  go_wp2_with fail
  go_ret
  exact ⟨rfl, Hb1.out⟩
end Go.Proofs.YtcjpbanbfbgfbabDoor
