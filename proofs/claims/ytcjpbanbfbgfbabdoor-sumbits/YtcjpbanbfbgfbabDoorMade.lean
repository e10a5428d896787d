/-
  Contracts of bits.TrailingZeros32, and of sum's array of what each bit makes, over this dump.
-/
import Derived.Test.YtcjpbanbfbgfbabDoorDivide
import Derived.Laws.Rows
import Derived.Laws.Tables
namespace Go.Proofs.YtcjpbanbfbgfbabDoor
open Go.RowKit

/-- The library's table in its variable. -/
def Tab (w : World) : Prop := ∀ j, j < 32 → w.cell? ⟨0, j, none⟩ = some (.int .u8 (Lib.deBruijn32tab.getD j 0 : Nat))
theorem Tab.below {w w' : World} (h : Tab w) (hb : Below w.heap.size w w') : Tab w' := fun j hj =>
  (hb.cell (p := ⟨0, j, none⟩) (World.block_lt_of_cell? _ _ (h j hj))).trans (h j hj)

theorem tz_core (x k idx : Nat) (w : World) (hx0 : ((x : Int) == 0) = false)
    (key : bits BinOp.and IntKind.u32 (x : Int) (-(x : Int) % 4294967296) * 125613361 % 4294967296 / 134217728 = (idx : Int))
    (hi : idx < 32) (hk : k < 32) (hcell : w.cell? ⟨0, idx, none⟩ = some (.int .u8 k)) :
    Calls Tryd.prog 19 #[.int .u32 x] w fun e w' => e = .returned (.int .i64 k) ∧ w' = w := by
  go_enter Tryd.func19, Tryd.ntmps19
  go_wp2_with (simp only [key])
  go_ret
  exact ⟨rfl, rfl⟩

theorem tz_key (x a : Nat) (hx : x < 4294967296) (hx0 : x ≠ 0) (hlow : x &&& (4294967296 - x) = a) :
    bits BinOp.and IntKind.u32 (x : Int) (-(x : Int) % 4294967296) * 125613361 % 4294967296 / 134217728 = ((a * 125613361 % 4294967296 / 134217728 : Nat) : Int) := by
  have e1 : -(x : Int) % 4294967296 = ((4294967296 - x : Nat) : Int) := by omega
  rw [e1, u32_and_nat x _ hx (by omega), hlow]
  omega

theorem tz_ok (x : Nat) (w : World) (hx : x < 4294967296) (hx0 : x ≠ 0) (hT : Tab w) :
    Calls Tryd.prog 19 #[.int .u32 x] w fun e w' => e = .returned (.int .i64 (Lib.ctz 32 x : Nat)) ∧ w' = w := by
  obtain ⟨hlow, hk⟩ := Lib.lowest_bit 32 x hx0 hx
  obtain ⟨hi, htab⟩ := Lib.deBruijn32_at _ hk
  have hcell := hT _ hi
  rw [htab] at hcell
  exact tz_core x _ _ w (by simp; omega) (tz_key x _ hx hx0 hlow) hi hk hcell

/-- What each bit makes over k bits, as a value. -/
def tabV (k : Nat) : Array Value := ((List.range 32).map fun i => Value.int .u32 (Go.Crc.shs k (2 ^ i) : Nat)).toArray
theorem tabV_size (k : Nat) : (tabV k).size = 32 := by simp [tabV]
theorem tabV_at (k i : Nat) (h : i < 32) : (tabV k)[i]? = some (.int .u32 (Go.Crc.shs k (2 ^ i) : Nat)) := by simp [tabV, h]
theorem tabV_one (k : Nat) : (tabV k).all (·.oneCell') = true := by
  rw [Array.all_eq_true_iff_forall_mem]
  intro v hv
  simp only [tabV, List.mem_toArray, List.mem_map] at hv
  obtain ⟨i, _, rfl⟩ := hv
  rfl

theorem of_step (k o x : Nat) (hx0 : x ≠ 0) (hx : x < 2 ^ 32) : (o ^^^ Go.Crc.shs k (2 ^ Lib.ctz 32 x)) ^^^ Go.Crc.shs k (x &&& (x - 1)) = o ^^^ Go.Crc.shs k x := by
  rw [Nat.xor_assoc, ← Go.Crc.shs_xor, Nat.xor_comm (2 ^ _), ← (Go.Crc.low_rest x hx0 hx).1]

set_option maxHeartbeats 1000000 in
set_option maxRecDepth 100000 in
theorem of_ok (k c : Nat) (w : World) (hc : c < 4294967296) (hT : Tab w) : Calls Tryd.prog 17 #[.agg (tabV k), .int .u32 c] w fun r w' => r = .returned (.int .u32 (Go.Crc.shs k c : Nat)) ∧ Below w.heap.size w w' := by
  have HA := hide (tabV_at k)
  have hsz := tabV_size k
  have h1 := tabV_one k
  generalize tabV k = tv at *
  go_enter Tryd.func17, Tryd.ntmps17
  go_wp2_with fail
  have HT := hide (hT.below ((Below.refl w.heap.size w).alloc (Nat.le_refl _) (Obj.cells tv 39)))
  go_loop [1, 5] (fun t1 t5 => ∃ x o : Nat, t1 = .int .u32 x ∧ t5 = .int .u32 o ∧ x < 2 ^ 32 ∧ o < 2 ^ 32 ∧ Hid (o ^^^ Go.Crc.shs k x = Go.Crc.shs k c)) (fun t1 _ => (intOf t1).toNat)
  case atStart => exact ⟨c, 0, rfl, rfl, hc, by omega, Nat.zero_xor _⟩
  case round =>
    obtain ⟨x, o, rfl, rfl, hx, ho, He⟩ := hrel
    by_cases h0 : x = 0
    · subst h0
      go_wp2_with fail
      go_ret
      have h := He.out
      rw [Go.Crc.shs_zero, Nat.xor_zero] at h
      exact ⟨ret_u32 (by rw [h]), (Below.refl _ _).alloc (Nat.le_refl _) _⟩
    · have h0' : ((x : Int) == 0) = false := by simp; omega
      obtain ⟨hlr, hlt, hk⟩ := Go.Crc.low_rest x h0 hx
      have HZ := hide (tz_ok x _ hx h0 HT.out)
      have Hs := hide (of_step k o x h0 hx)
      have hv := Go.Crc.shs_lt k (2 ^ Lib.ctz 32 x) (Nat.pow_lt_pow_right (by omega) hk)
      have hcell : (w.alloc (Obj.cells tv 39)).cell? ⟨w.heap.size, Lib.ctz 32 x, none⟩ = some (.int .u32 (Go.Crc.shs k (2 ^ Lib.ctz 32 x) : Nat)) := by
        simpa using HA.out _ hk
      generalize Lib.ctz 32 x = z at *
      generalize Go.Crc.shs k (2 ^ z) = v at *
      have hov : o ^^^ v < 2 ^ 32 := Nat.xor_lt_two_pow ho hv
      have hxe : bits .xor .u32 (o : Int) (v : Int) = ((o ^^^ v : Nat) : Int) := u32_xor_nat _ _ ho hv
      have hxl : x &&& (x - 1) < 2 ^ 32 := by omega
      have hxa : bits .and .u32 (x : Int) ((x : Int) - 1) = ((x &&& (x - 1) : Nat) : Int) := by
        rw [show (x : Int) - 1 = ((x - 1 : Nat) : Int) by omega, u32_and_nat _ _ hx (by omega)]
      clear hlr
      go_wp2_with fail
      refine HZ.out.mono ?_
      rintro e w1 ⟨rfl, rfl⟩
      go_wp2_with fail
      go_round
      case rel => exact ⟨x &&& (x - 1), o ^^^ v, rfl, rfl, hxl, hov, Hs.out.trans He.out⟩
      case measure => simp [intOf]; omega
end Go.Proofs.YtcjpbanbfbgfbabDoor
