/-
  Contracts of weak.Sum over this dump.
  Plain mathematics of CRC-32: 'sh' (a bit), 'shs' (many bits), 'run' (a text), 'crc' (what More answers); they are linear over the exclusive or; what is joined; a table of what each bit makes. No program, no walk.
  Contracts of sum.divide, sum.More, sum.Sum over this dump; what the model spells for the bits of numbers.
  Contracts of package sign's small functions over this dump: Size, isSize, blockOf. A block as three cells.
  Contract of sign.Of over this dump.
-/
import Derived.Test.YtcenohaadggdiacDoorJoin04
import Derived.Deep.RegionWith
import Derived.Lib.TrailingZeros
import Derived.Test.YtcenohaadggdiacDoorJoin01
import Derived.Laws.BitsAllLaws
import Derived.Test.YtcenohaadggdiacDoorJoin02
import Derived.OwnWalk
import Derived.WideShapes
import Derived.Deep.QuietTactic
import Derived.BigQuiet
namespace Go.Proofs.YtcenohaadggdiacDoor
open Go.RowKit

set_option maxHeartbeats 1000000 in
set_option maxRecDepth 100000 in
theorem wsumOf_ok (s : ByteArray) (w : World) (hs : s.size ≤ 1000000) : Calls Tryd.prog 45 #[.string s] w fun r w' => r = .returned (hv (hA s.data.toList) (hB s.data.toList)) ∧ Below w.heap.size w w' := by
  have hs' : (s.size : Int) ≤ 1000000 := by omega
  go_enter Tryd.func45, Tryd.ntmps45
  go_wp2_with fail
  go_loopw [4] (fun t wr => ∃ i : Nat, t = .int .i64 i ∧ i ≤ s.size ∧ Hid (HvAt (w.heap.size + 1) wr (hA (s.data.toList.take i)) (hB (s.data.toList.take i))) ∧ Hid (HvAt w.heap.size wr 0 0) ∧ Hid (Below w.heap.size w wr)) (fun t _ => s.size - (intOf t).toNat)
  case atStart =>
    refine ⟨0, rfl, by omega, ?_, ?_, ?_⟩
    · have h := HvAt.fresh (w.alloc (.cells #[.int .i64 0, .int .i64 0] 84)) 0 0 84
      rw [show (w.alloc (.cells #[.int .i64 0, .int .i64 0] 84)).heap.size = w.heap.size + 1 by simp] at h
      exact h
    · exact (HvAt.fresh w 0 0 84).below ((Below.refl _ _).alloc (Nat.le_refl _) _) (by simp)
    · exact ((Below.refl _ _).alloc (Nat.le_refl _) _).alloc (by simp) _
  case round =>
    obtain ⟨i, rfl, hi, Hh, Hr, Hb⟩ := hrel
    by_cases hlt : i < s.size
    · have hlt' : (i : Int) < s.size := by omega
      have hx := byte_lt s[i]
      have HC := hide (fun W => hadd_ok (hA (s.data.toList.take i)) (hB (s.data.toList.take i)) s[i].toNat W (hA_nonneg _) (hA_lt _) (hB_nonneg _) (hB_lt _) (by omega) (by omega))
      have ea := hA_snoc (s.data.toList.take i) s[i]
      have eb := hB_snoc (s.data.toList.take i) s[i]
      rw [← takeL s i hlt] at ea eb
      have E := hide (And.intro ea (show (hB (s.data.toList.take i) + (hA (s.data.toList.take i) + s[i].toNat)) % 65536 = hB (s.data.toList.take (i + 1)) by rw [← eb, ← ea]; omega))
      clear ea eb hx
      generalize hA (s.data.toList.take i) = a at *
      generalize hB (s.data.toList.take i) = b at *
      obtain ⟨c0, c1, f0, f1, lt⟩ := Hh.out
      unfold hv at HC
      go_wp2_with fail
      go_region_with (go_at_call 69; refine (HC.out _).mono ?_; rintro e w2 ⟨rfl, hb2⟩; have Hb2 := hide hb2; clear hb2; obtain ⟨k0, k1, g0, g1, klt⟩ := Hh.out.drew.below Hb2.out lt)
      all_goals rw [E.out.1, E.out.2]
      all_goals go_wp2_with fail
      all_goals
        go_roundw
        case rel =>
          refine ⟨i + 1, by go_num, by omega, ?_, ?_, ?_⟩
          · exact (Hh.out.drew.below Hb2.out lt).set _ _
          · exact ((Hr.out.drew.below Hb2.out (Nat.lt_trans (by simp) lt)).below (((Below.refl (w.heap.size + 1) _).setCell (by simp) _).setCell (by simp) _) (by simp))
          · exact ((Hb.out.drew.trans (Hb2.out.mono (Nat.le_trans (by simp) (Nat.le_of_lt lt)))).setCell (by simp) _).setCell (by simp) _
        case measure => simp [intOf]; omega
    · have hle : (s.size : Int) ≤ i := by omega
      obtain rfl : i = s.size := by omega
      rw [← lenL s, List.take_length] at Hh
      obtain ⟨c0, c1, f0, f1, lt⟩ := Hh.out
      obtain ⟨r0, r1, q0, q1, _⟩ := Hr.out
      go_wp2_with fail
      (try simp only [Exit.inBlock, Exit.then])
      refine bodyPost_ret (v := hv (hA s.data.toList) (hB s.data.toList)) ?_ rfl ⟨rfl, (Hb.out.setCell (by simp) _).setCell (by simp) _⟩
      obtain ⟨s0, s1, _, _, _⟩ := Hr.out.set (hA s.data.toList) (hB s.data.toList)
      simp only [results, show Tryd.f45.results = #[.cell 2 84] from rfl]
      go_simp
      rfl

/-- The sum of a text. -/
def wk (l : List UInt8) : Int := hA l + 65536 * hB l

theorem wk_weak (l : List UInt8) : wk l = Go.Weak.weak l := by unfold wk hA hB Go.Weak.weak; omega

theorem wk_bounds (l : List UInt8) : 0 ≤ wk l ∧ wk l < 4294967296 := by
  have := hA_nonneg l; have := hA_lt l; have := hB_nonneg l; have := hB_lt l
  unfold wk; omega

set_option maxHeartbeats 1000000 in
set_option maxRecDepth 100000 in
theorem wSum_ok (s : ByteArray) (w : World) (hs : s.size ≤ 1000000) : Calls Tryd.prog 28 #[.string s] w fun r w' => r = .returned (.int .i64 (wk s.data.toList)) ∧ Below w.heap.size w w' := by
  have H1 := hide (fun W => wsumOf_ok s W hs)
  have H2 := hide (fun W => hwhole_ok (hA s.data.toList) (hB s.data.toList) W (hA_nonneg _) (hA_lt _) (hB_nonneg _) (hB_lt _))
  unfold wk
  unfold hv at H1 H2
  generalize hA s.data.toList = a at *
  generalize hB s.data.toList = b at *
  go_enter Tryd.func28, Tryd.ntmps28
  go_wp2_with fail
  refine (H1.out _).mono ?_
  rintro e w1 ⟨rfl, hb1⟩
  have Hb1 := hide hb1
  clear hb1
  go_wp2_with fail
  refine (H2.out _).mono ?_
  rintro e w2 ⟨rfl, hb2⟩
  have Hb2 := hide (bthen Hb1.out hb2)
  clear hb2 Hb1
  go_wp2_with fail
  go_ret
  exact ⟨rfl, Hb2.out⟩
end Go.Proofs.YtcenohaadggdiacDoor

namespace Go.Crc

def sh (c : Nat) : Nat := c / 2 ^^^ 3988292384 * (c % 2)
def shs : Nat → Nat → Nat
  | 0, c => c
  | k + 1, c => sh (shs k c)
def run (c : Nat) : List UInt8 → Nat
  | [] => c
  | b :: r => run (shs 8 (c ^^^ b.toNat)) r
def ones : Nat := 4294967295
def crc (c : Nat) (l : List UInt8) : Nat := run (c ^^^ ones) l ^^^ ones

theorem xor_mod2 (a b : Nat) : (a ^^^ b) % 2 = (a + b) % 2 := by
  have h := Nat.testBit_xor a b 0
  rw [Nat.testBit_zero, Nat.testBit_zero, Nat.testBit_zero] at h
  rcases Nat.mod_two_eq_zero_or_one (a ^^^ b) with e | e <;> rcases Nat.mod_two_eq_zero_or_one a with ha | ha <;> rcases Nat.mod_two_eq_zero_or_one b with hb | hb <;> simp [e, ha, hb] at h <;> omega

theorem xor_ac (a b c d : Nat) : (a ^^^ b) ^^^ (c ^^^ d) = (a ^^^ c) ^^^ (b ^^^ d) := by
  rw [Nat.xor_assoc, ← Nat.xor_assoc b c d, Nat.xor_comm b c, Nat.xor_assoc c b d, ← Nat.xor_assoc]
theorem sh_xor (a b : Nat) : sh (a ^^^ b) = sh a ^^^ sh b := by
  unfold sh
  rw [Nat.xor_div_two, xor_ac, xor_mod2]
  congr 1
  rcases Nat.mod_two_eq_zero_or_one a with ha | ha <;> rcases Nat.mod_two_eq_zero_or_one b with hb | hb <;> simp [Nat.add_mod, ha, hb]
theorem sh_zero : sh 0 = 0 := rfl
theorem sh_lt (c : Nat) (h : c < 2 ^ 32) : sh c < 2 ^ 32 := by
  unfold sh
  refine Nat.xor_lt_two_pow (by omega) ?_
  have := Nat.mod_two_eq_zero_or_one c
  rcases this with e | e <;> rw [e] <;> decide
theorem sh_ker (c : Nat) (h : c < 2 ^ 32) (e : sh c = 0) : c = 0 := by
  unfold sh at e
  have e' : c / 2 = 3988292384 * (c % 2) := by
    have h := congrArg (· ^^^ 3988292384 * (c % 2)) e
    simp only [Nat.xor_assoc, Nat.xor_self, Nat.xor_zero, Nat.zero_xor] at h
    exact h
  omega

theorem shs_xor (k a b : Nat) : shs k (a ^^^ b) = shs k a ^^^ shs k b := by
  induction k with
  | zero => rfl
  | succ k ih => rw [shs, shs, shs, ih, sh_xor]
theorem shs_zero (k : Nat) : shs k 0 = 0 := by
  induction k with
  | zero => rfl
  | succ k ih => rw [shs, ih, sh_zero]
theorem shs_lt (k c : Nat) (h : c < 2 ^ 32) : shs k c < 2 ^ 32 := by
  induction k with
  | zero => exact h
  | succ k ih => exact sh_lt _ ih
theorem shs_ker (k c : Nat) (h : c < 2 ^ 32) (e : shs k c = 0) : c = 0 := by
  induction k with
  | zero => exact e
  | succ k ih => exact ih (sh_ker _ (shs_lt k c h) e)
theorem shs_add (j k c : Nat) : shs (j + k) c = shs j (shs k c) := by
  induction j with
  | zero => rw [Nat.zero_add]; rfl
  | succ j ih => rw [Nat.succ_add, shs, shs, ih]
theorem shs_inner (k c : Nat) : shs (k + 1) c = shs k (sh c) := shs_add k 1 c

theorem byte_lt32 (b : UInt8) : b.toNat < 2 ^ 32 := by have := b.toNat_lt; omega
theorem run_lt (c : Nat) (l : List UInt8) (h : c < 2 ^ 32) : run c l < 2 ^ 32 := by
  induction l generalizing c with
  | nil => exact h
  | cons b r ih => exact ih _ (shs_lt 8 _ (Nat.xor_lt_two_pow h (byte_lt32 b)))
theorem run_append (c : Nat) (l m : List UInt8) : run c (l ++ m) = run (run c l) m := by
  induction l generalizing c with
  | nil => rfl
  | cons b r ih => exact ih _
theorem run_snoc (c : Nat) (l : List UInt8) (b : UInt8) : run c (l ++ [b]) = shs 8 (run c l ^^^ b.toNat) := by
  rw [run_append]; rfl
theorem run_xor (c d : Nat) (l : List UInt8) : run (c ^^^ d) l = run c l ^^^ shs (8 * l.length) d := by
  induction l generalizing c d with
  | nil => rfl
  | cons b r ih =>
    rw [run, run, show c ^^^ d ^^^ b.toNat = (c ^^^ b.toNat) ^^^ d by rw [Nat.xor_assoc, Nat.xor_comm d, ← Nat.xor_assoc], shs_xor, ih, List.length_cons, Nat.mul_add, shs_add]

theorem ones_lt : ones < 2 ^ 32 := by decide
theorem crc_lt (c : Nat) (l : List UInt8) (h : c < 2 ^ 32) : crc c l < 2 ^ 32 :=
  Nat.xor_lt_two_pow (run_lt _ _ (Nat.xor_lt_two_pow h ones_lt)) ones_lt
theorem xor_twice (a b : Nat) : a ^^^ b ^^^ b = a := by rw [Nat.xor_assoc, Nat.xor_self, Nat.xor_zero]
theorem crc_append (c : Nat) (l m : List UInt8) : crc (crc c l) m = crc c (l ++ m) := by
  unfold crc
  rw [xor_twice, run_append]
theorem crc_nil (c : Nat) : crc c [] = c := xor_twice c ones
/-- What is joined is what is summed at once. -/
theorem crc_join (c : Nat) (l m : List UInt8) : shs (8 * m.length) (crc c l) ^^^ crc 0 m = crc c (l ++ m) := by
  rw [← crc_append]
  generalize crc c l = x
  rw [crc, crc, Nat.zero_xor, Nat.xor_comm x, run_xor, ← Nat.xor_assoc, Nat.xor_comm (shs _ _)]
theorem join_join (j k a b c : Nat) : shs (8 * k) (shs (8 * j) a ^^^ b) ^^^ c = shs (8 * (j + k)) a ^^^ (shs (8 * k) b ^^^ c) := by
  rw [shs_xor, ← shs_add, Nat.xor_assoc, ← Nat.mul_add, Nat.add_comm k j]

/-- A bit that is turned, in a byte: the sums part by what that bit makes over the rest. -/
theorem crc_turn (l m : List UInt8) (b d : UInt8) : crc 0 (l ++ b :: m) ^^^ crc 0 (l ++ d :: m) = shs (8 * m.length) (shs 8 (b.toNat ^^^ d.toNat)) := by
  have key : ∀ c x y : Nat, ∀ m : List UInt8, run (shs 8 (c ^^^ x)) m ^^^ run (shs 8 (c ^^^ y)) m = shs (8 * m.length) (shs 8 (x ^^^ y)) := by
    intro c x y m
    have e : shs 8 (c ^^^ x) = shs 8 (c ^^^ y) ^^^ shs 8 (x ^^^ y) := by
      rw [← shs_xor]
      congr 1
      rw [xor_ac, Nat.xor_self, Nat.xor_zero]
    rw [e, run_xor, Nat.xor_comm, ← Nat.xor_assoc, Nat.xor_self, Nat.zero_xor]
  unfold crc
  rw [run_append, run_append, run, run, xor_ac, Nat.xor_self, Nat.xor_zero, key]
theorem shs_ne (k c : Nat) (h : c < 2 ^ 32) (h0 : c ≠ 0) : shs k c ≠ 0 := fun e => h0 (shs_ker k c h e)
theorem xor_ne {a b : Nat} (h : a ^^^ b ≠ 0) : a ≠ b := fun e => h (by rw [e, Nat.xor_self])

/-- The lowest bit of a number, and the rest of them. -/
theorem low_rest (c : Nat) (h0 : c ≠ 0) (h : c < 2 ^ 32) : c = (c &&& (c - 1)) ^^^ 2 ^ Lib.ctz 32 c ∧ c &&& (c - 1) < c ∧ Lib.ctz 32 c < 32 := by
  obtain ⟨m, hm, hk⟩ := Lib.ctzFrom_spec 32 c (by omega) h
  rw [Lib.ctz, if_neg h0]
  generalize Lib.ctzFrom 32 c = k at *
  have hp : 0 < 2 ^ k := Nat.two_pow_pos k
  have ha : c &&& (c - 1) = 2 ^ k * (2 * m) := by
    rw [hm]
    apply Nat.eq_of_testBit_eq
    intro i
    have e : 2 ^ k * (2 * m + 1) - 1 = 2 ^ k * (2 * m) + (2 ^ k - 1) := by rw [Nat.mul_add, Nat.mul_one]; omega
    rw [e, Nat.testBit_and]
    by_cases hik : i < k
    · have : (2 ^ k * (2 * m + 1)).testBit i = false := by rw [Nat.mul_comm, Nat.testBit_mul_two_pow]; simp; omega
      rw [this, Bool.false_and, Nat.mul_comm, Nat.testBit_mul_two_pow]; simp; omega
    · rw [Nat.testBit_two_pow_mul_add _ (by omega), if_neg hik, Nat.mul_comm, Nat.testBit_mul_two_pow, Nat.mul_comm (2 ^ k), Nat.testBit_mul_two_pow]
      by_cases he : i = k
      · subst he; simp [Nat.testBit_zero]
      · obtain ⟨j, hj⟩ : ∃ j, i - k = j + 1 := ⟨i - k - 1, by omega⟩
        rw [hj, Nat.testBit_succ, Nat.testBit_succ, show (2 * m + 1) / 2 = 2 * m / 2 by omega]
        simp
  refine ⟨?_, ?_, hk⟩
  · rw [ha]
    conv => lhs; rw [hm]
    apply Nat.eq_of_testBit_eq
    intro i
    rw [Nat.testBit_xor, Nat.testBit_two_pow, Nat.mul_comm, Nat.testBit_mul_two_pow, Nat.mul_comm (2 ^ k), Nat.testBit_mul_two_pow]
    by_cases hik : k ≤ i
    · by_cases he : k = i
      · subst he; simp [Nat.testBit_zero]
      · obtain ⟨j, hj⟩ : ∃ j, i - k = j + 1 := ⟨i - k - 1, by omega⟩
        rw [hj, Nat.testBit_succ, Nat.testBit_succ, show (2 * m + 1) / 2 = 2 * m / 2 by omega]
        simp [he]
    · simp [hik]; omega
  · rw [ha, hm, Nat.mul_add]; omega
end Go.Crc

namespace Go.Proofs.YtcenohaadggdiacDoor
open Go.RowKit

theorem i64_xor_nat (a b : Nat) (ha : a < 9223372036854775808) (hb : b < 9223372036854775808) : bits .xor .i64 (a : Int) (b : Int) = ((a ^^^ b : Nat) : Int) := by
  have hx : a ^^^ b < 2 ^ 63 := Nat.xor_lt_two_pow (by omega) (by omega)
  have h1 : (BitVec.ofInt 64 (a : Int)).toNat = a := by
    rw [BitVec.ofInt_natCast, BitVec.toNat_ofNat]; exact Nat.mod_eq_of_lt (by omega)
  have h2 : (BitVec.ofInt 64 (b : Int)).toNat = b := by
    rw [BitVec.ofInt_natCast, BitVec.toNat_ofNat]; exact Nat.mod_eq_of_lt (by omega)
  show IntKind.i64.wrap ((BitVec.ofInt 64 (a : Int) ^^^ BitVec.ofInt 64 (b : Int)).toNat : Int) = _
  rw [BitVec.toNat_xor, h1, h2, IntKind.wrap_i64]
  omega
theorem i64_and_nat (a b : Nat) (ha : a < 9223372036854775808) (hb : b < 9223372036854775808) : bits .and .i64 (a : Int) (b : Int) = ((a &&& b : Nat) : Int) := by
  have hx : a &&& b < 2 ^ 63 := Nat.and_lt_two_pow _ (by omega)
  have h1 : (BitVec.ofInt 64 (a : Int)).toNat = a := by
    rw [BitVec.ofInt_natCast, BitVec.toNat_ofNat]; exact Nat.mod_eq_of_lt (by omega)
  have h2 : (BitVec.ofInt 64 (b : Int)).toNat = b := by
    rw [BitVec.ofInt_natCast, BitVec.toNat_ofNat]; exact Nat.mod_eq_of_lt (by omega)
  show IntKind.i64.wrap ((BitVec.ofInt 64 (a : Int) &&& BitVec.ofInt 64 (b : Int)).toNat : Int) = _
  rw [BitVec.toNat_and, h1, h2, IntKind.wrap_i64]
  omega
theorem ret_u32 {a b : Int} (h : a = b) : Ending.returned (.int .u32 a) = .returned (.int .u32 b) := by rw [h]

theorem u32_sh (x : Nat) (hx : x < 2 ^ 32) : bits .xor .u32 ((x : Int) / 2) (3988292384 * bits .and .u32 (x : Int) 1 % 4294967296) = (Go.Crc.sh x : Nat) := by
  have e1 : bits .and .u32 (x : Int) 1 = ((x % 2 : Nat) : Int) := by
    rw [show (1 : Int) = ((1 : Nat) : Int) from rfl, u32_and_nat x 1 hx (by omega), nat_mask1]
  rw [e1, show (x : Int) / 2 = ((x / 2 : Nat) : Int) by omega, show (3988292384 * ((x % 2 : Nat) : Int) % 4294967296) = ((3988292384 * (x % 2) : Nat) : Int) by omega, u32_xor_nat _ _ (by omega) (by omega)]
  rfl

set_option maxHeartbeats 1000000 in
set_option maxRecDepth 100000 in
theorem divide_ok (c : Nat) (w : World) (hc : c < 4294967296) : Calls Tryd.prog 70 #[.int .u32 c] w fun r w' => r = .returned (.int .u32 (Go.Crc.shs 8 c : Nat)) ∧ w' = w := by
  go_enter Tryd.func70, Tryd.ntmps70
  go_wp2_with fail
  go_loop [0, 3] (fun t0 t3 => ∃ i : Nat, t3 = .int .i64 i ∧ i ≤ 8 ∧ t0 = .int .u32 (Go.Crc.shs i c : Nat)) (fun _ t3 => 8 - (intOf t3).toNat)
  case atStart => exact ⟨0, rfl, by omega, rfl⟩
  case round =>
    obtain ⟨i, rfl, hi, rfl⟩ := hrel
    have hx := Go.Crc.shs_lt i c hc
    have He : Hid (Go.Crc.sh (Go.Crc.shs i c) = Go.Crc.shs (i + 1) c) := rfl
    by_cases hlt : i < 8
    · have hlt' : (i : Int) < 8 := by omega
      generalize Go.Crc.shs i c = x at *
      go_wp2_with fail
      go_round
      case rel => exact ⟨i + 1, by go_num, by omega, by rw [u32_sh x hx, He.out]⟩
      case measure => simp [intOf]; omega
    · have hle : (8 : Int) ≤ i := by omega
      obtain rfl : i = 8 := by omega
      go_wp2_with fail
      go_ret
      exact ⟨rfl, rfl⟩

theorem u32_not (c : Nat) (hc : c < 4294967296) : bits .xor .u32 IntKind.u32.max (c : Int) = ((c ^^^ Go.Crc.ones : Nat) : Int) := by
  rw [show IntKind.u32.max = ((Go.Crc.ones : Nat) : Int) from rfl, u32_xor_nat _ _ Go.Crc.ones_lt hc, Nat.xor_comm]

set_option maxHeartbeats 1000000 in
set_option maxRecDepth 100000 in
theorem more_ok (c : Nat) (s : ByteArray) (w : World) (hc : c < 4294967296) (hs : s.size ≤ 1000000) : Calls Tryd.prog 47 #[.int .u32 c, .string s] w fun r w' => r = .returned (.int .u32 (Go.Crc.crc c s.data.toList : Nat)) ∧ w' = w := by
  have hs' : (s.size : Int) ≤ 1000000 := by omega
  have hsg : IntKind.u32.signed = false := rfl
  have hnot := u32_not c hc
  have hc1 : c ^^^ Go.Crc.ones < 2 ^ 32 := Nat.xor_lt_two_pow hc Go.Crc.ones_lt
  have Hc : Hid (Go.Crc.crc c s.data.toList = Go.Crc.run (c ^^^ Go.Crc.ones) s.data.toList ^^^ Go.Crc.ones) := rfl
  generalize c ^^^ Go.Crc.ones = d at *
  go_enter Tryd.func47, Tryd.ntmps47
  go_wp2_with fail
  go_loop [0, 5] (fun t0 t5 => ∃ i : Nat, t5 = .int .i64 i ∧ i ≤ s.size ∧ t0 = .int .u32 (Go.Crc.run d (s.data.toList.take i) : Nat)) (fun _ t5 => s.size - (intOf t5).toNat)
  case atStart => exact ⟨0, rfl, by omega, rfl⟩
  case round =>
    obtain ⟨i, rfl, hi, rfl⟩ := hrel
    have hx : Go.Crc.run d (s.data.toList.take i) < 2 ^ 32 := Go.Crc.run_lt _ _ hc1
    by_cases hlt : i < s.size
    · have hlt' : (i : Int) < s.size := by omega
      have hb := byte_lt s[i]
      have hn := Go.Crc.run_snoc d (s.data.toList.take i) s[i]
      rw [← takeL s i hlt] at hn
      have He := hide hn
      clear hn
      generalize Go.Crc.run d (s.data.toList.take i) = x at *
      have hxb : x ^^^ s[i].toNat < 2 ^ 32 := Nat.xor_lt_two_pow hx (by omega)
      have hxe : bits .xor .u32 (x : Int) (s[i].toNat : Int) = ((x ^^^ s[i].toNat : Nat) : Int) := u32_xor_nat _ _ hx (by omega)
      have HD := hide (fun W => divide_ok (x ^^^ s[i].toNat) W hxb)
      go_wp2_with fail
      refine (HD.out _).mono ?_
      rintro e w1 ⟨rfl, rfl⟩
      go_wp2_with fail
      go_round
      case rel => exact ⟨i + 1, by go_num, by omega, by rw [He.out]⟩
      case measure => simp [intOf]; omega
    · have hle : (s.size : Int) ≤ i := by omega
      obtain rfl : i = s.size := by omega
      have ht : s.data.toList.take s.size = s.data.toList := by rw [← lenL s, List.take_length]
      rw [ht] at hx ⊢
      have hn2 := u32_not _ hx
      rw [← Hc.out] at hn2
      clear ht Hc
      generalize Go.Crc.run d s.data.toList = x at *
      go_wp2_with fail
      go_ret
      exact ⟨rfl, rfl⟩

set_option maxHeartbeats 1000000 in
theorem sum_ok (s : ByteArray) (w : World) (hs : s.size ≤ 1000000) : Calls Tryd.prog 29 #[.string s] w fun r w' => r = .returned (.int .u32 (Go.Crc.crc 0 s.data.toList : Nat)) ∧ w' = w := by
  have H := hide (fun W => more_ok 0 s W (by omega) hs)
  generalize Go.Crc.crc 0 s.data.toList = x at *
  go_enter Tryd.func29, Tryd.ntmps29
  go_wp2_with fail
  refine (H.out _).mono ?_
  rintro e w1 ⟨rfl, rfl⟩
  go_wp2_with fail
  go_ret
  exact ⟨rfl, rfl⟩
end Go.Proofs.YtcenohaadggdiacDoor

namespace Go.Proofs.YtcenohaadggdiacDoor
open Go.RowKit
open Go.Sign (Blk)

/-- A block as cells, and as a value. -/
def bcells (b : Blk) : List Value := [.int .i64 b.n, .int .i64 b.weak, .int .u32 b.strong]
def bval (b : Blk) : Value := .agg #[.int .i64 b.n, .int .i64 b.weak, .int .u32 b.strong]
/-- The block of a text. -/
def blk (l : List UInt8) : Blk := ⟨l.length, wk l, Go.Crc.crc 0 l⟩

/-- A block's three cells at block p of the memory. -/
structure BkAt (p : Nat) (w : World) (b : Blk) : Prop where
  c0 : w.cell? ⟨p, 0, none⟩ = some (.int .i64 b.n)
  c1 : w.cell? ⟨p, 1, none⟩ = some (.int .i64 b.weak)
  c2 : w.cell? ⟨p, 2, none⟩ = some (.int .u32 b.strong)
  f0 : w.frozen? ⟨p, 0, none⟩ = false
  f1 : w.frozen? ⟨p, 1, none⟩ = false
  f2 : w.frozen? ⟨p, 2, none⟩ = false
  lt : p < w.heap.size
theorem BkAt.below {p k : Nat} {w w' : World} {b : Blk} (h : BkAt p w b) (hb : Below k w w') (hp : p < k) : BkAt p w' b :=
  ⟨(hb.cell (p := ⟨p, 0, none⟩) (by simpa using hp)).trans h.c0, (hb.cell (p := ⟨p, 1, none⟩) (by simpa using hp)).trans h.c1, (hb.cell (p := ⟨p, 2, none⟩) (by simpa using hp)).trans h.c2, (hb.frozen (p := ⟨p, 0, none⟩) (by simpa using hp)).trans h.f0, (hb.frozen (p := ⟨p, 1, none⟩) (by simpa using hp)).trans h.f1, (hb.frozen (p := ⟨p, 2, none⟩) (by simpa using hp)).trans h.f2, Nat.lt_of_lt_of_le h.lt hb.size⟩
theorem BkAt.set {p : Nat} {w : World} {b : Blk} (h : BkAt p w b) (c : Blk) : BkAt p (((w.setCell ⟨p, 0, none⟩ (.int .i64 c.n)).setCell ⟨p, 1, none⟩ (.int .i64 c.weak)).setCell ⟨p, 2, none⟩ (.int .u32 c.strong)) c := by
  obtain ⟨c0, c1, c2, f0, f1, f2, lt⟩ := h
  refine ⟨?_, ?_, ?_, by simpa using f0, by simpa using f1, by simpa using f2, by simpa using lt⟩
  · rw [World.cell?_setCell_other _ _ _ _ (by simp), World.cell?_setCell_other _ _ _ _ (by simp)]; exact World.cell?_setCell_same _ _ _ c0
  · rw [World.cell?_setCell_other _ _ _ _ (by simp)]; exact World.cell?_setCell_same _ _ _ (by rw [World.cell?_setCell_other _ _ _ _ (by simp)]; exact c1)
  · exact World.cell?_setCell_same _ _ _ (by rw [World.cell?_setCell_other _ _ _ _ (by simp), World.cell?_setCell_other _ _ _ _ (by simp)]; exact c2)
theorem BkAt.fresh (w : World) (b : Blk) (t : TypeId) : BkAt w.heap.size (w.alloc (.cells #[.int .i64 b.n, .int .i64 b.weak, .int .u32 b.strong] t)) b :=
  ⟨by simp, by simp, by simp, by simp, by simp, by simp, by simp⟩
theorem BkAt.drew {p : Nat} {w : World} {b : Blk} (h : BkAt p w b) : BkAt p w.drew b := ⟨h.c0, h.c1, h.c2, h.f0, h.f1, h.f2, h.lt⟩
def zeroB : Blk := ⟨0, 0, 0⟩

theorem isSize_ok (n : Int) (w : World) : Calls Tryd.prog 31 #[.int .i64 n] w fun r w' => r = .returned (.bool (decide (1 ≤ n ∧ n ≤ 64))) ∧ w' = w := by
  by_cases h0 : 1 ≤ n
  · go_enter Tryd.func31, Tryd.ntmps31
    go_wp2
    go_ret
    exact ⟨ret_bool (by simp [h0]), rfl⟩
  · have h0' : decide (1 ≤ n) = false := by simp; omega
    go_enter Tryd.func31, Tryd.ntmps31
    go_wp2
    go_ret
    exact ⟨ret_bool (by simp), rfl⟩

set_option maxHeartbeats 1000000 in
set_option maxRecDepth 100000 in
theorem blockOf_ok (s : ByteArray) (w : World) (hs : s.size ≤ 1000000) : Calls Tryd.prog 32 #[.string s] w fun r w' => r = .returned (bval (blk s.data.toList)) ∧ Below w.heap.size w w' := by
  have HW := hide (fun W => wSum_ok s W hs)
  have HS := hide (fun W => sum_ok s W hs)
  have hs' : (s.size : Int) ≤ 1000000 := by omega
  unfold bval blk
  rw [lenL]
  generalize wk s.data.toList = k at *
  generalize Go.Crc.crc 0 s.data.toList = c at *
  go_enter Tryd.func32, Tryd.ntmps32
  go_wp2_with fail
  refine (HW.out _).mono ?_
  rintro e w1 ⟨rfl, hb1⟩
  have hf := (BkAt.fresh w zeroB 55).below hb1 (by simp)
  have Hb1 := hide (((Below.refl w.heap.size w).alloc (Nat.le_refl _) (.cells #[.int .i64 0, .int .i64 0, .int .u32 0] 55)).trans (hb1.mono (by simp)))
  have Hf := hide hf
  clear hb1
  obtain ⟨c0, c1, c2, f0, f1, f2, lt⟩ := hf
  go_wp2_with fail
  refine (HS.out _).mono ?_
  rintro e w2 ⟨rfl, rfl⟩
  go_wp2_with fail
  (try simp only [Exit.inBlock, Exit.then])
  refine bodyPost_ret (v := .agg #[.int .i64 s.size, .int .i64 k, .int .u32 c]) ?_ rfl ⟨rfl, ((Hb1.out.setCell (by simp) _).setCell (by simp) _).setCell (by simp) _⟩
  obtain ⟨s0, s1, s2, _, _, _, _⟩ := Hf.out.set ⟨s.size, k, c⟩
  simp only [results, show Tryd.f32.results = #[.cell 2 55] from rfl]
  go_simp
end Go.Proofs.YtcenohaadggdiacDoor

namespace Go.Proofs.YtcenohaadggdiacDoor
open Go.RowKit
open Go.Sign (Blk)

theorem Tryd.info55 : (Tryd.prog.info? 55).map (fun i => (i.zero, i.size, i.bytes)) = some (some (.agg #[.int .i64 0, .int .i64 0, .int .u32 0]), 3, 24) := by kernel_rfl

/-- Blocks as cells. -/
def bcs (l : List Blk) : List Value := l.flatMap bcells
theorem bcs_snoc (l : List Blk) (b : Blk) : bcs (l ++ [b]) = bcs l ++ bcells b := by simp [bcs]
theorem bcs_length (l : List Blk) : (bcs l).length = l.length * 3 := by
  induction l with
  | nil => rfl
  | cons b l ih => rw [bcs, List.flatMap_cons, List.length_append, ← bcs, ih, List.length_cons]; simp [bcells]; omega
theorem bcs_get (l : List Blk) (j : Nat) (h : j < l.length) : (bcs l)[j * 3]? = some (.int .i64 l[j].n) ∧ (bcs l)[j * 3 + 1]? = some (.int .i64 l[j].weak) ∧ (bcs l)[j * 3 + 2]? = some (.int .u32 l[j].strong) := by
  induction l generalizing j with
  | nil => simp at h
  | cons b l ih =>
    have e : bcs (b :: l) = .int .i64 b.n :: .int .i64 b.weak :: .int .u32 b.strong :: bcs l := by simp [bcs, bcells]
    rw [e]
    cases j with
    | zero => simp
    | succ j =>
      have := ih j (by simpa using h)
      rw [show (j + 1) * 3 = j * 3 + 3 by omega]
      simpa using this

/-- How many blocks so many bytes make. -/
def many (len size : Nat) : Nat := (len + size - 1) / size
/-- The first k blocks of a file. -/
def sigK (l : List UInt8) (size k : Nat) : List Blk := (List.range k).map fun j => blk ((l.drop (j * size)).take size)
theorem sigK_succ (l : List UInt8) (size k : Nat) : sigK l size (k + 1) = sigK l size k ++ [blk ((l.drop (k * size)).take size)] := by simp [sigK, List.range_succ]
theorem sigK_length (l : List UInt8) (size k : Nat) : (sigK l size k).length = k := by simp [sigK]
/-- The signature of a file. -/
def sigL (l : List UInt8) (size : Nat) : List Blk := sigK l size (many l.length size)
theorem many_eq {len size k : Nat} (h1 : 1 ≤ size) (ha : len ≤ k * size) (hb : k * size < len + size) : k = many len size := by
  unfold many
  have h3 : k * size ≤ len + size - 1 := by omega
  have h4 : len + size - 1 < (k + 1) * size := by rw [Nat.succ_mul]; omega
  have a1 : k ≤ (len + size - 1) / size := (Nat.le_div_iff_mul_le (by omega)).2 h3
  have a2 : (len + size - 1) / size < k + 1 := (Nat.div_lt_iff_lt_mul (by omega)).2 h4
  omega
theorem many_le {len size : Nat} (h1 : 1 ≤ size) : many len size ≤ len := by
  unfold many
  have : (len + size - 1) / size < len + 1 := (Nat.div_lt_iff_lt_mul (by omega)).2 (by
    have : len + 1 ≤ (len + 1) * size := Nat.le_mul_of_pos_right _ h1
    have h2 : (len + 1) * size = len * size + size := Nat.succ_mul ..
    have h3 : len ≤ len * size := Nat.le_mul_of_pos_right _ h1
    omega)
  omega

set_option maxHeartbeats 1000000 in
set_option maxRecDepth 100000 in
theorem of_err (s : ByteArray) (size : Int) (t : TypeId) (x : Value) (w : World) (h : 4000 < s.size ∨ ¬ (1 ≤ size ∧ size ≤ 64)) (hB : w.cell? ⟨0, 0, none⟩ = some (.iface t x)) :
    Calls Tryd.prog 10 #[.string s, .int .i64 size] w fun r w' => r = .returned (.tuple #[.slice none 0 0, .iface t x]) ∧ Below w.heap.size w w' := by
  have I := hide (fun W => isSize_ok size W)
  by_cases hl : 4000 < s.size
  · have hl' : decide ((4000 : Int) < s.size) = true := by simp; omega
    clear h
    go_enter Tryd.func10, Tryd.ntmps10
    go_wp2_with fail
    go_quiet (fail)
    go_wp2
    go_ret2
    exact ⟨rfl, (Below.refl _ _).trans ⟨rfl, rfl, rfl, Nat.le_refl _, fun _ _ => rfl⟩⟩
  · have hl' : decide ((4000 : Int) < s.size) = false := by simp; omega
    have h2 : ¬ (1 ≤ size ∧ size ≤ 64) := h.resolve_left hl
    rw [show decide (1 ≤ size ∧ size ≤ 64) = false from decide_eq_false h2] at I
    clear h h2
    go_enter Tryd.func10, Tryd.ntmps10
    go_wp2_with fail
    refine (I.out _).mono ?_
    rintro e w1 ⟨rfl, rfl⟩
    go_wp2_with fail
    go_quiet (fail)
    go_wp2
    go_ret2
    exact ⟨rfl, (Below.refl _ _).trans ⟨rfl, rfl, rfl, Nat.le_refl _, fun _ _ => rfl⟩⟩

set_option maxHeartbeats 1000000 in
set_option maxRecDepth 100000 in
theorem of_ok (s : ByteArray) (size : Nat) (w : World) (hs : s.size ≤ 4000) (h1 : 1 ≤ size) (h2 : size ≤ 64) :
    Calls Tryd.prog 10 #[.string s, .int .i64 size] w fun r w' => ∃ v, r = .returned (.tuple #[v, .nilIface]) ∧ w'.ownsRow w.heap.size 55 3 v (many s.size size) (bcs (sigL s.data.toList size)) ∧ Below w.heap.size w w' := by
  obtain ⟨i0, hi, hz0, hz1, hz2⟩ := info_parts Tryd.info55
  have I := hide (fun W => isSize_ok size W)
  rw [show decide (1 ≤ (size : Int) ∧ (size : Int) ≤ 64) = true from decide_eq_true (by omega)] at I
  have hl' : decide ((4000 : Int) < s.size) = false := by simp; omega
  have hs' : (s.size : Int) ≤ 4000 := by omega
  have h1' : (1 : Int) ≤ size := by omega
  have h2' : (size : Int) ≤ 64 := by omega
  have hm : many s.size size ≤ 4000 := Nat.le_trans (many_le h1) hs
  have hq : Int.tdiv ((s.size : Int) + (size : Int) - 1) (size : Int) = ((many s.size size : Nat) : Int) := by
    unfold many
    rw [show (s.size : Int) + (size : Int) - 1 = ((s.size + size - 1 : Nat) : Int) by omega, Int.tdiv_eq_ediv_of_nonneg (by omega)]
    rfl
  go_enter Tryd.func10, Tryd.ntmps10
  go_wp2_with fail
  refine (I.out _).mono ?_
  rintro e w1 ⟨rfl, rfl⟩
  go_wp2_with (first | (at_make; refine wpList_make_own _ rfl _ _ 24 rfl w1.heap.size 55 i0 (.agg #[.int .i64 0, .int .i64 0, .int .u32 0]) 3 Tryd.underlying24 hi hz0 hz1 .i64 .i64 _ (many s.size size) rfl rfl ?m1 ?m2 ?m3 ?m4 ?next))
  case m1 => first | exact hq | (rw [← hq]; rfl) | simp
  case m2 => rw [hz2]; omega
  case m3 => unfold maxLen; omega
  case m4 => exact Nat.le_refl _
  case next =>
    intro w3 hown3 hgrow3
    have hb3 : Below w1.heap.size w1 w3 := (Below.refl _ _).grown hgrow3 (Nat.le_refl _) (fun k hk => by cases hk)
    have Hown3 := hide hown3
    have Hb3 := hide hb3
    clear hown3 hgrow3 hb3 hq hm I
    generalize many s.size size = cap at Hown3
    go_wp2_with fail
    go_loopw [6, 7] (fun t6 t7 wr => ∃ k f : Nat, t7 = .int .i64 f ∧ f = k * size ∧ f < s.size + size ∧ Hid (wr.ownsRow w1.heap.size 55 3 t6 k (bcs (sigK s.data.toList size k))) ∧ Hid (Below w1.heap.size w1 wr)) (fun _ t7 _ => s.size + size - (intOf t7).toNat)
    case atStart => exact ⟨0, 0, rfl, by simp, by omega, Hown3.out, Hb3.out⟩
    case round =>
      clear Hown3 Hb3
      obtain ⟨k, f, rfl, hf, hlt0, Hown, Hb⟩ := hrel
      have Hf := hide hf
      have hk : k ≤ f := by rw [hf]; exact Nat.le_mul_of_pos_right _ h1
      clear hf
      by_cases hlt : f < s.size
      · have hlt' : (f : Int) < s.size := by omega
        have hx : (s.extract f (min (f + size) s.size)).data.toList = (s.data.toList.drop (k * size)).take size := by
          rw [extractL, ← Hf.out]
          rcases Nat.le_total (f + size) s.size with h | h
          · rw [Nat.min_eq_left h, Nat.add_sub_cancel_left]
          · rw [Nat.min_eq_right h]
            rw [List.take_of_length_le (by rw [List.length_drop, lenL]; omega), List.take_of_length_le (by rw [List.length_drop, lenL]; omega)]
        have HBk := hide (fun W y (hy : y = min (f + size) s.size) => (show Calls Tryd.prog 32 #[.string (s.extract f y)] W fun r w' => r = .returned (bval (blk (s.extract f (min (f + size) s.size)).data.toList)) ∧ Below W.heap.size W w' from hy ▸ blockOf_ok (s.extract f (min (f + size) s.size)) W (by rw [ByteArray.size_extract]; omega)))
        rw [hx] at HBk
        have hbv : Hid (bcells (blk ((s.data.toList.drop (k * size)).take size)) = [.int .i64 (blk ((s.data.toList.drop (k * size)).take size)).n, .int .i64 (blk ((s.data.toList.drop (k * size)).take size)).weak, .int .u32 (blk ((s.data.toList.drop (k * size)).take size)).strong]) := rfl
        unfold bval at HBk
        clear hx
        have Hsk := hide (sigK_succ s.data.toList size k)
        generalize blk ((s.data.toList.drop (k * size)).take size) = b at *
        go_wp2_with fail
        all_goals
          refine (HBk.out _ _ (by omega)).mono ?_
          rintro e w4 ⟨rfl, hb4⟩
          have Hown4 := hide (own_below Hown.out hb4)
          have Hb4 := hide (bthen Hb.out hb4)
          clear hb4 HBk
          go_wp2_with (first | (at_builtin; refine wpList_append_own _ rfl (.tmp 32) (.tmp 43) 24 rfl w1.heap.size 55 i0 (.agg #[.int .i64 0, .int .i64 0, .int .u32 0]) 3 24 Tryd.underlying24 hi hz0 hz1 hz2 rfl (by decide) u6 k (bcs (sigK s.data.toList size k)) rfl ?own ⟨w4.heap.size, 0, none⟩ 1 1 [.int .i64 b.n, .int .i64 b.weak, .int .u32 b.strong] rfl rfl ?c1 ?c2 ?b1 ?b2 ?b3 ?next))
          case own => exact Hown4.out.alloc _
          case c1 => intro j u hj; match j, hj with | 0, hj | 1, hj | 2, hj => simp at hj; subst hj; simp [Addr.add]
          case c2 => intro u hu; simp at hu; rcases hu with rfl | rfl | rfl <;> rfl
          case b1 => unfold maxLen; omega
          case b2 => omega
          case b3 => have := Hb4.out.size; simp; omega
          case next =>
            intro v5 w5 hown5 hgrow5 _
            have hb5 : Below w1.heap.size w4 w5 := ((Below.refl _ _).alloc Hb4.out.size _).grown hgrow5 (by have := Hb4.out.size; simp; omega) (fun k hk => (Hown4.out.lt k hk).1)
            have Hb5 := hide (Hb4.out.trans hb5)
            have Hown5 := hide hown5
            clear hb5 hown5 hgrow5 Hown4 Hb4
            go_wp2_with fail
            go_roundw
            case rel =>
              refine ⟨k + 1, f + size, by go_num, by rw [Nat.succ_mul, Hf.out], by omega, ?_, Hb5.out⟩
              have h := Hown5.out
              rw [← hbv.out, ← bcs_snoc, ← Hsk.out] at h
              exact h
            case measure => simp [intOf]; omega
      · have hle : (s.size : Int) ≤ (f : Int) := by omega
        have hke : k = many s.size size := many_eq h1 (by rw [← Hf.out]; omega) (by rw [← Hf.out]; omega)
        go_wp2_with fail
        go_ret2
        refine ⟨_, rfl, ?_, Hb.out⟩
        have h := Hown.out
        rw [hke] at h
        unfold sigL
        rw [lenL]
        exact h
end Go.Proofs.YtcenohaadggdiacDoor
