/-
  Plain mathematics of sums that roll: 'wa' (all bytes), 'wb' (each byte times its place from the end), 'weak' (both modulo 65536); what is rolled, and what is joined. No program, no walk.
  Contracts of the halves of a sum that rolls (package weak) over this dump: what a sum alone reaches.
  Contracts of weak.Sum over this dump.
  Plain mathematics of CRC-32: 'sh' (a bit), 'shs' (many bits), 'run' (a text), 'crc' (what More answers); they are linear over the exclusive or; what is joined; a table of what each bit makes. No program, no walk.
  Contracts of sum.divide, sum.More, sum.Sum over this dump; what the model spells for the bits of numbers.
-/
import Derived.Test.YtcenohaadggdiacDoorJoin01
import Derived.Deep.RegionHeld3
import Derived.Deep.RegionWith
import Derived.Lib.TrailingZeros
import Derived.Laws.BitsAllLaws
namespace Go.Weak

def wa : List UInt8 → Nat
  | [] => 0
  | b :: r => b.toNat + wa r
def wb : List UInt8 → Nat
  | [] => 0
  | b :: r => (r.length + 1) * b.toNat + wb r
def weak (l : List UInt8) : Nat := wa l % 65536 + 65536 * (wb l % 65536)

theorem wa_append (l m : List UInt8) : wa (l ++ m) = wa l + wa m := by
  induction l with
  | nil => simp [wa]
  | cons b r ih => simp only [List.cons_append, wa, ih]; omega

theorem wb_append (l m : List UInt8) : wb (l ++ m) = wb l + m.length * wa l + wb m := by
  induction l with
  | nil => simp [wa, wb]
  | cons b r ih =>
    simp only [List.cons_append, wa, wb, ih, List.length_append, Nat.mul_add, Nat.add_mul]
    omega

theorem wa_snoc (l : List UInt8) (b : UInt8) : wa (l ++ [b]) = wa l + b.toNat := by rw [wa_append]; simp [wa]
theorem wb_snoc (l : List UInt8) (b : UInt8) : wb (l ++ [b]) = wb l + wa l + b.toNat := by rw [wb_append]; simp [wb]

theorem weak_lt (l : List UInt8) : weak l < 4294967296 := by unfold weak; omega

/-- The halves of a sum. -/
theorem weak_mod (l : List UInt8) : weak l % 65536 = wa l % 65536 := by unfold weak; omega
theorem weak_div (l : List UInt8) : weak l / 65536 = wb l % 65536 := by unfold weak; omega

theorem take_snoc (l : List UInt8) (i : Nat) (h : i < l.length) : l.take (i + 1) = l.take i ++ [l[i]] := List.take_succ_eq_append_getElem h
theorem drop_cons (l : List UInt8) (i : Nat) (h : i < l.length) : l.drop i = l[i] :: l.drop (i + 1) := List.drop_eq_getElem_cons h

/-- The part of n bytes from i on. -/
def part (l : List UInt8) (i n : Nat) : List UInt8 := (l.drop i).take n

theorem part_length (l : List UInt8) (i n : Nat) (h : i + n ≤ l.length) : (part l i n).length = n := by simp [part]; omega

theorem part_slide (l : List UInt8) (i n : Nat) (hn : 0 < n) (h : i + n < l.length) :
    ∃ r, part l i n = l[i] :: r ∧ part l (i + 1) n = r ++ [l[i + n]] ∧ r.length + 1 = n := by
  obtain ⟨m, rfl⟩ : ∃ m, n = m + 1 := ⟨n - 1, by omega⟩
  refine ⟨(l.drop (i + 1)).take m, ?_, ?_, ?_⟩
  · rw [part, drop_cons l i (by omega), List.take_succ_cons]
  · rw [part, List.take_succ_eq_append_getElem (by simp; omega)]
    simp [Nat.add_comm, Nat.add_left_comm]
  · simp; omega

/-- Rolling, on the halves: the first byte goes, one comes behind. -/
theorem roll_a (b c : UInt8) (r : List UInt8) : (wa (b :: r) : Int) - b.toNat + c.toNat = wa (r ++ [c]) := by
  rw [wa_snoc]; simp only [wa]; omega
theorem roll_b (b c : UInt8) (r : List UInt8) : (wb (b :: r) : Int) - ((r.length + 1 : Nat) : Int) * b.toNat + wa (r ++ [c]) = wb (r ++ [c]) := by
  rw [wb_snoc, wa_snoc]; simp only [wb]
  have := Int.natCast_mul (r.length + 1) b.toNat
  omega

end Go.Weak

namespace Go.Proofs.YtcenohaadggdiacDoor
open Go.RowKit

def hv (a b : Int) : Value := .agg #[.int .i64 a, .int .i64 b]

/-- Two numbers at block p. -/
structure HvAt (p : Nat) (w : World) (a b : Int) : Prop where
  c0 : w.cell? ⟨p, 0, none⟩ = some (.int .i64 a)
  c1 : w.cell? ⟨p, 1, none⟩ = some (.int .i64 b)
  f0 : w.frozen? ⟨p, 0, none⟩ = false
  f1 : w.frozen? ⟨p, 1, none⟩ = false
  lt : p < w.heap.size

theorem HvAt.below {p k : Nat} {w w' : World} {a b : Int} (h : HvAt p w a b) (hb : Below k w w') (hp : p < k) : HvAt p w' a b :=
  ⟨(hb.cell (p := ⟨p, 0, none⟩) (by simpa using hp)).trans h.c0, (hb.cell (p := ⟨p, 1, none⟩) (by simpa using hp)).trans h.c1, (hb.frozen (p := ⟨p, 0, none⟩) (by simpa using hp)).trans h.f0, (hb.frozen (p := ⟨p, 1, none⟩) (by simpa using hp)).trans h.f1, Nat.lt_of_lt_of_le h.lt hb.size⟩

theorem HvAt.set {p : Nat} {w : World} {a b : Int} (h : HvAt p w a b) (c d : Int) : HvAt p ((w.setCell ⟨p, 0, none⟩ (.int .i64 c)).setCell ⟨p, 1, none⟩ (.int .i64 d)) c d := by
  obtain ⟨c0, c1, f0, f1, lt⟩ := h
  refine ⟨?_, ?_, by simpa using f0, by simpa using f1, by simpa using lt⟩
  · rw [World.cell?_setCell_other _ _ _ _ (by simp)]; exact World.cell?_setCell_same _ _ _ c0
  · exact World.cell?_setCell_same _ _ _ (by rw [World.cell?_setCell_other _ _ _ _ (by simp)]; exact c1)

theorem HvAt.drew {p : Nat} {w : World} {a b : Int} (h : HvAt p w a b) : HvAt p w.drew a b := ⟨h.c0, h.c1, h.f0, h.f1, h.lt⟩

theorem HvAt.fresh (w : World) (a b : Int) (t : TypeId) : HvAt w.heap.size (w.alloc (.cells #[.int .i64 a, .int .i64 b] t)) a b :=
  ⟨by simp, by simp, by simp, by simp, by simp⟩

theorem wrap_id (x : Int) (h0 : -9223372036854775808 ≤ x) (h1 : x ≤ 9223372036854775807) : wrap64 x = x := by unfold wrap64; omega


theorem mod_eq (n : Int) : (wrap64 (n.tmod 65536 + 65536)).tmod 65536 = n % 65536 := by
  have := Int.tmod_eq_emod (a := n) (b := 65536)
  have h1 : -65536 < n.tmod 65536 := by split at this <;> omega
  have h2 : n.tmod 65536 < 65536 := by split at this <;> omega
  rw [wrap_id _ (by omega) (by omega), Int.tmod_eq_emod_of_nonneg (by omega)]
  split at this <;> omega

theorem hmod_ok (n : Int) (w : World) : Calls Tryd.prog 93 #[.int .i64 n] w fun r w' => r = .returned (.int .i64 (n % 65536)) ∧ w' = w := by
  go_enter Tryd.func93, Tryd.ntmps93
  go_wp2
  go_ret
  exact ⟨ret_int (mod_eq n), rfl⟩

theorem hwhole_ok (a b : Int) (w : World) (a0 : 0 ≤ a) (a1 : a < 65536) (b0 : 0 ≤ b) (b1 : b < 65536) : Calls Tryd.prog 46 #[hv a b] w fun r w' => r = .returned (.int .i64 (a + 65536 * b)) ∧ Below w.heap.size w w' := by
  unfold hv
  go_enter Tryd.func46, Tryd.ntmps46
  go_wp2
  go_ret
  exact ⟨rfl, (Below.refl _ _).alloc (Nat.le_refl _) _⟩

theorem hadd_ok (a b x : Int) (w : World) (a0 : 0 ≤ a) (a1 : a < 65536) (b0 : 0 ≤ b) (b1 : b < 65536) (x0 : 0 ≤ x) (x1 : x < 256) : Calls Tryd.prog 69 #[hv a b, .int .u8 x] w fun r w' => r = .returned (hv ((a + x) % 65536) ((b + (a + x) % 65536) % 65536)) ∧ Below w.heap.size w w' := by
  unfold hv
  go_enter Tryd.func69, Tryd.ntmps69
  go_wp2_with fail
  refine (hmod_ok _ _).mono ?_
  rintro e w1 ⟨rfl, rfl⟩
  go_wp2_with fail
  refine (hmod_ok _ _).mono ?_
  rintro e w1 ⟨rfl, rfl⟩
  go_wp2_with fail
  (try simp only [Exit.inBlock, Exit.then])
  refine bodyPost_ret (v := hv ((a + x) % 65536) ((b + (a + x) % 65536) % 65536)) ?_ rfl ⟨rfl, ((Below.refl _ _).alloc (Nat.le_refl _) _).alloc (by simp) _⟩
  simp only [results, show Tryd.f69.results = #[.cell 4 84] from rfl]
  go_simp
  rfl

theorem lt_mod (n : Int) : n % 65536 < 65536 := Int.emod_lt_of_pos _ (by decide)

theorem ge_mod (n : Int) : 0 ≤ n % 65536 := Int.emod_nonneg _ (by decide)

/-- The halves of a text. -/
def hA (l : List UInt8) : Int := ((Go.Weak.wa l % 65536 : Nat) : Int)

def hB (l : List UInt8) : Int := ((Go.Weak.wb l % 65536 : Nat) : Int)

theorem hA_snoc (l : List UInt8) (b : UInt8) : (hA l + b.toNat) % 65536 = hA (l ++ [b]) := by
  unfold hA; rw [Go.Weak.wa_snoc]; omega

theorem hB_snoc (l : List UInt8) (b : UInt8) : (hB l + hA (l ++ [b])) % 65536 = hB (l ++ [b]) := by
  unfold hA hB; rw [Go.Weak.wa_snoc, Go.Weak.wb_snoc]; omega

theorem hA_nonneg (l : List UInt8) : 0 ≤ hA l := by unfold hA; omega

theorem hA_lt (l : List UInt8) : hA l < 65536 := by unfold hA; omega

theorem hB_nonneg (l : List UInt8) : 0 ≤ hB l := by unfold hB; omega

theorem hB_lt (l : List UInt8) : hB l < 65536 := by unfold hB; omega
end Go.Proofs.YtcenohaadggdiacDoor

namespace Go.Proofs.YtcenohaadggdiacDoor
open Go.RowKit

set_option maxHeartbeats 1000000 in
set_option maxRecDepth 100000 in
theorem wsumOf_ok (s : ByteArray) (w : World) (hs : s.size ≤ 1000000) : Calls Tryd.prog 45 #[.string s] w fun r w' => r = .returned (hv (hA s.data.toList) (hB s.data.toList)) ∧ Below w.heap.size w w' := by
  have hs' : (s.size : Int) ≤ 1000000 := by omega
  go_enter Tryd.func45, Tryd.ntmps45
  go_wp2_with fail
  go_loopw [4] (fun t wr => ∃ i : Nat, t = .int .i64 i ∧ i ≤ s.size ∧ Hid (HvAt (w.heap.size + 1) wr (hA (s.data.toList.take i)) (hB (s.data.toList.take i))) ∧ Hid (HvAt w.heap.size wr 0 0) ∧ Hid (Below w.heap.size w wr)) (fun t _ => s.size - (intOf t).toNat)
  case atStart =>
    refine ⟨0, rfl, by omega, ?_, ?_, ?_⟩
    · have h := HvAt.fresh (w.alloc (.cells #[.int .i64 0, .int .i64 0] 84)) 0 0 84
      rw [show (w.alloc (.cells #[.int .i64 0, .int .i64 0] 84)).heap.size = w.heap.size + 1 by simp] at h
      exact h
    · exact (HvAt.fresh w 0 0 84).below ((Below.refl _ _).alloc (Nat.le_refl _) _) (by simp)
    · exact ((Below.refl _ _).alloc (Nat.le_refl _) _).alloc (by simp) _
  case round =>
    obtain ⟨i, rfl, hi, Hh, Hr, Hb⟩ := hrel
    by_cases hlt : i < s.size
    · have hlt' : (i : Int) < s.size := by omega
      have hx := byte_lt s[i]
      have HC := hide (fun W => hadd_ok (hA (s.data.toList.take i)) (hB (s.data.toList.take i)) s[i].toNat W (hA_nonneg _) (hA_lt _) (hB_nonneg _) (hB_lt _) (by omega) (by omega))
      have ea := hA_snoc (s.data.toList.take i) s[i]
      have eb := hB_snoc (s.data.toList.take i) s[i]
      rw [← takeL s i hlt] at ea eb
      have E := hide (And.intro ea (show (hB (s.data.toList.take i) + (hA (s.data.toList.take i) + s[i].toNat)) % 65536 = hB (s.data.toList.take (i + 1)) by rw [← eb, ← ea]; omega))
      clear ea eb hx
      generalize hA (s.data.toList.take i) = a at *
      generalize hB (s.data.toList.take i) = b at *
      obtain ⟨c0, c1, f0, f1, lt⟩ := Hh.out
      unfold hv at HC
      go_wp2_with fail
      go_region_with (go_at_call 69; refine (HC.out _).mono ?_; rintro e w2 ⟨rfl, hb2⟩; have Hb2 := hide hb2; clear hb2; obtain ⟨k0, k1, g0, g1, klt⟩ := Hh.out.drew.below Hb2.out lt)
      all_goals rw [E.out.1, E.out.2]
      all_goals go_wp2_with fail
      all_goals
        go_roundw
        case rel =>
          refine ⟨i + 1, by go_num, by omega, ?_, ?_, ?_⟩
          · exact (Hh.out.drew.below Hb2.out lt).set _ _
          · exact ((Hr.out.drew.below Hb2.out (Nat.lt_trans (by simp) lt)).below (((Below.refl (w.heap.size + 1) _).setCell (by simp) _).setCell (by simp) _) (by simp))
          · exact ((Hb.out.drew.trans (Hb2.out.mono (Nat.le_trans (by simp) (Nat.le_of_lt lt)))).setCell (by simp) _).setCell (by simp) _
        case measure => simp [intOf]; omega
    · have hle : (s.size : Int) ≤ i := by omega
      obtain rfl : i = s.size := by omega
      rw [← lenL s, List.take_length] at Hh
      obtain ⟨c0, c1, f0, f1, lt⟩ := Hh.out
      obtain ⟨r0, r1, q0, q1, _⟩ := Hr.out
      go_wp2_with fail
      (try simp only [Exit.inBlock, Exit.then])
      refine bodyPost_ret (v := hv (hA s.data.toList) (hB s.data.toList)) ?_ rfl ⟨rfl, (Hb.out.setCell (by simp) _).setCell (by simp) _⟩
      obtain ⟨s0, s1, _, _, _⟩ := Hr.out.set (hA s.data.toList) (hB s.data.toList)
      simp only [results, show Tryd.f45.results = #[.cell 2 84] from rfl]
      go_simp
      rfl

/-- The sum of a text. -/
def wk (l : List UInt8) : Int := hA l + 65536 * hB l

theorem wk_weak (l : List UInt8) : wk l = Go.Weak.weak l := by unfold wk hA hB Go.Weak.weak; omega

theorem wk_bounds (l : List UInt8) : 0 ≤ wk l ∧ wk l < 4294967296 := by
  have := hA_nonneg l; have := hA_lt l; have := hB_nonneg l; have := hB_lt l
  unfold wk; omega

set_option maxHeartbeats 1000000 in
set_option maxRecDepth 100000 in
theorem wSum_ok (s : ByteArray) (w : World) (hs : s.size ≤ 1000000) : Calls Tryd.prog 28 #[.string s] w fun r w' => r = .returned (.int .i64 (wk s.data.toList)) ∧ Below w.heap.size w w' := by
  have H1 := hide (fun W => wsumOf_ok s W hs)
  have H2 := hide (fun W => hwhole_ok (hA s.data.toList) (hB s.data.toList) W (hA_nonneg _) (hA_lt _) (hB_nonneg _) (hB_lt _))
  unfold wk
  unfold hv at H1 H2
  generalize hA s.data.toList = a at *
  generalize hB s.data.toList = b at *
  go_enter Tryd.func28, Tryd.ntmps28
  go_wp2_with fail
  refine (H1.out _).mono ?_
  rintro e w1 ⟨rfl, hb1⟩
  have Hb1 := hide hb1
  clear hb1
  go_wp2_with fail
  refine (H2.out _).mono ?_
  rintro e w2 ⟨rfl, hb2⟩
  have Hb2 := hide (bthen Hb1.out hb2)
  clear hb2 Hb1
  go_wp2_with fail
  go_ret
  exact ⟨rfl, Hb2.out⟩
end Go.Proofs.YtcenohaadggdiacDoor

namespace Go.Crc

def sh (c : Nat) : Nat := c / 2 ^^^ 3988292384 * (c % 2)
def shs : Nat → Nat → Nat
  | 0, c => c
  | k + 1, c => sh (shs k c)
def run (c : Nat) : List UInt8 → Nat
  | [] => c
  | b :: r => run (shs 8 (c ^^^ b.toNat)) r
def ones : Nat := 4294967295
def crc (c : Nat) (l : List UInt8) : Nat := run (c ^^^ ones) l ^^^ ones

theorem xor_mod2 (a b : Nat) : (a ^^^ b) % 2 = (a + b) % 2 := by
  have h := Nat.testBit_xor a b 0
  rw [Nat.testBit_zero, Nat.testBit_zero, Nat.testBit_zero] at h
  rcases Nat.mod_two_eq_zero_or_one (a ^^^ b) with e | e <;> rcases Nat.mod_two_eq_zero_or_one a with ha | ha <;> rcases Nat.mod_two_eq_zero_or_one b with hb | hb <;> simp [e, ha, hb] at h <;> omega

theorem xor_ac (a b c d : Nat) : (a ^^^ b) ^^^ (c ^^^ d) = (a ^^^ c) ^^^ (b ^^^ d) := by
  rw [Nat.xor_assoc, ← Nat.xor_assoc b c d, Nat.xor_comm b c, Nat.xor_assoc c b d, ← Nat.xor_assoc]
theorem sh_xor (a b : Nat) : sh (a ^^^ b) = sh a ^^^ sh b := by
  unfold sh
  rw [Nat.xor_div_two, xor_ac, xor_mod2]
  congr 1
  rcases Nat.mod_two_eq_zero_or_one a with ha | ha <;> rcases Nat.mod_two_eq_zero_or_one b with hb | hb <;> simp [Nat.add_mod, ha, hb]
theorem sh_zero : sh 0 = 0 := rfl
theorem sh_lt (c : Nat) (h : c < 2 ^ 32) : sh c < 2 ^ 32 := by
  unfold sh
  refine Nat.xor_lt_two_pow (by omega) ?_
  have := Nat.mod_two_eq_zero_or_one c
  rcases this with e | e <;> rw [e] <;> decide
theorem sh_ker (c : Nat) (h : c < 2 ^ 32) (e : sh c = 0) : c = 0 := by
  unfold sh at e
  have e' : c / 2 = 3988292384 * (c % 2) := by
    have h := congrArg (· ^^^ 3988292384 * (c % 2)) e
    simp only [Nat.xor_assoc, Nat.xor_self, Nat.xor_zero, Nat.zero_xor] at h
    exact h
  omega

theorem shs_xor (k a b : Nat) : shs k (a ^^^ b) = shs k a ^^^ shs k b := by
  induction k with
  | zero => rfl
  | succ k ih => rw [shs, shs, shs, ih, sh_xor]
theorem shs_zero (k : Nat) : shs k 0 = 0 := by
  induction k with
  | zero => rfl
  | succ k ih => rw [shs, ih, sh_zero]
theorem shs_lt (k c : Nat) (h : c < 2 ^ 32) : shs k c < 2 ^ 32 := by
  induction k with
  | zero => exact h
  | succ k ih => exact sh_lt _ ih
theorem shs_ker (k c : Nat) (h : c < 2 ^ 32) (e : shs k c = 0) : c = 0 := by
  induction k with
  | zero => exact e
  | succ k ih => exact ih (sh_ker _ (shs_lt k c h) e)
theorem shs_add (j k c : Nat) : shs (j + k) c = shs j (shs k c) := by
  induction j with
  | zero => rw [Nat.zero_add]; rfl
  | succ j ih => rw [Nat.succ_add, shs, shs, ih]
theorem shs_inner (k c : Nat) : shs (k + 1) c = shs k (sh c) := shs_add k 1 c

theorem byte_lt32 (b : UInt8) : b.toNat < 2 ^ 32 := by have := b.toNat_lt; omega
theorem run_lt (c : Nat) (l : List UInt8) (h : c < 2 ^ 32) : run c l < 2 ^ 32 := by
  induction l generalizing c with
  | nil => exact h
  | cons b r ih => exact ih _ (shs_lt 8 _ (Nat.xor_lt_two_pow h (byte_lt32 b)))
theorem run_append (c : Nat) (l m : List UInt8) : run c (l ++ m) = run (run c l) m := by
  induction l generalizing c with
  | nil => rfl
  | cons b r ih => exact ih _
theorem run_snoc (c : Nat) (l : List UInt8) (b : UInt8) : run c (l ++ [b]) = shs 8 (run c l ^^^ b.toNat) := by
  rw [run_append]; rfl
theorem run_xor (c d : Nat) (l : List UInt8) : run (c ^^^ d) l = run c l ^^^ shs (8 * l.length) d := by
  induction l generalizing c d with
  | nil => rfl
  | cons b r ih =>
    rw [run, run, show c ^^^ d ^^^ b.toNat = (c ^^^ b.toNat) ^^^ d by rw [Nat.xor_assoc, Nat.xor_comm d, ← Nat.xor_assoc], shs_xor, ih, List.length_cons, Nat.mul_add, shs_add]

theorem ones_lt : ones < 2 ^ 32 := by decide
theorem crc_lt (c : Nat) (l : List UInt8) (h : c < 2 ^ 32) : crc c l < 2 ^ 32 :=
  Nat.xor_lt_two_pow (run_lt _ _ (Nat.xor_lt_two_pow h ones_lt)) ones_lt
theorem xor_twice (a b : Nat) : a ^^^ b ^^^ b = a := by rw [Nat.xor_assoc, Nat.xor_self, Nat.xor_zero]
theorem crc_append (c : Nat) (l m : List UInt8) : crc (crc c l) m = crc c (l ++ m) := by
  unfold crc
  rw [xor_twice, run_append]
theorem crc_nil (c : Nat) : crc c [] = c := xor_twice c ones
/-- What is joined is what is summed at once. -/
theorem crc_join (c : Nat) (l m : List UInt8) : shs (8 * m.length) (crc c l) ^^^ crc 0 m = crc c (l ++ m) := by
  rw [← crc_append]
  generalize crc c l = x
  rw [crc, crc, Nat.zero_xor, Nat.xor_comm x, run_xor, ← Nat.xor_assoc, Nat.xor_comm (shs _ _)]
theorem join_join (j k a b c : Nat) : shs (8 * k) (shs (8 * j) a ^^^ b) ^^^ c = shs (8 * (j + k)) a ^^^ (shs (8 * k) b ^^^ c) := by
  rw [shs_xor, ← shs_add, Nat.xor_assoc, ← Nat.mul_add, Nat.add_comm k j]

/-- A bit that is turned, in a byte: the sums part by what that bit makes over the rest. -/
theorem crc_turn (l m : List UInt8) (b d : UInt8) : crc 0 (l ++ b :: m) ^^^ crc 0 (l ++ d :: m) = shs (8 * m.length) (shs 8 (b.toNat ^^^ d.toNat)) := by
  have key : ∀ c x y : Nat, ∀ m : List UInt8, run (shs 8 (c ^^^ x)) m ^^^ run (shs 8 (c ^^^ y)) m = shs (8 * m.length) (shs 8 (x ^^^ y)) := by
    intro c x y m
    have e : shs 8 (c ^^^ x) = shs 8 (c ^^^ y) ^^^ shs 8 (x ^^^ y) := by
      rw [← shs_xor]
      congr 1
      rw [xor_ac, Nat.xor_self, Nat.xor_zero]
    rw [e, run_xor, Nat.xor_comm, ← Nat.xor_assoc, Nat.xor_self, Nat.zero_xor]
  unfold crc
  rw [run_append, run_append, run, run, xor_ac, Nat.xor_self, Nat.xor_zero, key]
theorem shs_ne (k c : Nat) (h : c < 2 ^ 32) (h0 : c ≠ 0) : shs k c ≠ 0 := fun e => h0 (shs_ker k c h e)
theorem xor_ne {a b : Nat} (h : a ^^^ b ≠ 0) : a ≠ b := fun e => h (by rw [e, Nat.xor_self])

/-- The lowest bit of a number, and the rest of them. -/
theorem low_rest (c : Nat) (h0 : c ≠ 0) (h : c < 2 ^ 32) : c = (c &&& (c - 1)) ^^^ 2 ^ Lib.ctz 32 c ∧ c &&& (c - 1) < c ∧ Lib.ctz 32 c < 32 := by
  obtain ⟨m, hm, hk⟩ := Lib.ctzFrom_spec 32 c (by omega) h
  rw [Lib.ctz, if_neg h0]
  generalize Lib.ctzFrom 32 c = k at *
  have hp : 0 < 2 ^ k := Nat.two_pow_pos k
  have ha : c &&& (c - 1) = 2 ^ k * (2 * m) := by
    rw [hm]
    apply Nat.eq_of_testBit_eq
    intro i
    have e : 2 ^ k * (2 * m + 1) - 1 = 2 ^ k * (2 * m) + (2 ^ k - 1) := by rw [Nat.mul_add, Nat.mul_one]; omega
    rw [e, Nat.testBit_and]
    by_cases hik : i < k
    · have : (2 ^ k * (2 * m + 1)).testBit i = false := by rw [Nat.mul_comm, Nat.testBit_mul_two_pow]; simp; omega
      rw [this, Bool.false_and, Nat.mul_comm, Nat.testBit_mul_two_pow]; simp; omega
    · rw [Nat.testBit_two_pow_mul_add _ (by omega), if_neg hik, Nat.mul_comm, Nat.testBit_mul_two_pow, Nat.mul_comm (2 ^ k), Nat.testBit_mul_two_pow]
      by_cases he : i = k
      · subst he; simp [Nat.testBit_zero]
      · obtain ⟨j, hj⟩ : ∃ j, i - k = j + 1 := ⟨i - k - 1, by omega⟩
        rw [hj, Nat.testBit_succ, Nat.testBit_succ, show (2 * m + 1) / 2 = 2 * m / 2 by omega]
        simp
  refine ⟨?_, ?_, hk⟩
  · rw [ha]
    conv => lhs; rw [hm]
    apply Nat.eq_of_testBit_eq
    intro i
    rw [Nat.testBit_xor, Nat.testBit_two_pow, Nat.mul_comm, Nat.testBit_mul_two_pow, Nat.mul_comm (2 ^ k), Nat.testBit_mul_two_pow]
    by_cases hik : k ≤ i
    · by_cases he : k = i
      · subst he; simp [Nat.testBit_zero]
      · obtain ⟨j, hj⟩ : ∃ j, i - k = j + 1 := ⟨i - k - 1, by omega⟩
        rw [hj, Nat.testBit_succ, Nat.testBit_succ, show (2 * m + 1) / 2 = 2 * m / 2 by omega]
        simp [he]
    · simp [hik]; omega
  · rw [ha, hm, Nat.mul_add]; omega
end Go.Crc

namespace Go.Proofs.YtcenohaadggdiacDoor
open Go.RowKit

theorem i64_xor_nat (a b : Nat) (ha : a < 9223372036854775808) (hb : b < 9223372036854775808) : bits .xor .i64 (a : Int) (b : Int) = ((a ^^^ b : Nat) : Int) := by
  have hx : a ^^^ b < 2 ^ 63 := Nat.xor_lt_two_pow (by omega) (by omega)
  have h1 : (BitVec.ofInt 64 (a : Int)).toNat = a := by
    rw [BitVec.ofInt_natCast, BitVec.toNat_ofNat]; exact Nat.mod_eq_of_lt (by omega)
  have h2 : (BitVec.ofInt 64 (b : Int)).toNat = b := by
    rw [BitVec.ofInt_natCast, BitVec.toNat_ofNat]; exact Nat.mod_eq_of_lt (by omega)
  show IntKind.i64.wrap ((BitVec.ofInt 64 (a : Int) ^^^ BitVec.ofInt 64 (b : Int)).toNat : Int) = _
  rw [BitVec.toNat_xor, h1, h2, IntKind.wrap_i64]
  omega
theorem i64_and_nat (a b : Nat) (ha : a < 9223372036854775808) (hb : b < 9223372036854775808) : bits .and .i64 (a : Int) (b : Int) = ((a &&& b : Nat) : Int) := by
  have hx : a &&& b < 2 ^ 63 := Nat.and_lt_two_pow _ (by omega)
  have h1 : (BitVec.ofInt 64 (a : Int)).toNat = a := by
    rw [BitVec.ofInt_natCast, BitVec.toNat_ofNat]; exact Nat.mod_eq_of_lt (by omega)
  have h2 : (BitVec.ofInt 64 (b : Int)).toNat = b := by
    rw [BitVec.ofInt_natCast, BitVec.toNat_ofNat]; exact Nat.mod_eq_of_lt (by omega)
  show IntKind.i64.wrap ((BitVec.ofInt 64 (a : Int) &&& BitVec.ofInt 64 (b : Int)).toNat : Int) = _
  rw [BitVec.toNat_and, h1, h2, IntKind.wrap_i64]
  omega
theorem ret_u32 {a b : Int} (h : a = b) : Ending.returned (.int .u32 a) = .returned (.int .u32 b) := by rw [h]

theorem u32_sh (x : Nat) (hx : x < 2 ^ 32) : bits .xor .u32 ((x : Int) / 2) (3988292384 * bits .and .u32 (x : Int) 1 % 4294967296) = (Go.Crc.sh x : Nat) := by
  have e1 : bits .and .u32 (x : Int) 1 = ((x % 2 : Nat) : Int) := by
    rw [show (1 : Int) = ((1 : Nat) : Int) from rfl, u32_and_nat x 1 hx (by omega), nat_mask1]
  rw [e1, show (x : Int) / 2 = ((x / 2 : Nat) : Int) by omega, show (3988292384 * ((x % 2 : Nat) : Int) % 4294967296) = ((3988292384 * (x % 2) : Nat) : Int) by omega, u32_xor_nat _ _ (by omega) (by omega)]
  rfl

set_option maxHeartbeats 1000000 in
set_option maxRecDepth 100000 in
theorem divide_ok (c : Nat) (w : World) (hc : c < 4294967296) : Calls Tryd.prog 70 #[.int .u32 c] w fun r w' => r = .returned (.int .u32 (Go.Crc.shs 8 c : Nat)) ∧ w' = w := by
  go_enter Tryd.func70, Tryd.ntmps70
  go_wp2_with fail
  go_loop [0, 3] (fun t0 t3 => ∃ i : Nat, t3 = .int .i64 i ∧ i ≤ 8 ∧ t0 = .int .u32 (Go.Crc.shs i c : Nat)) (fun _ t3 => 8 - (intOf t3).toNat)
  case atStart => exact ⟨0, rfl, by omega, rfl⟩
  case round =>
    obtain ⟨i, rfl, hi, rfl⟩ := hrel
    have hx := Go.Crc.shs_lt i c hc
    have He : Hid (Go.Crc.sh (Go.Crc.shs i c) = Go.Crc.shs (i + 1) c) := rfl
    by_cases hlt : i < 8
    · have hlt' : (i : Int) < 8 := by omega
      generalize Go.Crc.shs i c = x at *
      go_wp2_with fail
      go_round
      case rel => exact ⟨i + 1, by go_num, by omega, by rw [u32_sh x hx, He.out]⟩
      case measure => simp [intOf]; omega
    · have hle : (8 : Int) ≤ i := by omega
      obtain rfl : i = 8 := by omega
      go_wp2_with fail
      go_ret
      exact ⟨rfl, rfl⟩

theorem u32_not (c : Nat) (hc : c < 4294967296) : bits .xor .u32 IntKind.u32.max (c : Int) = ((c ^^^ Go.Crc.ones : Nat) : Int) := by
  rw [show IntKind.u32.max = ((Go.Crc.ones : Nat) : Int) from rfl, u32_xor_nat _ _ Go.Crc.ones_lt hc, Nat.xor_comm]

set_option maxHeartbeats 1000000 in
set_option maxRecDepth 100000 in
theorem more_ok (c : Nat) (s : ByteArray) (w : World) (hc : c < 4294967296) (hs : s.size ≤ 1000000) : Calls Tryd.prog 47 #[.int .u32 c, .string s] w fun r w' => r = .returned (.int .u32 (Go.Crc.crc c s.data.toList : Nat)) ∧ w' = w := by
  have hs' : (s.size : Int) ≤ 1000000 := by omega
  have hsg : IntKind.u32.signed = false := rfl
  have hnot := u32_not c hc
  have hc1 : c ^^^ Go.Crc.ones < 2 ^ 32 := Nat.xor_lt_two_pow hc Go.Crc.ones_lt
  have Hc : Hid (Go.Crc.crc c s.data.toList = Go.Crc.run (c ^^^ Go.Crc.ones) s.data.toList ^^^ Go.Crc.ones) := rfl
  generalize c ^^^ Go.Crc.ones = d at *
  go_enter Tryd.func47, Tryd.ntmps47
  go_wp2_with fail
  go_loop [0, 5] (fun t0 t5 => ∃ i : Nat, t5 = .int .i64 i ∧ i ≤ s.size ∧ t0 = .int .u32 (Go.Crc.run d (s.data.toList.take i) : Nat)) (fun _ t5 => s.size - (intOf t5).toNat)
  case atStart => exact ⟨0, rfl, by omega, rfl⟩
  case round =>
    obtain ⟨i, rfl, hi, rfl⟩ := hrel
    have hx : Go.Crc.run d (s.data.toList.take i) < 2 ^ 32 := Go.Crc.run_lt _ _ hc1
    by_cases hlt : i < s.size
    · have hlt' : (i : Int) < s.size := by omega
      have hb := byte_lt s[i]
      have hn := Go.Crc.run_snoc d (s.data.toList.take i) s[i]
      rw [← takeL s i hlt] at hn
      have He := hide hn
      clear hn
      generalize Go.Crc.run d (s.data.toList.take i) = x at *
      have hxb : x ^^^ s[i].toNat < 2 ^ 32 := Nat.xor_lt_two_pow hx (by omega)
      have hxe : bits .xor .u32 (x : Int) (s[i].toNat : Int) = ((x ^^^ s[i].toNat : Nat) : Int) := u32_xor_nat _ _ hx (by omega)
      have HD := hide (fun W => divide_ok (x ^^^ s[i].toNat) W hxb)
      go_wp2_with fail
      refine (HD.out _).mono ?_
      rintro e w1 ⟨rfl, rfl⟩
      go_wp2_with fail
      go_round
      case rel => exact ⟨i + 1, by go_num, by omega, by rw [He.out]⟩
      case measure => simp [intOf]; omega
    · have hle : (s.size : Int) ≤ i := by omega
      obtain rfl : i = s.size := by omega
      have ht : s.data.toList.take s.size = s.data.toList := by rw [← lenL s, List.take_length]
      rw [ht] at hx ⊢
      have hn2 := u32_not _ hx
      rw [← Hc.out] at hn2
      clear ht Hc
      generalize Go.Crc.run d s.data.toList = x at *
      go_wp2_with fail
      go_ret
      exact ⟨rfl, rfl⟩

set_option maxHeartbeats 1000000 in
theorem sum_ok (s : ByteArray) (w : World) (hs : s.size ≤ 1000000) : Calls Tryd.prog 29 #[.string s] w fun r w' => r = .returned (.int .u32 (Go.Crc.crc 0 s.data.toList : Nat)) ∧ w' = w := by
  have H := hide (fun W => more_ok 0 s W (by omega) hs)
  generalize Go.Crc.crc 0 s.data.toList = x at *
  go_enter Tryd.func29, Tryd.ntmps29
  go_wp2_with fail
  refine (H.out _).mono ?_
  rintro e w1 ⟨rfl, rfl⟩
  go_wp2_with fail
  go_ret
  exact ⟨rfl, rfl⟩
end Go.Proofs.YtcenohaadggdiacDoor
