/-
  Contracts of the halves of a sum that rolls (package weak) over this dump.
-/
import Derived.Test.YtbfgjehkjmmceabBase
import Derived.Test.YtbfgjehkjmmceabWeakMath
import Derived.Deep.RegionHeld3
namespace Go.Proofs.Ytbfgjehkjmmceab
open Go.RowKit

def hv (a b : Int) : Value := .agg #[.int .i64 a, .int .i64 b]

/-- Two numbers at block p. -/
structure HvAt (p : Nat) (w : World) (a b : Int) : Prop where
  c0 : w.cell? ⟨p, 0, none⟩ = some (.int .i64 a)
  c1 : w.cell? ⟨p, 1, none⟩ = some (.int .i64 b)
  f0 : w.frozen? ⟨p, 0, none⟩ = false
  f1 : w.frozen? ⟨p, 1, none⟩ = false
  lt : p < w.heap.size
theorem HvAt.below {p k : Nat} {w w' : World} {a b : Int} (h : HvAt p w a b) (hb : Below k w w') (hp : p < k) : HvAt p w' a b :=
  ⟨(hb.cell (p := ⟨p, 0, none⟩) (by simpa using hp)).trans h.c0, (hb.cell (p := ⟨p, 1, none⟩) (by simpa using hp)).trans h.c1, (hb.frozen (p := ⟨p, 0, none⟩) (by simpa using hp)).trans h.f0, (hb.frozen (p := ⟨p, 1, none⟩) (by simpa using hp)).trans h.f1, Nat.lt_of_lt_of_le h.lt hb.size⟩
theorem HvAt.set {p : Nat} {w : World} {a b : Int} (h : HvAt p w a b) (c d : Int) : HvAt p ((w.setCell ⟨p, 0, none⟩ (.int .i64 c)).setCell ⟨p, 1, none⟩ (.int .i64 d)) c d := by
  obtain ⟨c0, c1, f0, f1, lt⟩ := h
  refine ⟨?_, ?_, by simpa using f0, by simpa using f1, by simpa using lt⟩
  · rw [World.cell?_setCell_other _ _ _ _ (by simp)]; exact World.cell?_setCell_same _ _ _ c0
  · exact World.cell?_setCell_same _ _ _ (by rw [World.cell?_setCell_other _ _ _ _ (by simp)]; exact c1)
theorem HvAt.drew {p : Nat} {w : World} {a b : Int} (h : HvAt p w a b) : HvAt p w.drew a b := ⟨h.c0, h.c1, h.f0, h.f1, h.lt⟩
theorem HvAt.fresh (w : World) (a b : Int) (t : TypeId) : HvAt w.heap.size (w.alloc (.cells #[.int .i64 a, .int .i64 b] t)) a b :=
  ⟨by simp, by simp, by simp, by simp, by simp⟩

theorem wrap_id (x : Int) (h0 : -9223372036854775808 ≤ x) (h1 : x ≤ 9223372036854775807) : wrap64 x = x := by unfold wrap64; omega
theorem iwrap_id (x : Int) (h0 : -9223372036854775808 ≤ x) (h1 : x ≤ 9223372036854775807) : IntKind.i64.wrap x = x := by rw [IntKind.wrap_i64]; omega

theorem mod_eq (n : Int) : (wrap64 (n.tmod 65536 + 65536)).tmod 65536 = n % 65536 := by
  have := Int.tmod_eq_emod (a := n) (b := 65536)
  have h1 : -65536 < n.tmod 65536 := by split at this <;> omega
  have h2 : n.tmod 65536 < 65536 := by split at this <;> omega
  rw [wrap_id _ (by omega) (by omega), Int.tmod_eq_emod_of_nonneg (by omega)]
  split at this <;> omega

theorem mod_ok (n : Int) (w : World) : Calls Try.prog 16 #[.int .i64 n] w fun r w' => r = .returned (.int .i64 (n % 65536)) ∧ w' = w := by
  go_enter Try.func16, Try.ntmps16
  go_wp2
  go_ret
  exact ⟨ret_int (mod_eq n), rfl⟩

theorem isSum_ok (n : Int) (w : World) : Calls Try.prog 12 #[.int .i64 n] w fun r w' => r = .returned (.bool (decide (0 ≤ n ∧ n < 4294967296))) ∧ w' = w := by
  by_cases h0 : 0 ≤ n
  · go_enter Try.func12, Try.ntmps12
    go_wp2
    go_ret
    exact ⟨ret_bool (by simp [h0]), rfl⟩
  · have h0' : decide (0 ≤ n) = false := by simp; omega
    go_enter Try.func12, Try.ntmps12
    go_wp2
    go_ret
    exact ⟨ret_bool (by simp), rfl⟩

theorem isLength_ok (n : Int) (w : World) : Calls Try.prog 8 #[.int .i64 n] w fun r w' => r = .returned (.bool (decide (1 ≤ n ∧ n ≤ 4000))) ∧ w' = w := by
  by_cases h0 : 1 ≤ n
  · go_enter Try.func8, Try.ntmps8
    go_wp2
    go_ret
    exact ⟨ret_bool (by simp [h0]), rfl⟩
  · have h0' : decide (1 ≤ n) = false := by simp; omega
    go_enter Try.func8, Try.ntmps8
    go_wp2
    go_ret
    exact ⟨ret_bool (by simp), rfl⟩

theorem halve_ok (n : Int) (w : World) (h0 : 0 ≤ n) (h1 : n < 4294967296) : Calls Try.prog 13 #[.int .i64 n] w fun r w' => r = .returned (hv (n % 65536) (n / 65536)) ∧ Below w.heap.size w w' := by
  go_enter Try.func13, Try.ntmps13
  go_wp2
  (try simp only [Exit.inBlock, Exit.then])
  refine bodyPost_ret (v := hv (n % 65536) (n / 65536)) ?_ rfl ⟨rfl, (Below.refl _ _).alloc (Nat.le_refl _) _⟩
  simp only [results, show Try.f13.results = #[.cell 2 30] from rfl]
  go_simp
  rfl

theorem whole_ok (a b : Int) (w : World) (a0 : 0 ≤ a) (a1 : a < 65536) (b0 : 0 ≤ b) (b1 : b < 65536) : Calls Try.prog 10 #[hv a b] w fun r w' => r = .returned (.int .i64 (a + 65536 * b)) ∧ Below w.heap.size w w' := by
  unfold hv
  go_enter Try.func10, Try.ntmps10
  go_wp2
  go_ret
  exact ⟨rfl, (Below.refl _ _).alloc (Nat.le_refl _) _⟩

theorem add_ok (a b x : Int) (w : World) (a0 : 0 ≤ a) (a1 : a < 65536) (b0 : 0 ≤ b) (b1 : b < 65536) (x0 : 0 ≤ x) (x1 : x < 256) : Calls Try.prog 14 #[hv a b, .int .u8 x] w fun r w' => r = .returned (hv ((a + x) % 65536) ((b + (a + x) % 65536) % 65536)) ∧ Below w.heap.size w w' := by
  unfold hv
  go_enter Try.func14, Try.ntmps14
  go_wp2_with fail
  refine (mod_ok _ _).mono ?_
  rintro e w1 ⟨rfl, rfl⟩
  go_wp2_with fail
  refine (mod_ok _ _).mono ?_
  rintro e w1 ⟨rfl, rfl⟩
  go_wp2_with fail
  (try simp only [Exit.inBlock, Exit.then])
  refine bodyPost_ret (v := hv ((a + x) % 65536) ((b + (a + x) % 65536) % 65536)) ?_ rfl ⟨rfl, ((Below.refl _ _).alloc (Nat.le_refl _) _).alloc (by simp) _⟩
  simp only [results, show Try.f14.results = #[.cell 4 30] from rfl]
  go_simp
  rfl

set_option maxHeartbeats 1000000 in
theorem drop_ok (a b n x : Int) (w : World) (a0 : 0 ≤ a) (a1 : a < 65536) (b0 : 0 ≤ b) (b1 : b < 65536) (n0 : 0 ≤ n) (n1 : n ≤ 4000) (x0 : 0 ≤ x) (x1 : x < 256) : Calls Try.prog 15 #[hv a b, .int .i64 n, .int .u8 x] w fun r w' => r = .returned (hv ((a - x) % 65536) ((b - n * x) % 65536)) ∧ Below w.heap.size w w' := by
  have hm0 : 0 ≤ n * x := Int.mul_nonneg n0 x0
  have hm1 : n * x ≤ 4000 * 256 := Int.mul_le_mul n1 (by omega) x0 (by omega)
  have e1 : IntKind.i64.wrap x = x := iwrap_id _ (by omega) (by omega)
  have e2 : IntKind.i64.wrap (a - x) = a - x := iwrap_id _ (by omega) (by omega)
  have e3 : IntKind.i64.wrap (n * x) = n * x := iwrap_id _ (by omega) (by omega)
  have e4 : IntKind.i64.wrap (b - n * x) = b - n * x := iwrap_id _ (by omega) (by omega)
  have E := hide (And.intro e1 (And.intro e2 (And.intro e3 e4)))
  clear e1 e2 e3 e4 hm0 hm1
  unfold hv
  go_enter Try.func15, Try.ntmps15
  go_wp2_with fail
  go_region_held3 (fun w' => w'.cell? ⟨w.heap.size, 0, none⟩ = some (.int .i64 a) ∧ w'.cell? ⟨w.heap.size, 1, none⟩ = some (.int .i64 b)) (go_keep)
        (first | (go_at_call 16; refine (mod_ok _ _).mono ?_; rintro e w' ⟨rfl, rfl⟩))
  obtain ⟨e1, e2, e3, e4⟩ := E.out
  simp only [e1, e2, e3, e4]
  go_wp2_with fail
  (try simp only [Exit.inBlock, Exit.then])
  refine bodyPost_ret (v := hv ((a - x) % 65536) ((b - n * x) % 65536)) ?_ rfl ⟨rfl, (((Below.refl _ _).alloc (Nat.le_refl _) _).alloc (by simp) _).drew⟩
  simp only [results, show Try.f15.results = #[.cell 6 30] from rfl]
  go_simp
  rfl

theorem lt_mod (n : Int) : n % 65536 < 65536 := Int.emod_lt_of_pos _ (by decide)
theorem ge_mod (n : Int) : 0 ≤ n % 65536 := Int.emod_nonneg _ (by decide)

/-- What a roll makes of the halves. -/
def rollA (a x y : Int) : Int := ((a - x) % 65536 + y) % 65536
def rollB (a b n x y : Int) : Int := ((b - n * x) % 65536 + ((a - x) % 65536 + y) % 65536) % 65536

set_option maxHeartbeats 1000000 in
theorem roll_ok (a b n x y : Int) (w : World) (a0 : 0 ≤ a) (a1 : a < 65536) (b0 : 0 ≤ b) (b1 : b < 65536) (n0 : 0 ≤ n) (n1 : n ≤ 4000) (x0 : 0 ≤ x) (x1 : x < 256) (y0 : 0 ≤ y) (y1 : y < 256) : Calls Try.prog 11 #[hv a b, .int .i64 n, .int .u8 x, .int .u8 y] w fun r w' => r = .returned (hv (rollA a x y) (rollB a b n x y)) ∧ Below w.heap.size w w' := by
  have H1 := hide (fun W => drop_ok a b n x W a0 a1 b0 b1 n0 n1 x0 x1)
  have H2 := hide (fun W => add_ok ((a - x) % 65536) ((b - n * x) % 65536) y W (ge_mod _) (lt_mod _) (ge_mod _) (lt_mod _) y0 y1)
  unfold hv at *
  unfold rollA rollB
  generalize (a - x) % 65536 = a1 at *
  generalize (b - n * x) % 65536 = b1 at *
  go_enter Try.func11, Try.ntmps11
  go_wp2_with fail
  refine (H1.out _).mono ?_
  rintro e w1 ⟨rfl, hb1⟩
  have Hb1 := hide hb1
  clear hb1
  go_wp2_with fail
  refine (H2.out _).mono ?_
  rintro e w2 ⟨rfl, hb2⟩
  have Hb2 := hide hb2
  clear hb2
  have hr : HvAt (w.heap.size + 1) w2 0 0 := by
    have h := HvAt.fresh (w.alloc (.cells #[.int .i64 a, .int .i64 b] 30)) 0 0 30
    rw [show (w.alloc (.cells #[.int .i64 a, .int .i64 b] 30)).heap.size = w.heap.size + 1 by simp] at h
    exact (h.below Hb1.out (by simp)).below Hb2.out (Nat.lt_of_lt_of_le (by simp) Hb1.out.size)
  have Hb : Hid (Below w.heap.size w w2) := ((((Below.refl _ _).alloc (Nat.le_refl _) _).alloc (by simp) _).trans (Hb1.out.mono (by simp; omega))).trans (Hb2.out.mono (Nat.le_trans (by simp; omega) Hb1.out.size))
  have Hr := hide hr
  clear Hb1 Hb2
  obtain ⟨r0, r1, q0, q1, _⟩ := hr
  go_wp2_with fail
  (try simp only [Exit.inBlock, Exit.then])
  refine bodyPost_ret (v := hv ((a1 + y) % 65536) ((b1 + (a1 + y) % 65536) % 65536)) ?_ rfl ⟨rfl, (Hb.out.setCell (by simp) _).setCell (by simp) _⟩
  obtain ⟨s0, s1, _, _, _⟩ := Hr.out.set ((a1 + y) % 65536) ((b1 + (a1 + y) % 65536) % 65536)
  simp only [results, show Try.f11.results = #[.cell 8 30] from rfl]
  go_simp
  rfl

/-- The halves of a text. -/
def hA (l : List UInt8) : Int := ((Go.Weak.wa l % 65536 : Nat) : Int)
def hB (l : List UInt8) : Int := ((Go.Weak.wb l % 65536 : Nat) : Int)
theorem hA_snoc (l : List UInt8) (b : UInt8) : (hA l + b.toNat) % 65536 = hA (l ++ [b]) := by
  unfold hA; rw [Go.Weak.wa_snoc]; omega
theorem hB_snoc (l : List UInt8) (b : UInt8) : (hB l + hA (l ++ [b])) % 65536 = hB (l ++ [b]) := by
  unfold hA hB; rw [Go.Weak.wa_snoc, Go.Weak.wb_snoc]; omega
theorem hA_nonneg (l : List UInt8) : 0 ≤ hA l := by unfold hA; omega
theorem hA_lt (l : List UInt8) : hA l < 65536 := by unfold hA; omega
theorem hB_nonneg (l : List UInt8) : 0 ≤ hB l := by unfold hB; omega
theorem hB_lt (l : List UInt8) : hB l < 65536 := by unfold hB; omega
end Go.Proofs.Ytbfgjehkjmmceab
