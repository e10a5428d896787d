/-
  Contracts of isLength, drop and roll of the halves of a sum that rolls (package weak) over this dump.
-/
import Derived.Test.YtgogjncamjbajacDoorHalvesAdd
import Derived.Deep.RegionHeld3
namespace Go.Proofs.YtgogjncamjbajacDoor
open Go.RowKit

theorem isLength_ok (n : Int) (w : World) : Calls Tryd.prog 61 #[.int .i64 n] w fun r w' => r = .returned (.bool (decide (1 ≤ n ∧ n ≤ 4000))) ∧ w' = w := by
  by_cases h0 : 1 ≤ n
  · go_enter Tryd.func61, Tryd.ntmps61
    go_wp2
    go_ret
    exact ⟨ret_bool (by simp [h0]), rfl⟩
  · have h0' : decide (1 ≤ n) = false := by simp; omega
    go_enter Tryd.func61, Tryd.ntmps61
    go_wp2
    go_ret
    exact ⟨ret_bool (by simp), rfl⟩

set_option maxHeartbeats 1000000 in
theorem hdrop_ok (a b n x : Int) (w : World) (a0 : 0 ≤ a) (a1 : a < 65536) (b0 : 0 ≤ b) (b1 : b < 65536) (n0 : 0 ≤ n) (n1 : n ≤ 4000) (x0 : 0 ≤ x) (x1 : x < 256) : Calls Tryd.prog 65 #[hv a b, .int .i64 n, .int .u8 x] w fun r w' => r = .returned (hv ((a - x) % 65536) ((b - n * x) % 65536)) ∧ Below w.heap.size w w' := by
  have hm0 : 0 ≤ n * x := Int.mul_nonneg n0 x0
  have hm1 : n * x ≤ 4000 * 256 := Int.mul_le_mul n1 (by omega) x0 (by omega)
  have e1 : IntKind.i64.wrap x = x := iwrap_id _ (by omega) (by omega)
  have e2 : IntKind.i64.wrap (a - x) = a - x := iwrap_id _ (by omega) (by omega)
  have e3 : IntKind.i64.wrap (n * x) = n * x := iwrap_id _ (by omega) (by omega)
  have e4 : IntKind.i64.wrap (b - n * x) = b - n * x := iwrap_id _ (by omega) (by omega)
  have E := hide (And.intro e1 (And.intro e2 (And.intro e3 e4)))
  clear e1 e2 e3 e4 hm0 hm1
  unfold hv
  go_enter Tryd.func65, Tryd.ntmps65
  go_wp2_with fail
  go_region_held3 (fun w' => w'.cell? ⟨w.heap.size, 0, none⟩ = some (.int .i64 a) ∧ w'.cell? ⟨w.heap.size, 1, none⟩ = some (.int .i64 b)) (go_keep)
        (first | (go_at_call 64; refine (hmod_ok _ _).mono ?_; rintro e w' ⟨rfl, rfl⟩))
  obtain ⟨e1, e2, e3, e4⟩ := E.out
  simp only [e1, e2, e3, e4]
  go_wp2_with fail
  (try simp only [Exit.inBlock, Exit.then])
  refine bodyPost_ret (v := hv ((a - x) % 65536) ((b - n * x) % 65536)) ?_ rfl ⟨rfl, (((Below.refl _ _).alloc (Nat.le_refl _) _).alloc (by simp) _).drew⟩
  simp only [results, show Tryd.f65.results = #[.cell 6 77] from rfl]
  go_simp
  rfl

/-- What a roll makes of the halves. -/
def rollA (a x y : Int) : Int := ((a - x) % 65536 + y) % 65536

def rollB (a b n x y : Int) : Int := ((b - n * x) % 65536 + ((a - x) % 65536 + y) % 65536) % 65536

set_option maxHeartbeats 1000000 in
theorem hroll_ok (a b n x y : Int) (w : World) (a0 : 0 ≤ a) (a1 : a < 65536) (b0 : 0 ≤ b) (b1 : b < 65536) (n0 : 0 ≤ n) (n1 : n ≤ 4000) (x0 : 0 ≤ x) (x1 : x < 256) (y0 : 0 ≤ y) (y1 : y < 256) : Calls Tryd.prog 62 #[hv a b, .int .i64 n, .int .u8 x, .int .u8 y] w fun r w' => r = .returned (hv (rollA a x y) (rollB a b n x y)) ∧ Below w.heap.size w w' := by
  have H1 := hide (fun W => hdrop_ok a b n x W a0 a1 b0 b1 n0 n1 x0 x1)
  have H2 := hide (fun W => hadd_ok ((a - x) % 65536) ((b - n * x) % 65536) y W (ge_mod _) (lt_mod _) (ge_mod _) (lt_mod _) y0 y1)
  unfold hv at *
  unfold rollA rollB
  generalize (a - x) % 65536 = a1 at *
  generalize (b - n * x) % 65536 = b1 at *
  go_enter Tryd.func62, Tryd.ntmps62
  go_wp2_with fail
  refine (H1.out _).mono ?_
  rintro e w1 ⟨rfl, hb1⟩
  have Hb1 := hide hb1
  clear hb1
  go_wp2_with fail
  refine (H2.out _).mono ?_
  rintro e w2 ⟨rfl, hb2⟩
  have Hb2 := hide hb2
  clear hb2
  have hr : HvAt (w.heap.size + 1) w2 0 0 := by
    have h := HvAt.fresh (w.alloc (.cells #[.int .i64 a, .int .i64 b] 77)) 0 0 77
    rw [show (w.alloc (.cells #[.int .i64 a, .int .i64 b] 77)).heap.size = w.heap.size + 1 by simp] at h
    exact (h.below Hb1.out (by simp)).below Hb2.out (Nat.lt_of_lt_of_le (by simp) Hb1.out.size)
  have Hb : Hid (Below w.heap.size w w2) := ((((Below.refl _ _).alloc (Nat.le_refl _) _).alloc (by simp) _).trans (Hb1.out.mono (by simp; omega))).trans (Hb2.out.mono (Nat.le_trans (by simp; omega) Hb1.out.size))
  have Hr := hide hr
  clear Hb1 Hb2
  obtain ⟨r0, r1, q0, q1, _⟩ := hr
  go_wp2_with fail
  (try simp only [Exit.inBlock, Exit.then])
  refine bodyPost_ret (v := hv ((a1 + y) % 65536) ((b1 + (a1 + y) % 65536) % 65536)) ?_ rfl ⟨rfl, (Hb.out.setCell (by simp) _).setCell (by simp) _⟩
  obtain ⟨s0, s1, _, _, _⟩ := Hr.out.set ((a1 + y) % 65536) ((b1 + (a1 + y) % 65536) % 65536)
  simp only [results, show Tryd.f62.results = #[.cell 8 77] from rfl]
  go_simp
  rfl
end Go.Proofs.YtgogjncamjbajacDoor
