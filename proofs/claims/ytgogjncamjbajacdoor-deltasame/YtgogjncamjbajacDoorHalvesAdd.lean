/-
  Contracts of the halves of a sum that rolls (package weak) over this dump: what a sum alone reaches.
-/
import Derived.Test.YtgogjncamjbajacDoorBase
import Derived.Test.YtgogjncamjbajacDoorWeakMath
import Derived.Deep.RegionHeld3
namespace Go.Proofs.YtgogjncamjbajacDoor
open Go.RowKit

def hv (a b : Int) : Value := .agg #[.int .i64 a, .int .i64 b]

/-- Two numbers at block p. -/
structure HvAt (p : Nat) (w : World) (a b : Int) : Prop where
  c0 : w.cell? ⟨p, 0, none⟩ = some (.int .i64 a)
  c1 : w.cell? ⟨p, 1, none⟩ = some (.int .i64 b)
  f0 : w.frozen? ⟨p, 0, none⟩ = false
  f1 : w.frozen? ⟨p, 1, none⟩ = false
  lt : p < w.heap.size

theorem HvAt.below {p k : Nat} {w w' : World} {a b : Int} (h : HvAt p w a b) (hb : Below k w w') (hp : p < k) : HvAt p w' a b :=
  ⟨(hb.cell (p := ⟨p, 0, none⟩) (by simpa using hp)).trans h.c0, (hb.cell (p := ⟨p, 1, none⟩) (by simpa using hp)).trans h.c1, (hb.frozen (p := ⟨p, 0, none⟩) (by simpa using hp)).trans h.f0, (hb.frozen (p := ⟨p, 1, none⟩) (by simpa using hp)).trans h.f1, Nat.lt_of_lt_of_le h.lt hb.size⟩

theorem HvAt.set {p : Nat} {w : World} {a b : Int} (h : HvAt p w a b) (c d : Int) : HvAt p ((w.setCell ⟨p, 0, none⟩ (.int .i64 c)).setCell ⟨p, 1, none⟩ (.int .i64 d)) c d := by
  obtain ⟨c0, c1, f0, f1, lt⟩ := h
  refine ⟨?_, ?_, by simpa using f0, by simpa using f1, by simpa using lt⟩
  · rw [World.cell?_setCell_other _ _ _ _ (by simp)]; exact World.cell?_setCell_same _ _ _ c0
  · exact World.cell?_setCell_same _ _ _ (by rw [World.cell?_setCell_other _ _ _ _ (by simp)]; exact c1)

theorem HvAt.drew {p : Nat} {w : World} {a b : Int} (h : HvAt p w a b) : HvAt p w.drew a b := ⟨h.c0, h.c1, h.f0, h.f1, h.lt⟩

theorem HvAt.fresh (w : World) (a b : Int) (t : TypeId) : HvAt w.heap.size (w.alloc (.cells #[.int .i64 a, .int .i64 b] t)) a b :=
  ⟨by simp, by simp, by simp, by simp, by simp⟩

theorem wrap_id (x : Int) (h0 : -9223372036854775808 ≤ x) (h1 : x ≤ 9223372036854775807) : wrap64 x = x := by unfold wrap64; omega

theorem iwrap_id (x : Int) (h0 : -9223372036854775808 ≤ x) (h1 : x ≤ 9223372036854775807) : IntKind.i64.wrap x = x := by rw [IntKind.wrap_i64]; omega

theorem mod_eq (n : Int) : (wrap64 (n.tmod 65536 + 65536)).tmod 65536 = n % 65536 := by
  have := Int.tmod_eq_emod (a := n) (b := 65536)
  have h1 : -65536 < n.tmod 65536 := by split at this <;> omega
  have h2 : n.tmod 65536 < 65536 := by split at this <;> omega
  rw [wrap_id _ (by omega) (by omega), Int.tmod_eq_emod_of_nonneg (by omega)]
  split at this <;> omega

theorem hmod_ok (n : Int) (w : World) : Calls Tryd.prog 64 #[.int .i64 n] w fun r w' => r = .returned (.int .i64 (n % 65536)) ∧ w' = w := by
  go_enter Tryd.func64, Tryd.ntmps64
  go_wp2
  go_ret
  exact ⟨ret_int (mod_eq n), rfl⟩

theorem hwhole_ok (a b : Int) (w : World) (a0 : 0 ≤ a) (a1 : a < 65536) (b0 : 0 ≤ b) (b1 : b < 65536) : Calls Tryd.prog 42 #[hv a b] w fun r w' => r = .returned (.int .i64 (a + 65536 * b)) ∧ Below w.heap.size w w' := by
  unfold hv
  go_enter Tryd.func42, Tryd.ntmps42
  go_wp2
  go_ret
  exact ⟨rfl, (Below.refl _ _).alloc (Nat.le_refl _) _⟩

theorem hadd_ok (a b x : Int) (w : World) (a0 : 0 ≤ a) (a1 : a < 65536) (b0 : 0 ≤ b) (b1 : b < 65536) (x0 : 0 ≤ x) (x1 : x < 256) : Calls Tryd.prog 59 #[hv a b, .int .u8 x] w fun r w' => r = .returned (hv ((a + x) % 65536) ((b + (a + x) % 65536) % 65536)) ∧ Below w.heap.size w w' := by
  unfold hv
  go_enter Tryd.func59, Tryd.ntmps59
  go_wp2_with fail
  refine (hmod_ok _ _).mono ?_
  rintro e w1 ⟨rfl, rfl⟩
  go_wp2_with fail
  refine (hmod_ok _ _).mono ?_
  rintro e w1 ⟨rfl, rfl⟩
  go_wp2_with fail
  (try simp only [Exit.inBlock, Exit.then])
  refine bodyPost_ret (v := hv ((a + x) % 65536) ((b + (a + x) % 65536) % 65536)) ?_ rfl ⟨rfl, ((Below.refl _ _).alloc (Nat.le_refl _) _).alloc (by simp) _⟩
  simp only [results, show Tryd.f59.results = #[.cell 4 77] from rfl]
  go_simp
  rfl

theorem lt_mod (n : Int) : n % 65536 < 65536 := Int.emod_lt_of_pos _ (by decide)

theorem ge_mod (n : Int) : 0 ≤ n % 65536 := Int.emod_nonneg _ (by decide)

/-- The halves of a text. -/
def hA (l : List UInt8) : Int := ((Go.Weak.wa l % 65536 : Nat) : Int)

def hB (l : List UInt8) : Int := ((Go.Weak.wb l % 65536 : Nat) : Int)

theorem hA_snoc (l : List UInt8) (b : UInt8) : (hA l + b.toNat) % 65536 = hA (l ++ [b]) := by
  unfold hA; rw [Go.Weak.wa_snoc]; omega

theorem hB_snoc (l : List UInt8) (b : UInt8) : (hB l + hA (l ++ [b])) % 65536 = hB (l ++ [b]) := by
  unfold hA hB; rw [Go.Weak.wa_snoc, Go.Weak.wb_snoc]; omega

theorem hA_nonneg (l : List UInt8) : 0 ≤ hA l := by unfold hA; omega

theorem hA_lt (l : List UInt8) : hA l < 65536 := by unfold hA; omega

theorem hB_nonneg (l : List UInt8) : 0 ≤ hB l := by unfold hB; omega

theorem hB_lt (l : List UInt8) : hB l < 65536 := by unfold hB; omega
end Go.Proofs.YtgogjncamjbajacDoor
