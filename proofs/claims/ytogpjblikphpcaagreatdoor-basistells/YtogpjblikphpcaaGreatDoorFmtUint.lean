/-
  Contract of strconv.FormatUint at base 10, for numbers of 32 bits.
-/
import Derived.Test.YtogpjblikphpcaaGreatDoorLibNum
import Derived.Test.YtogpjblikphpcaaGreatDoorPutRow
import Derived.Lib.ItoaMem
namespace Go.Proofs.YtogpjblikphpcaaGreatDoor
open Go.RowKit
open Go.Digits (digits)

/-- The new block's bytes are a row of zeros. -/
theorem zeros_row (w : World) (T : TypeId) (nd : Nat) (hs : nd ≤ 24) : Sort.Holds (fun (b : UInt8) => Value.int .u8 (b.toNat : Int)) (w.alloc (.cells Lib.zeros24 T)) w.heap.size 0 (Array.replicate nd (0 : UInt8)) := fun j hj => by
  have hj' : j < nd := by simpa using hj
  refine ⟨?_, World.frozen?_alloc_new _ _ _ _⟩
  rw [World.cell?_alloc_new, Lib.zeros24_at _ (by omega), getElem!_pos _ j hj]
  simp

set_option maxHeartbeats 4000000 in
set_option maxRecDepth 100000 in
theorem fmtUintIn_ok (u : Nat) (W : World) (hu : u ≤ 4294967295) (hT : Lib.TabIs Tryz.prog W "internal/strconv.uint64pow10" .u64 Lib.pow10Tab) :
    Calls Tryz.prog 95 #[.int .u64 u, .int .i64 10] W fun r w' => r = .returned (.string (str (digits u))) ∧ Below W.heap.size W w' := by
  by_cases hs : u < 100
  · have HS := hide (fun W' => Tryz.internal_strconv_small u hs W')
    have hs' : (u : Int) < 100 := by omega
    have hw : IntKind.i64.wrap (u : Int) = u := iwrap_id _ (by omega) (by omega)
    clear hT
    go_enter Tryz.func95, Tryz.ntmps95
    go_wp2_with fail
    refine (HS.out _).mono ?_
    rintro e w1 ⟨rfl, rfl⟩
    go_wp2_with fail
    go_ret
    exact ⟨by rw [Go.Digits.dec_digits]; rfl, Below.refl _ _⟩
  · have hs' : (100 : Int) ≤ u := by omega
    have hu1 : 1 ≤ u := by omega
    have hu64 : u < 18446744073709551616 := by omega
    have hnd : Lib.nDigits u ≤ 20 := by have := Lib.numDigits_eq u hu1 hu64; split at this <;> omega
    have hal : Tryz.prog.arrayLen 182 = 24 := by simp [Program.arrayLen, Tryz.underlying182]
    have hsl : ∀ W', (Instr.sliceAt 182 (.pointer (some ⟨W.heap.size, 0, none⟩)) none (some (.int .i64 (Lib.nDigits u : Int))) none).run Tryz.prog W' = .ok (.slice (some ⟨W.heap.size, 0, none⟩) (Lib.nDigits u) 24) W' := fun W' => by
      rw [run_sliceAt_array_h W' 182 ⟨W.heap.size, 0, none⟩ (by simp [Program.arrayLen, Program.elem, Tryz.underlying182]) .i64 (Lib.nDigits u : Int) (by omega) (by rw [hal]; omega)]
      go_simp
    have HN := hide (Tryz.internal_strconv_numDigits u hu1 hu64 (W.alloc (.cells Lib.zeros24 182)) (Lib.tabIs_alloc hT _))
    have hH0 := zeros_row W 182 (Lib.nDigits u) (by omega)
    have hfmt := Tryz.internal_strconv_formatBase10 W.heap.size 0 24 u (Array.replicate (Lib.nDigits u) 0) (W.alloc (.cells Lib.zeros24 182)) hH0 (by rw [Array.size_replicate]; exact Lib.lt_pow_nDigits u) hu64 (by rw [Array.size_replicate]; omega)
    rw [Array.size_replicate] at hfmt
    have HF := hide hfmt
    have HH0 := hide hH0
    clear hfmt hH0 hal hT
    go_enter Tryz.func95, Tryz.ntmps95
    go_wp2_with fail
    refine HN.out.mono ?_
    rintro e w1 ⟨rfl, rfl⟩
    go_wp2_with fail
    refine HF.out.mono ?_
    rintro e w2 ⟨rfl, k, v', dk, rfl, hF⟩
    have hcv : (convert 90 9 (.slice (some ⟨W.heap.size, 0, none⟩) (Lib.nDigits u) 24)).run Tryz.prog ((Sort.putRow (fun (b : UInt8) => Value.int .u8 (b.toNat : Int)) (W.alloc (.cells Lib.zeros24 182)) W.heap.size 0 dk).drewN k) = .ok (.string ⟨(Lib.decDigits u).toArray⟩) ((Sort.putRow (fun (b : UInt8) => Value.int .u8 (b.toNat : Int)) (W.alloc (.cells Lib.zeros24 182)) W.heap.size 0 dk).drewN k) := by
      have h := run_convert_bytes_back (P := Tryz.prog) ((Sort.putRow (fun (b : UInt8) => Value.int .u8 (b.toNat : Int)) (W.alloc (.cells Lib.zeros24 182)) W.heap.size 0 dk).drewN k) 90 9 5 ⟨W.heap.size, 0, none⟩ 24 (Lib.decDigits u) Tryz.underlying90 Tryz.underlying5 Tryz.underlying9 (fun j hj => by
        rw [Lib.row_is_numeral hF j hj, Lib.add_plain, World.cell?_drewN]
        exact Sort.cell?_putRow (fun (b : UInt8) => Value.int .u8 (b.toNat : Int)) _ W.heap.size 0 _ dk HH0.out (by rw [hF.size, Array.size_replicate]) j (by rw [hF.size]; rw [Lib.decDigits_length] at hj; exact hj))
      rw [Lib.decDigits_length] at h
      exact h
    have HB : Hid (Below W.heap.size W ((Sort.putRow (fun (b : UInt8) => Value.int .u8 (b.toNat : Int)) (W.alloc (.cells Lib.zeros24 182)) W.heap.size 0 dk).drewN k)) :=
      below_drewN (below_putRow _ 0 dk ((Below.refl _ _).alloc (Nat.le_refl _) _) (Nat.le_refl _)) k
    have HFi := hide hF
    clear hF HF HN HH0
    generalize ((Sort.putRow (fun (b : UInt8) => Value.int .u8 (b.toNat : Int)) (W.alloc (.cells Lib.zeros24 182)) W.heap.size 0 dk).drewN k) = W2 at *
    go_wp2_with fail
    go_ret
    exact ⟨by rw [Go.Digits.dec_digits]; rfl, HB.out⟩

set_option maxRecDepth 100000 in
theorem fmtUint_ok (u : Nat) (W : World) (hu : u ≤ 4294967295) (hT : Lib.TabIs Tryz.prog W "internal/strconv.uint64pow10" .u64 Lib.pow10Tab) :
    Calls Tryz.prog 72 #[.int .u64 u, .int .i64 10] W fun r w' => r = .returned (.string (str (digits u))) ∧ Below W.heap.size W w' := by
  have H := hide (fmtUintIn_ok u W hu hT)
  clear hT
  go_enter Tryz.func72, Tryz.ntmps72
  go_wp2_with fail
  refine H.out.mono ?_
  rintro e w1 ⟨rfl, hb⟩
  have HB := hide hb
  clear hb H
  go_wp2_with fail
  go_ret
  exact ⟨rfl, HB.out⟩
end Go.Proofs.YtogpjblikphpcaaGreatDoor
