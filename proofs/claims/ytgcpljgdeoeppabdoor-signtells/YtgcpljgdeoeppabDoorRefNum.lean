/-
  Contracts of the document's answer for numbers (Byte, NumText, Counted, NumOf, TextOf) over this dump.
-/
import Derived.Test.YtgcpljgdeoeppabDoorGet
namespace Go.Proofs.YtgcpljgdeoeppabDoor
open Go.RowKit

set_option maxHeartbeats 400000 in
set_option maxRecDepth 100000 in
theorem byte_ok (n : Int) (w : World) (h0 : 0 ≤ n) (h1 : n < 256) : Calls Tryd.prog 59 #[.int .i64 n] w fun r w' => r = .returned (.string (str [UInt8.ofNat n.toNat])) ∧ Below w.heap.size w w' := by
  have hcv := run_convert_bytes_arg (P := Tryd.prog) (w.alloc (.cells #[.int .u8 n] 5)) 32 5 Tryd.underlying32 Tryd.underlying5 w.heap.size 0 1 1 [n] rfl (fun i hi => by
    have : i = 0 := by omega
    subst this; simp) 9 Tryd.underlying9
  have e : strOfNums [n] = str [UInt8.ofNat n.toNat] := rfl
  rw [e] at hcv
  go_enter Tryd.func59, Tryd.ntmps59
  go_wp2
  go_ret
  exact ⟨rfl, (Below.refl _ _).alloc (Nat.le_refl _) _⟩

theorem bthen' {w w1 w2 : World} (h : Below w.heap.size w w1) (k : Below w1.heap.size w1 w2) : Below w.heap.size w w2 := h.trans (k.mono h.size)

set_option maxHeartbeats 400000 in
set_option maxRecDepth 100000 in
theorem numText_ok (n : Nat) (w : World) (hn : n ≤ 1099511627776) : Calls Tryd.prog 44 #[.int .i64 n] w fun r w' => r = .returned (.string (str (Go.Num.enc n))) ∧ Below w.heap.size w w' := by
  have hn1 : (n : Int) ≤ 1099511627776 := by omega
  have hlen := Go.Num.enc_length_le n
  go_enter Tryd.func44, Tryd.ntmps44
  go_wp2_with fail
  go_loopw [0, 3] (fun t o wr => ∃ (k m : Nat) (cur : List UInt8), t = .int .i64 m ∧ o = .string (str cur) ∧ m ≤ 1099511627776 ∧ m < 128 ^ (k + 1) ∧ Hid (cur ++ Go.Num.encF k m = Go.Num.enc n) ∧ Hid (Below w.heap.size w wr)) (fun t _ _ => (intOf t).toNat)
  case atStart => exact ⟨5, n, [], rfl, rfl, hn, by omega, rfl, Below.refl _ _⟩
  case round =>
    obtain ⟨k, m, cur, rfl, rfl, hm, hmk, He, Hb⟩ := hrel
    have hcur : cur.length ≤ 6 := by
      have := congrArg List.length He.out
      simp at this; omega
    have hsz : (str cur).size ≤ 6 := by rw [str_len]; exact hcur
    have Hsa := hide (fun b => str_app cur b)
    generalize hA : str cur = A at *
    have HA := hide hA
    clear hA
    by_cases hlt : 128 ≤ m
    · have hlt' : (128 : Int) ≤ m := by omega
      have hm1 : (m : Int) ≤ 1099511627776 := by omega
      go_wp2_with fail
      refine (byte_ok _ _ (by omega) (by omega)).mono ?_
      rintro e w2 ⟨rfl, hb2⟩
      have Hb2 := hide (bthen' Hb.out hb2)
      clear hb2
      rw [show ((m : Int) % 128 + 128).toNat = m % 128 + 128 by omega]
      have hz := Hsa.out [UInt8.ofNat (m % 128 + 128)]
      have hbs : (str [UInt8.ofNat (m % 128 + 128)]).size ≤ 1 := by rw [str_len]; simp
      generalize str [UInt8.ofNat (m % 128 + 128)] = B at *
      have Hz := hide hz
      clear hz
      go_wp2_with fail
      go_roundw
      case rel =>
        match k with
        | 0 => simp at hmk; omega
        | k + 1 =>
          refine ⟨k, m / 128, cur ++ [UInt8.ofNat (m % 128 + 128)], by go_num, by rw [Hz.out], by omega, ?_, ?_, Hb2.out⟩
          · rw [Nat.div_lt_iff_lt_mul (by omega)]
            rw [Nat.pow_succ] at hmk; exact hmk
          · have := He.out
            rw [Go.Num.encF_big _ _ hlt] at this
            simpa [Hid] using this
      case measure => simp [intOf]; omega
    · have hm1 : (m : Int) < 128 := by omega
      go_wp2_with fail
      refine (byte_ok _ _ (by omega) (by omega)).mono ?_
      rintro e w2 ⟨rfl, hb2⟩
      have Hb2 := hide (bthen' Hb.out hb2)
      clear hb2
      rw [Int.toNat_natCast]
      have hz := Hsa.out [UInt8.ofNat m]
      have hbs : (str [UInt8.ofNat m]).size ≤ 1 := by rw [str_len]; simp
      generalize str [UInt8.ofNat m] = B at *
      have Hz := hide hz
      clear hz
      go_wp2_with fail
      go_ret
      have he := He.out
      rw [Go.Num.encF_small _ _ (by omega)] at he
      rw [← he, ← Hz.out]
      exact ⟨rfl, Hb2.out⟩
end Go.Proofs.YtgcpljgdeoeppabDoor
