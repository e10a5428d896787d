/-
  Contract of the document's NumberOf over this dump.
-/
import Derived.Test.YtogpjblikphpcaaGreatDoorBase
import Derived.Test.YtogpjblikphpcaaGreatDoorDigits
import Derived.Deep.DeepCutAuto
import Derived.WalkSmall
namespace Go.Proofs.YtogpjblikphpcaaGreatDoor
open Go.RowKit
open Go.Digits (numberOf isDigit value)

/-- What NumberOf answers. -/
def numI (l : List UInt8) (most : Nat) : Int := match numberOf l most with | none => -1 | some n => n
theorem value_take {s : ByteArray} {j : Nat} (h : j < s.size) : value 0 (s.data.toList.take (j + 1)) = 10 * value 0 (s.data.toList.take j) + (s[j].toNat - 48) := by
  rw [takeL s j h, Go.Digits.value_snoc]
theorem value_less : ∀ (l : List UInt8) (acc : Nat), l.all isDigit = true → value acc l < (acc + 1) * 10 ^ l.length
  | [], acc, _ => by simp [value]
  | b :: l, acc, h => by
    simp only [List.all_cons, Bool.and_eq_true, isDigit, decide_eq_true_eq] at h
    have h1 := value_less l (10 * acc + (b.toNat - 48)) h.2
    have e : value acc (b :: l) = value (10 * acc + (b.toNat - 48)) l := rfl
    rw [e, List.length_cons, Nat.pow_succ]
    refine Nat.lt_of_lt_of_le h1 ?_
    have h2 : 10 * acc + (b.toNat - 48) + 1 ≤ (acc + 1) * 10 := by omega
    calc (10 * acc + (b.toNat - 48) + 1) * 10 ^ l.length ≤ ((acc + 1) * 10) * 10 ^ l.length := Nat.mul_le_mul_right _ h2
      _ = (acc + 1) * (10 ^ l.length * 10) := by rw [Nat.mul_assoc, Nat.mul_comm 10 (10 ^ l.length)]
theorem value_small (l : List UInt8) (h : l.all isDigit = true) : value 0 l < 10 ^ l.length := by
  have := value_less l 0 h
  rwa [Nat.zero_add, Nat.one_mul] at this
theorem digit_false {s : ByteArray} {j : Nat} (h : j < s.size) (hc : isDigit s[j] = false) : s.data.toList.all isDigit = false := by
  rw [List.all_eq_false]
  exact ⟨s[j], by rw [← atL s j h]; exact List.getElem_mem _, by simp [hc]⟩
theorem digit_take (s : ByteArray) (j : Nat) (h : j < s.size) : (s.data.toList.take (j + 1)).all isDigit = ((s.data.toList.take j).all isDigit && isDigit s[j]) := by
  rw [takeL s j h, List.all_append]
  simp

set_option maxHeartbeats 1000000 in
set_option maxRecDepth 100000 in
theorem rnum_ok (s : ByteArray) (most : Nat) (hm : most ≤ 10) (hs : s.size ≤ 2000000) (W : World) : Calls Tryz.prog 48 #[.string s, .int .i64 most] W fun r w' => r = .returned (.int .i64 (numI s.data.toList most)) ∧ w' = W := by
  have hm' : (most : Int) ≤ 10 := by omega
  have hs' : (s.size : Int) ≤ 2000000 := by omega
  have hlen := lenL s
  by_cases h1 : s.size < 1
  · have hn : numI s.data.toList most = -1 := by
      unfold numI numberOf
      rw [if_pos (.inl (List.eq_nil_of_length_eq_zero (by omega)))]
    have h1' : (s.size : Int) < 1 := by omega
    rw [hn]
    clear hn hlen h1
    go_enter Tryz.func48, Tryz.ntmps48
    go_wp2_with fail
    go_ret
    exact ⟨rfl, rfl⟩
  by_cases h2 : most < s.size
  · have hn : numI s.data.toList most = -1 := by
      unfold numI numberOf
      rw [if_pos (.inr (.inl (by omega)))]
    have h1' : (1 : Int) ≤ s.size := by omega
    have h2' : (most : Int) < s.size := by omega
    rw [hn]
    clear hn hlen h1 h2
    go_enter Tryz.func48, Tryz.ntmps48
    go_wp2_with fail
    go_ret
    exact ⟨rfl, rfl⟩
  have h1' : (1 : Int) ≤ s.size := by omega
  have h2' : (s.size : Int) ≤ most := by omega
  have h0 : 0 < s.size := by omega
  have hhd : s.data.toList.head? = some s[0] := by
    rw [List.head?_eq_getElem?, List.getElem?_eq_getElem (by omega)]
    rfl
  have hbb := byte_lt s[0]
  by_cases h3 : 1 < s.size ∧ s[0] = 48
  · have hn : numI s.data.toList most = -1 := by
      unfold numI numberOf
      rw [if_pos (.inr (.inr (.inl ⟨by omega, by rw [hhd, h3.2]⟩)))]
    have h3' : (1 : Int) < s.size := by omega
    have h4' : (s[0].toNat : Int) = 48 := by rw [h3.2]; rfl
    have h4 : s[0].toNat = 48 := by rw [h3.2]; rfl
    rw [hn]
    clear hn hlen h1 h2 h3 hhd
    go_enter Tryz.func48, Tryz.ntmps48
    go_wp2_with fail
    go_ret
    exact ⟨rfl, rfl⟩
  have HA : Hid (s.data.toList.all isDigit = false → numI s.data.toList most = -1) := fun h => by
    unfold numI numberOf
    rw [if_pos (.inr (.inr (.inr h)))]
  have HT : Hid (s.data.toList.all isDigit = true → numI s.data.toList most = (value 0 s.data.toList : Nat)) := fun h => by
    unfold numI numberOf
    rw [if_neg]
    rintro (h5 | h5 | h5 | h5)
    · rw [h5] at hlen; simp at hlen; omega
    · omega
    · rw [hhd] at h5
      exact h3 ⟨by omega, by simpa using h5.2⟩
    · rw [h] at h5; cases h5
  have HD := hide (fun j h hc => digit_false (s := s) (j := j) h hc)
  have HK := hide (digit_take s)
  have HV := hide (fun j h => value_take (s := s) (j := j) h)
  have HS := hide (fun j (h : (s.data.toList.take j).all isDigit = true) => value_small _ h)
  have HL : Hid (s.data.toList.take s.size = s.data.toList) := by rw [← hlen, List.take_length]; exact rfl
  have Hlen := hide hlen
  generalize hR : numI s.data.toList most = R at *
  clear hR hlen hhd
  have h3' : (s.size : Int) ≤ 1 ∨ (1 : Int) < s.size ∧ ¬ (s[0].toNat : Int) = 48 := by
    by_cases h : 1 < s.size
    · refine .inr ⟨by omega, fun e => h3 ⟨h, UInt8.toNat_inj.1 (by rw [show (48 : UInt8).toNat = 48 from rfl]; omega)⟩⟩
    · exact .inl (by omega)
  go_enter Tryz.func48, Tryz.ntmps48
  go_upto_region 1 with fail
  go_cut [25] (fun v25 wc => v25 = .bool false ∧ wc = W)
  case first =>
    rcases h3' with h3' | ⟨h3', h4'⟩
    · clear HA HT HD HK HV HS HL Hlen
      go_wp2_with fail
      go_meet
      case rel => exact ⟨by rw [decide_eq_false (by omega)], rfl⟩
    · have h4 : ¬ s[0].toNat = 48 := by omega
      clear HA HT HD HK HV HS HL Hlen
      go_wp2_with fail
      go_meet
      case rel => exact ⟨by rw [decide_eq_false (by omega), beq_eq_false_iff_ne.2 h4']; rfl, rfl⟩
  case rest =>
    obtain ⟨rfl, rfl⟩ := hcut
    clear h3'
    go_wp2_with fail
    go_loop [5, 6] (fun t5 t6 => ∃ j : Nat, t6 = .int .i64 j ∧ t5 = .int .i64 (value 0 (s.data.toList.take j) : Nat) ∧ j ≤ s.size ∧ Hid ((s.data.toList.take j).all isDigit = true)) (fun _ t6 => s.size - (intOf t6).toNat)
    case atStart => exact ⟨0, rfl, rfl, Nat.zero_le _, rfl⟩
    case round =>
      obtain ⟨j, rfl, rfl, hj, Hj⟩ := hrel
      by_cases hlt : j < s.size
      · have hlt' : (j : Int) < s.size := by omega
        have hb := byte_lt s[j]
        have hk := HK.out j hlt
        rw [Hj.out, Bool.true_and] at hk
        have hvl := HS.out j Hj.out
        have hv10 : value 0 (s.data.toList.take j) < 1000000000 := by
          have : (10 : Nat) ^ (s.data.toList.take j).length ≤ 10 ^ 9 := Nat.pow_le_pow_right (by omega) (by rw [List.length_take]; omega)
          omega
        cases hd : isDigit s[j] with
        | false =>
          obtain rfl := HA.out (HD.out j hlt hd)
          have h6 : s[j].toNat < 48 ∨ 48 ≤ s[j].toNat ∧ 57 < s[j].toNat := by
            simp only [isDigit, decide_eq_false_iff_not] at hd
            omega
          clear HA HT HD HK HV HS HL Hlen hd hk hvl
          generalize value 0 (s.data.toList.take j) = V at *
          rcases h6 with h6 | ⟨h6, h7⟩
          · have h6' : (s[j].toNat : Int) < 48 := by omega
            go_wp2_with fail
            go_ret
            exact ⟨rfl, rfl⟩
          · have h6' : (48 : Int) ≤ s[j].toNat := by omega
            have h7' : (57 : Int) < s[j].toNat := by omega
            go_wp2_with fail
            go_ret
            exact ⟨rfl, rfl⟩
        | true =>
          have h6 : 48 ≤ s[j].toNat ∧ s[j].toNat ≤ 57 := by simpa [isDigit] using hd
          obtain ⟨h6, h7⟩ := h6
          rw [hd] at hk
          have Hk := hide hk
          have Hv := hide (HV.out j hlt)
          have h6' : (48 : Int) ≤ s[j].toNat := by omega
          have h7' : (s[j].toNat : Int) ≤ 57 := by omega
          clear HA HT HD HK HV HS HL Hlen hd hk hvl
          generalize value 0 (s.data.toList.take j) = V at *
          go_wp2_with fail
          go_round
          case rel => exact ⟨j + 1, by go_num, by rw [Hv.out]; congr 1; omega, by omega, Hk.out⟩
          case measure => simp [intOf]; omega
      · have hle : (s.size : Int) ≤ (j : Int) := by omega
        obtain rfl : j = s.size := by omega
        have hj2 := Hj.out
        rw [HL.out] at hj2 ⊢
        obtain rfl := HT.out hj2
        clear HA HT HD HK HV HS HL Hlen hj2 Hj
        go_wp2_with fail
        go_ret
        exact ⟨rfl, rfl⟩
theorem rnumber_ok (s : ByteArray) (hs : s.size ≤ 2000000) (W : World) : Calls Tryz.prog 48 #[.string s, .int .i64 10] W fun r w' => r = .returned (.int .i64 (numI s.data.toList 10)) ∧ w' = W :=
  rnum_ok s 10 (Nat.le_refl _) hs W
end Go.Proofs.YtogpjblikphpcaaGreatDoor
