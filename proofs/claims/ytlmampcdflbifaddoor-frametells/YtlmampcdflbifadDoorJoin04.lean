/-
  Contracts of the document's answer for numbers (Byte, NumText, Counted, NumOf, TextOf) over this dump.
  Contracts of the document's answer for reading numbers and texts (NumOf, TextOf) over this dump: every text, every place in it.
  Contract of the document's answer for reading texts (TextOf) over this dump.
  Contracts of sum.divide, sum.More, sum.Sum over this dump; what the model spells for the bits of numbers.
  Contracts of the document's answer for sums of all (shift, MoreOf, SumOf, JoinSums) over this dump.
-/
import Derived.Test.YtlmampcdflbifadDoorJoin03
import Derived.Test.YtlmampcdflbifadDoorJoin01
import Derived.Test.YtlmampcdflbifadDoorJoin02
import Derived.Laws.BitsAllLaws
namespace Go.Proofs.YtlmampcdflbifadDoor
open Go.RowKit

set_option maxHeartbeats 400000 in
set_option maxRecDepth 100000 in
theorem byte_ok (n : Int) (w : World) (h0 : 0 ≤ n) (h1 : n < 256) : Calls Tryd.prog 66 #[.int .i64 n] w fun r w' => r = .returned (.string (str [UInt8.ofNat n.toNat])) ∧ Below w.heap.size w w' := by
  have hcv := run_convert_bytes_arg (P := Tryd.prog) (w.alloc (.cells #[.int .u8 n] 5)) 85 5 Tryd.underlying85 Tryd.underlying5 w.heap.size 0 1 1 [n] rfl (fun i hi => by
    have : i = 0 := by omega
    subst this; simp) 9 Tryd.underlying9
  have e : strOfNums [n] = str [UInt8.ofNat n.toNat] := rfl
  rw [e] at hcv
  go_enter Tryd.func66, Tryd.ntmps66
  go_wp2
  go_ret
  exact ⟨rfl, (Below.refl _ _).alloc (Nat.le_refl _) _⟩

theorem bthen' {w w1 w2 : World} (h : Below w.heap.size w w1) (k : Below w1.heap.size w1 w2) : Below w.heap.size w w2 := h.trans (k.mono h.size)

set_option maxHeartbeats 400000 in
set_option maxRecDepth 100000 in
theorem numText_ok (n : Nat) (w : World) (hn : n ≤ 1099511627776) : Calls Tryd.prog 67 #[.int .i64 n] w fun r w' => r = .returned (.string (str (Go.Num.enc n))) ∧ Below w.heap.size w w' := by
  have hn1 : (n : Int) ≤ 1099511627776 := by omega
  have hlen := Go.Num.enc_length_le n
  go_enter Tryd.func67, Tryd.ntmps67
  go_wp2_with fail
  go_loopw [0, 3] (fun t o wr => ∃ (k m : Nat) (cur : List UInt8), t = .int .i64 m ∧ o = .string (str cur) ∧ m ≤ 1099511627776 ∧ m < 128 ^ (k + 1) ∧ Hid (cur ++ Go.Num.encF k m = Go.Num.enc n) ∧ Hid (Below w.heap.size w wr)) (fun t _ _ => (intOf t).toNat)
  case atStart => exact ⟨5, n, [], rfl, rfl, hn, by omega, rfl, Below.refl _ _⟩
  case round =>
    obtain ⟨k, m, cur, rfl, rfl, hm, hmk, He, Hb⟩ := hrel
    have hcur : cur.length ≤ 6 := by
      have := congrArg List.length He.out
      simp at this; omega
    have hsz : (str cur).size ≤ 6 := by rw [str_len]; exact hcur
    have Hsa := hide (fun b => str_app cur b)
    generalize hA : str cur = A at *
    have HA := hide hA
    clear hA
    by_cases hlt : 128 ≤ m
    · have hlt' : (128 : Int) ≤ m := by omega
      have hm1 : (m : Int) ≤ 1099511627776 := by omega
      go_wp2_with fail
      refine (byte_ok _ _ (by omega) (by omega)).mono ?_
      rintro e w2 ⟨rfl, hb2⟩
      have Hb2 := hide (bthen' Hb.out hb2)
      clear hb2
      rw [show ((m : Int) % 128 + 128).toNat = m % 128 + 128 by omega]
      have hz := Hsa.out [UInt8.ofNat (m % 128 + 128)]
      have hbs : (str [UInt8.ofNat (m % 128 + 128)]).size ≤ 1 := by rw [str_len]; simp
      generalize str [UInt8.ofNat (m % 128 + 128)] = B at *
      have Hz := hide hz
      clear hz
      go_wp2_with fail
      go_roundw
      case rel =>
        match k with
        | 0 => simp at hmk; omega
        | k + 1 =>
          refine ⟨k, m / 128, cur ++ [UInt8.ofNat (m % 128 + 128)], by go_num, by rw [Hz.out], by omega, ?_, ?_, Hb2.out⟩
          · rw [Nat.div_lt_iff_lt_mul (by omega)]
            rw [Nat.pow_succ] at hmk; exact hmk
          · have := He.out
            rw [Go.Num.encF_big _ _ hlt] at this
            simpa [Hid] using this
      case measure => simp [intOf]; omega
    · have hm1 : (m : Int) < 128 := by omega
      go_wp2_with fail
      refine (byte_ok _ _ (by omega) (by omega)).mono ?_
      rintro e w2 ⟨rfl, hb2⟩
      have Hb2 := hide (bthen' Hb.out hb2)
      clear hb2
      rw [Int.toNat_natCast]
      have hz := Hsa.out [UInt8.ofNat m]
      have hbs : (str [UInt8.ofNat m]).size ≤ 1 := by rw [str_len]; simp
      generalize str [UInt8.ofNat m] = B at *
      have Hz := hide hz
      clear hz
      go_wp2_with fail
      go_ret
      have he := He.out
      rw [Go.Num.encF_small _ _ (by omega)] at he
      rw [← he, ← Hz.out]
      exact ⟨rfl, Hb2.out⟩
end Go.Proofs.YtlmampcdflbifadDoor

namespace Go.Proofs.YtlmampcdflbifadDoor
open Go.RowKit

/-- What NumOf answers: the number, the place behind it, an error's number. -/
def numOfOut (s : ByteArray) (at_ : Nat) : Nat × Nat × Nat :=
  match Go.Num.dec (s.data.toList.drop at_) with
  | .ok (n, k) => (n, at_ + k, 0)
  | .error c => (0, at_, c)

theorem step_by (acc P : Nat) (b : UInt8) (ha : acc < P) (hP : P ≤ 34359738368) : wrap64 ((acc : Int) + wrap64 ((b.toNat : Int) % 128 * (P : Int))) = ((acc + b.toNat % 128 * P : Nat) : Int) := by
  have hm : b.toNat % 128 ≤ 127 := by omega
  have h1 : b.toNat % 128 * P ≤ 127 * P := Nat.mul_le_mul_right _ hm
  have e : (b.toNat : Int) % 128 * (P : Int) = ((b.toNat % 128 * P : Nat) : Int) := by rw [Int.natCast_mul]; simp
  rw [e]
  generalize b.toNat % 128 * P = q at *
  unfold wrap64
  omega

theorem pow_bd (j : Nat) (h : j < 6) : 128 ^ j ≤ 34359738368 := by
  match j, h with
  | 0, _ => decide
  | 1, _ => decide
  | 2, _ => decide
  | 3, _ => decide
  | 4, _ => decide
  | 5, _ => decide

theorem numOf_lt (s : ByteArray) (at_ n i : Nat) (h : Go.Num.scan 6 (s.data.toList.drop at_) 0 0 = some (n, i)) : numOfOut s at_ = if 0 < i ∧ (s.data.toList.drop at_)[i]? = some 0 then (0, at_, 1) else if 1099511627776 < n then (0, at_, 2) else (n, at_ + (i + 1), 0) := by
  unfold numOfOut
  rw [dec_of_scan _ _ _ h]
  split
  · rename_i n' k heq
    split at heq
    · cases heq
    · split at heq
      · cases heq
      · rename_i h1 h2
        cases heq
        rw [if_neg h1, if_neg h2]
  · rename_i c heq
    split at heq
    · rename_i h1
      cases heq
      rw [if_pos h1]
    · rename_i h1
      rw [if_neg h1]
      split at heq
      · rename_i h2
        cases heq
        rw [if_pos h2]
      · cases heq

set_option maxHeartbeats 1000000 in
set_option maxRecDepth 100000 in
theorem numOf_ok (s : ByteArray) (at_ : Nat) (w : World) (hs : s.size ≤ 1000000) (hat : at_ ≤ s.size) :
    Calls Tryd.prog 72 #[.string s, .int .i64 at_] w fun r w' => r = .returned (.tuple #[.int .i64 (numOfOut s at_).1, .int .i64 (numOfOut s at_).2.1, .int .i64 (numOfOut s at_).2.2]) ∧ w' = w := by
  have hs' : (s.size : Int) ≤ 1000000 := by omega
  have hat' : (at_ : Int) ≤ s.size := by omega
  go_enter Tryd.func72, Tryd.ntmps72
  go_wp2_with fail
  go_loop [7, 8, 9] (fun a y b => ∃ j acc P : Nat, a = .int .i64 acc ∧ y = .int .i64 P ∧ b = .int .i64 j ∧ j ≤ 6 ∧ at_ + j ≤ s.size ∧ acc < P ∧ P = 128 ^ j ∧ Hid (Go.Num.scan 6 (s.data.toList.drop at_) 0 0 = Go.Num.scan (6 - j) (s.data.toList.drop (at_ + j)) acc j)) (fun _ _ b => 6 - (intOf b).toNat)
  case atStart => exact ⟨0, 0, 1, rfl, rfl, rfl, by omega, by omega, by omega, by simp, rfl⟩
  case round =>
    obtain ⟨j, acc, P, rfl, rfl, rfl, hj6, hjs, hacc, hP, He⟩ := hrel
    have HP := hide hP
    by_cases h6 : j < 6
    · have hPb : P ≤ 34359738368 := by rw [hP]; exact pow_bd j h6
      have hPb' : (P : Int) ≤ 34359738368 := by omega
      have h6' : (j : Int) < 6 := by omega
      clear hP
      by_cases hlt : at_ + j < s.size
      · have hlt' : (at_ : Int) + j < s.size := by omega
        have he := He.out
        rw [dropL s (at_ + j) hlt, show 6 - j = (5 - j) + 1 by omega] at he
        have hw := byte_wrap s[at_ + j]
        have hsv := hide (step_by acc P s[at_ + j] hacc hPb)
        by_cases hb : (s[at_ + j]).toNat < 128
        · have hb' : ((s[at_ + j]).toNat : Int) < 128 := by omega
          rw [scan_end _ _ _ _ _ hb] at he
          have hno := numOf_lt s at_ _ _ he
          have hix : (s.data.toList.drop at_)[j]? = some s[at_ + j] := by rw [List.getElem?_drop]; exact getL s (at_ + j) hlt
          rw [hix] at hno
          by_cases hb0 : (s[at_ + j]).toNat = 0
          · by_cases hj0 : 0 < j
            · have hj0' : (0 : Int) < j := by omega
              rw [if_pos ⟨hj0, congrArg some (UInt8.toNat_inj.1 (by simpa using hb0))⟩] at hno
              have Hno := hide hno
              have hc0 : (((s[at_ + j]).toNat : Int) == 0) = true := by simp [hb0]
              clear hno he hix hb hsv He HP
              go_wp2_with fail
              go_ret3
              rw [Hno.out]
              exact ⟨rfl, rfl⟩
            · have hd0 : (j : Int) ≤ 0 := by omega
              have hj : j = 0 := by omega
              have hP1 : P = 1 := by have := HP.out; rw [hj] at this; simpa using this
              have ha0 : acc = 0 := by omega
              have hv0 : wrap64 ((acc : Int) + wrap64 0) = 0 := by rw [ha0]; unfold wrap64; omega
              rw [if_neg (by omega), hb0, if_neg (by simp [ha0])] at hno
              have hno2 : numOfOut s at_ = (0, at_ + (j + 1), 0) := by rw [hno, ha0]; simp
              have Hno := hide hno2
              have hc0 : (((s[at_ + j]).toNat : Int) == 0) = true := by simp [hb0]
              have HA0 := hide ha0
              clear hno hno2 he hix hb hsv He HP hj hP1 ha0 hj0
              go_wp2_with fail
              go_ret3
              rw [Hno.out]
              have := HA0.out
              exact ⟨by simp; omega, rfl⟩
          · rw [if_neg (fun hh => hb0 (by rw [Option.some.inj hh.2]; rfl))] at hno
            have hc0 : (((s[at_ + j]).toNat : Int) == 0) = false := by simp; omega
            have hs2 := hsv.out
            generalize hN : acc + (s[at_ + j]).toNat % 128 * P = N at *
            have hN2 : acc + (s[at_ + j]).toNat % 128 * 128 ^ j = N := by rw [← HP.out]; exact hN
            rw [hN2] at hno
            clear hN hN2
            by_cases h9 : 1099511627776 < N
            · have h9' : (1099511627776 : Int) < N := by omega
              rw [if_pos h9] at hno
              have Hno := hide hno
              clear hno he hix hb hsv He HP hb0
              go_wp2_with fail
              go_ret3
              rw [Hno.out]
              exact ⟨rfl, rfl⟩
            · have h9' : (N : Int) ≤ 1099511627776 := by omega
              rw [if_neg h9] at hno
              have Hno := hide hno
              clear hno he hix hb hsv He HP hb0
              go_wp2_with fail
              go_ret3
              rw [Hno.out]
              exact ⟨by simp; omega, rfl⟩
        · have hb' : (128 : Int) ≤ ((s[at_ + j]).toNat : Int) := by omega
          rw [scan_next _ _ _ _ _ hb] at he
          have Hn := hide he
          have hl := step_lt acc j ((s[at_ + j]).toNat % 128) (by rw [← HP.out]; exact hacc) (by omega)
          have Hl := hide hl
          clear he hl He
          have hs2 := hsv.out
          go_wp2_with fail
          go_round
          case rel =>
            refine ⟨j + 1, acc + (s[at_ + j]).toNat % 128 * P, P * 128, by rw [hsv.out], by go_num, by go_num, by omega, by omega, ?_, ?_, ?_⟩
            · rw [HP.out, ← Nat.pow_succ]; exact Hl.out
            · rw [HP.out, Nat.pow_succ]
            · rw [show 6 - (j + 1) = 5 - j by omega]
              rw [HP.out]
              exact Hn.out
          case measure => simp [intOf]; omega
      · have hlt' : (s.size : Int) ≤ (at_ : Int) + j := by omega
        have he := He.out
        have hj : s.data.toList.drop (at_ + j) = [] := by rw [List.drop_eq_nil_iff, lenL]; omega
        have hk : Go.Num.scan (6 - j) [] acc j = none := by cases 6 - j <;> rfl
        rw [hj, hk] at he
        have hfin : numOfOut s at_ = (0, at_, 1) := by unfold numOfOut; rw [dec_of_none _ he]
        have Hfin := hide hfin
        clear he He hj hk hfin
        go_wp2_with fail
        go_ret3
        rw [Hfin.out]
        exact ⟨rfl, rfl⟩
    · have h6' : (6 : Int) ≤ j := by omega
      have he := He.out
      rw [show 6 - j = 0 by omega, Go.Num.scan] at he
      have hfin : numOfOut s at_ = (0, at_, 1) := by unfold numOfOut; rw [dec_of_none _ he]
      have Hfin := hide hfin
      clear he He hfin hP
      go_wp2_with fail
      go_ret3
      rw [Hfin.out]
      exact ⟨rfl, rfl⟩
end Go.Proofs.YtlmampcdflbifadDoor

namespace Go.Proofs.YtlmampcdflbifadDoor
open Go.RowKit

set_option maxHeartbeats 400000 in
set_option maxRecDepth 100000 in
theorem counted_ok (s : ByteArray) (w : World) (hs : s.size ≤ 20000) : Calls Tryd.prog 68 #[.string s] w fun r w' => r = .returned (.string (str (Go.Num.enc s.size ++ s.data.toList))) ∧ Below w.heap.size w w' := by
  go_enter Tryd.func68, Tryd.ntmps68
  go_wp2_with fail
  refine (numText_ok s.size _ (by omega)).mono ?_
  rintro e w1 ⟨rfl, hb1⟩
  have Hb1 := hide hb1
  clear hb1
  have hz : str (Go.Num.enc s.size) ++ s = str (Go.Num.enc s.size ++ s.data.toList) := by
    rw [← str_app]; rfl
  have hsz : (str (Go.Num.enc s.size)).size ≤ 6 := by rw [str_len]; exact Go.Num.enc_length_le _
  generalize str (Go.Num.enc s.size) = A at *
  have Hz := hide hz
  clear hz
  go_wp2_with fail
  go_ret
  rw [← Hz.out]
  exact ⟨rfl, Hb1.out⟩

theorem scan_some (f : Nat) : ∀ (L : List UInt8) (acc i0 n i : Nat), Go.Num.scan f L acc i0 = some (n, i) → i0 ≤ i ∧ i - i0 < L.length := by
  induction f with
  | zero => intro L acc i0 n i h; simp [Go.Num.scan] at h
  | succ f ih =>
    intro L acc i0 n i h
    cases L with
    | nil => simp [Go.Num.scan] at h
    | cons b r =>
      by_cases hb : b.toNat < 128
      · rw [scan_end _ _ _ _ _ hb] at h
        simp at h
        obtain ⟨_, rfl⟩ := h
        exact ⟨Nat.le_refl _, by simp⟩
      · rw [scan_next _ _ _ _ _ hb] at h
        have := ih _ _ _ _ _ h
        simp only [List.length_cons]
        omega

theorem dec_ok (L : List UInt8) (n k : Nat) (h : Go.Num.dec L = .ok (n, k)) : n ≤ 1099511627776 ∧ k ≤ L.length := by
  cases hs : Go.Num.scan 6 L 0 0 with
  | none => rw [dec_of_none _ hs] at h; cases h
  | some x =>
    obtain ⟨m, i⟩ := x
    rw [dec_of_scan _ _ _ hs] at h
    have := scan_some _ _ _ _ _ _ hs
    split at h
    · cases h
    · split at h
      · cases h
      · cases h
        omega

theorem dec_err (L : List UInt8) (c : Nat) (h : Go.Num.dec L = .error c) : c = 1 ∨ c = 2 := by
  cases hs : Go.Num.scan 6 L 0 0 with
  | none => rw [dec_of_none _ hs] at h; cases h; exact Or.inl rfl
  | some x =>
    obtain ⟨m, i⟩ := x
    rw [dec_of_scan _ _ _ hs] at h
    split at h
    · cases h; exact Or.inl rfl
    · split at h
      · cases h; exact Or.inr rfl
      · cases h

theorem numOfOut_bd (s : ByteArray) (at_ : Nat) (hat : at_ ≤ s.size) : (numOfOut s at_).1 ≤ 1099511627776 ∧ (numOfOut s at_).2.1 ≤ s.size ∧ (numOfOut s at_).2.2 ≤ 2 := by
  unfold numOfOut
  cases h : Go.Num.dec (s.data.toList.drop at_) with
  | ok x =>
    obtain ⟨n, k⟩ := x
    have := dec_ok _ _ _ h
    rw [List.length_drop, lenL] at this
    refine ⟨this.1, ?_, by simp⟩
    show at_ + k ≤ s.size
    omega
  | error c =>
    have := dec_err _ _ h
    exact ⟨by simp, hat, by show c ≤ 2; omega⟩

/-- What TextOf answers. -/
def textOfOut (s : ByteArray) (at_ : Nat) : ByteArray × Nat × Nat :=
  if 0 < (numOfOut s at_).2.2 then (ByteArray.empty, at_, (numOfOut s at_).2.2)
  else if 20000 < (numOfOut s at_).1 then (ByteArray.empty, at_, 2)
  else if s.size - (numOfOut s at_).2.1 < (numOfOut s at_).1 then (ByteArray.empty, at_, 1)
  else (s.extract (numOfOut s at_).2.1 ((numOfOut s at_).2.1 + (numOfOut s at_).1), (numOfOut s at_).2.1 + (numOfOut s at_).1, 0)

set_option maxHeartbeats 1000000 in
set_option maxRecDepth 100000 in
theorem textOf_ok (s : ByteArray) (at_ : Nat) (w : World) (hs : s.size ≤ 1000000) (hat : at_ ≤ s.size) :
    Calls Tryd.prog 73 #[.string s, .int .i64 at_] w fun r w' => r = .returned (.tuple #[.string (textOfOut s at_).1, .int .i64 (textOfOut s at_).2.1, .int .i64 (textOfOut s at_).2.2]) ∧ w' = w := by
  have hs' : (s.size : Int) ≤ 1000000 := by omega
  have hat' : (at_ : Int) ≤ s.size := by omega
  have hbd := numOfOut_bd s at_ hat
  have hto : textOfOut s at_ = if 0 < (numOfOut s at_).2.2 then (ByteArray.empty, at_, (numOfOut s at_).2.2)
      else if 20000 < (numOfOut s at_).1 then (ByteArray.empty, at_, 2)
      else if s.size - (numOfOut s at_).2.1 < (numOfOut s at_).1 then (ByteArray.empty, at_, 1)
      else (s.extract (numOfOut s at_).2.1 ((numOfOut s at_).2.1 + (numOfOut s at_).1), (numOfOut s at_).2.1 + (numOfOut s at_).1, 0) := rfl
  have hc := numOf_ok s at_ w hs hat
  generalize numOfOut s at_ = x at *
  obtain ⟨n, k, e⟩ := x
  simp only at hbd hto hc
  obtain ⟨hn, hk, he⟩ := hbd
  have hn' : (n : Int) ≤ 1099511627776 := by omega
  have hk' : (k : Int) ≤ s.size := by omega
  have he' : (e : Int) ≤ 2 := by omega
  have HC := hide hc
  clear hc
  go_enter Tryd.func73, Tryd.ntmps73
  go_wp2_with fail
  refine HC.out.mono ?_
  rintro ev w1 ⟨rfl, rfl⟩
  by_cases h1 : 0 < e
  · rw [if_pos h1] at hto
    have Hto := hide hto
    have h1' : (0 : Int) < e := by omega
    clear hto h1
    go_wp2_with fail
    go_ret3
    rw [Hto.out]
    exact ⟨rfl, rfl⟩
  rw [if_neg h1] at hto
  have h1' : (e : Int) ≤ 0 := by omega
  clear h1
  by_cases h2 : 20000 < n
  · rw [if_pos h2] at hto
    have Hto := hide hto
    have h2' : (20000 : Int) < n := by omega
    clear hto h2
    go_wp2_with fail
    go_ret3
    rw [Hto.out]
    exact ⟨rfl, rfl⟩
  rw [if_neg h2] at hto
  have h2' : (n : Int) ≤ 20000 := by omega
  clear h2
  by_cases h3 : s.size - k < n
  · rw [if_pos h3] at hto
    have Hto := hide hto
    have h3' : (s.size : Int) - k < n := by omega
    clear hto h3
    go_wp2_with fail
    go_ret3
    rw [Hto.out]
    exact ⟨rfl, rfl⟩
  rw [if_neg h3] at hto
  have Hto := hide hto
  have h3' : (n : Int) ≤ (s.size : Int) - k := by omega
  have h4' : (k : Int) + n ≤ s.size := by omega
  clear hto h3
  go_wp2_with fail
  go_ret3
  rw [Hto.out]
  exact ⟨by simp, rfl⟩
end Go.Proofs.YtlmampcdflbifadDoor

namespace Go.Proofs.YtlmampcdflbifadDoor
open Go.RowKit

theorem i64_xor_nat (a b : Nat) (ha : a < 9223372036854775808) (hb : b < 9223372036854775808) : bits .xor .i64 (a : Int) (b : Int) = ((a ^^^ b : Nat) : Int) := by
  have hx : a ^^^ b < 2 ^ 63 := Nat.xor_lt_two_pow (by omega) (by omega)
  have h1 : (BitVec.ofInt 64 (a : Int)).toNat = a := by
    rw [BitVec.ofInt_natCast, BitVec.toNat_ofNat]; exact Nat.mod_eq_of_lt (by omega)
  have h2 : (BitVec.ofInt 64 (b : Int)).toNat = b := by
    rw [BitVec.ofInt_natCast, BitVec.toNat_ofNat]; exact Nat.mod_eq_of_lt (by omega)
  show IntKind.i64.wrap ((BitVec.ofInt 64 (a : Int) ^^^ BitVec.ofInt 64 (b : Int)).toNat : Int) = _
  rw [BitVec.toNat_xor, h1, h2, IntKind.wrap_i64]
  omega
theorem i64_and_nat (a b : Nat) (ha : a < 9223372036854775808) (hb : b < 9223372036854775808) : bits .and .i64 (a : Int) (b : Int) = ((a &&& b : Nat) : Int) := by
  have hx : a &&& b < 2 ^ 63 := Nat.and_lt_two_pow _ (by omega)
  have h1 : (BitVec.ofInt 64 (a : Int)).toNat = a := by
    rw [BitVec.ofInt_natCast, BitVec.toNat_ofNat]; exact Nat.mod_eq_of_lt (by omega)
  have h2 : (BitVec.ofInt 64 (b : Int)).toNat = b := by
    rw [BitVec.ofInt_natCast, BitVec.toNat_ofNat]; exact Nat.mod_eq_of_lt (by omega)
  show IntKind.i64.wrap ((BitVec.ofInt 64 (a : Int) &&& BitVec.ofInt 64 (b : Int)).toNat : Int) = _
  rw [BitVec.toNat_and, h1, h2, IntKind.wrap_i64]
  omega
theorem ret_u32 {a b : Int} (h : a = b) : Ending.returned (.int .u32 a) = .returned (.int .u32 b) := by rw [h]

theorem u32_sh (x : Nat) (hx : x < 2 ^ 32) : bits .xor .u32 ((x : Int) / 2) (3988292384 * bits .and .u32 (x : Int) 1 % 4294967296) = (Go.Crc.sh x : Nat) := by
  have e1 : bits .and .u32 (x : Int) 1 = ((x % 2 : Nat) : Int) := by
    rw [show (1 : Int) = ((1 : Nat) : Int) from rfl, u32_and_nat x 1 hx (by omega), nat_mask1]
  rw [e1, show (x : Int) / 2 = ((x / 2 : Nat) : Int) by omega, show (3988292384 * ((x % 2 : Nat) : Int) % 4294967296) = ((3988292384 * (x % 2) : Nat) : Int) by omega, u32_xor_nat _ _ (by omega) (by omega)]
  rfl

set_option maxHeartbeats 1000000 in
set_option maxRecDepth 100000 in
theorem divide_ok (c : Nat) (w : World) (hc : c < 4294967296) : Calls Tryd.prog 129 #[.int .u32 c] w fun r w' => r = .returned (.int .u32 (Go.Crc.shs 8 c : Nat)) ∧ w' = w := by
  go_enter Tryd.func129, Tryd.ntmps129
  go_wp2_with fail
  go_loop [0, 3] (fun t0 t3 => ∃ i : Nat, t3 = .int .i64 i ∧ i ≤ 8 ∧ t0 = .int .u32 (Go.Crc.shs i c : Nat)) (fun _ t3 => 8 - (intOf t3).toNat)
  case atStart => exact ⟨0, rfl, by omega, rfl⟩
  case round =>
    obtain ⟨i, rfl, hi, rfl⟩ := hrel
    have hx := Go.Crc.shs_lt i c hc
    have He : Hid (Go.Crc.sh (Go.Crc.shs i c) = Go.Crc.shs (i + 1) c) := rfl
    by_cases hlt : i < 8
    · have hlt' : (i : Int) < 8 := by omega
      generalize Go.Crc.shs i c = x at *
      go_wp2_with fail
      go_round
      case rel => exact ⟨i + 1, by go_num, by omega, by rw [u32_sh x hx, He.out]⟩
      case measure => simp [intOf]; omega
    · have hle : (8 : Int) ≤ i := by omega
      obtain rfl : i = 8 := by omega
      go_wp2_with fail
      go_ret
      exact ⟨rfl, rfl⟩

theorem u32_not (c : Nat) (hc : c < 4294967296) : bits .xor .u32 IntKind.u32.max (c : Int) = ((c ^^^ Go.Crc.ones : Nat) : Int) := by
  rw [show IntKind.u32.max = ((Go.Crc.ones : Nat) : Int) from rfl, u32_xor_nat _ _ Go.Crc.ones_lt hc, Nat.xor_comm]

set_option maxHeartbeats 1000000 in
set_option maxRecDepth 100000 in
theorem more_ok (c : Nat) (s : ByteArray) (w : World) (hc : c < 4294967296) (hs : s.size ≤ 1000000) : Calls Tryd.prog 117 #[.int .u32 c, .string s] w fun r w' => r = .returned (.int .u32 (Go.Crc.crc c s.data.toList : Nat)) ∧ w' = w := by
  have hs' : (s.size : Int) ≤ 1000000 := by omega
  have hsg : IntKind.u32.signed = false := rfl
  have hnot := u32_not c hc
  have hc1 : c ^^^ Go.Crc.ones < 2 ^ 32 := Nat.xor_lt_two_pow hc Go.Crc.ones_lt
  have Hc : Hid (Go.Crc.crc c s.data.toList = Go.Crc.run (c ^^^ Go.Crc.ones) s.data.toList ^^^ Go.Crc.ones) := rfl
  generalize c ^^^ Go.Crc.ones = d at *
  go_enter Tryd.func117, Tryd.ntmps117
  go_wp2_with fail
  go_loop [0, 5] (fun t0 t5 => ∃ i : Nat, t5 = .int .i64 i ∧ i ≤ s.size ∧ t0 = .int .u32 (Go.Crc.run d (s.data.toList.take i) : Nat)) (fun _ t5 => s.size - (intOf t5).toNat)
  case atStart => exact ⟨0, rfl, by omega, rfl⟩
  case round =>
    obtain ⟨i, rfl, hi, rfl⟩ := hrel
    have hx : Go.Crc.run d (s.data.toList.take i) < 2 ^ 32 := Go.Crc.run_lt _ _ hc1
    by_cases hlt : i < s.size
    · have hlt' : (i : Int) < s.size := by omega
      have hb := byte_lt s[i]
      have hn := Go.Crc.run_snoc d (s.data.toList.take i) s[i]
      rw [← takeL s i hlt] at hn
      have He := hide hn
      clear hn
      generalize Go.Crc.run d (s.data.toList.take i) = x at *
      have hxb : x ^^^ s[i].toNat < 2 ^ 32 := Nat.xor_lt_two_pow hx (by omega)
      have hxe : bits .xor .u32 (x : Int) (s[i].toNat : Int) = ((x ^^^ s[i].toNat : Nat) : Int) := u32_xor_nat _ _ hx (by omega)
      have HD := hide (fun W => divide_ok (x ^^^ s[i].toNat) W hxb)
      go_wp2_with fail
      refine (HD.out _).mono ?_
      rintro e w1 ⟨rfl, rfl⟩
      go_wp2_with fail
      go_round
      case rel => exact ⟨i + 1, by go_num, by omega, by rw [He.out]⟩
      case measure => simp [intOf]; omega
    · have hle : (s.size : Int) ≤ i := by omega
      obtain rfl : i = s.size := by omega
      have ht : s.data.toList.take s.size = s.data.toList := by rw [← lenL s, List.take_length]
      rw [ht] at hx ⊢
      have hn2 := u32_not _ hx
      rw [← Hc.out] at hn2
      clear ht Hc
      generalize Go.Crc.run d s.data.toList = x at *
      go_wp2_with fail
      go_ret
      exact ⟨rfl, rfl⟩

set_option maxHeartbeats 1000000 in
theorem sum_ok (s : ByteArray) (w : World) (hs : s.size ≤ 1000000) : Calls Tryd.prog 89 #[.string s] w fun r w' => r = .returned (.int .u32 (Go.Crc.crc 0 s.data.toList : Nat)) ∧ w' = w := by
  have H := hide (fun W => more_ok 0 s W (by omega) hs)
  generalize Go.Crc.crc 0 s.data.toList = x at *
  go_enter Tryd.func89, Tryd.ntmps89
  go_wp2_with fail
  refine (H.out _).mono ?_
  rintro e w1 ⟨rfl, rfl⟩
  go_wp2_with fail
  go_ret
  exact ⟨rfl, rfl⟩
end Go.Proofs.YtlmampcdflbifadDoor

namespace Go.Proofs.YtlmampcdflbifadDoor
open Go.RowKit



set_option maxHeartbeats 1000000 in
theorem shift_ok (c : Nat) (w : World) (hc : c < 4294967296) : Calls Tryd.prog 118 #[.int .i64 c] w fun r w' => r = .returned (.int .i64 (Go.Crc.sh c : Nat)) ∧ w' = w := by
  rcases Nat.mod_two_eq_zero_or_one c with h | h
  · have h1 : ((c : Int) % 2 == 1) = false := by simp; omega
    have e : (c : Int) / 2 = (Go.Crc.sh c : Nat) := by unfold Go.Crc.sh; rw [h, Nat.mul_zero, Nat.xor_zero]; omega
    have E := hide e
    clear h e
    go_enter Tryd.func118, Tryd.ntmps118
    go_wp2_with fail
    go_ret
    exact ⟨ret_int E.out, rfl⟩
  · have h1 : ((c : Int) % 2 == 1) = true := by simp; omega
    have e : bits .xor .i64 ((c : Int) / 2) 3988292384 = (Go.Crc.sh c : Nat) := by
      rw [show (c : Int) / 2 = ((c / 2 : Nat) : Int) by omega, show (3988292384 : Int) = ((3988292384 : Nat) : Int) from rfl, i64_xor_nat _ _ (by omega) (by omega)]
      unfold Go.Crc.sh
      rw [h]
    have E := hide e
    clear h e
    go_enter Tryd.func118, Tryd.ntmps118
    go_wp2_with fail
    go_ret
    exact ⟨ret_int E.out, rfl⟩

theorem i64_not (c : Nat) (hc : c < 4294967296) : bits .xor .i64 (c : Int) 4294967295 = ((c ^^^ Go.Crc.ones : Nat) : Int) :=
  i64_xor_nat c Go.Crc.ones (by omega) (by decide)

set_option maxHeartbeats 1000000 in
set_option maxRecDepth 100000 in
theorem moreOf_ok (c : Nat) (s : ByteArray) (w : World) (hc : c < 4294967296) (hs : s.size ≤ 1000000) : Calls Tryd.prog 90 #[.int .i64 c, .string s] w fun r w' => r = .returned (.int .i64 (Go.Crc.crc c s.data.toList : Nat)) ∧ w' = w := by
  have hs' : (s.size : Int) ≤ 1000000 := by omega
  have hnot := i64_not c hc
  have hc1 : c ^^^ Go.Crc.ones < 2 ^ 32 := Nat.xor_lt_two_pow hc Go.Crc.ones_lt
  have Hc : Hid (Go.Crc.crc c s.data.toList = Go.Crc.run (c ^^^ Go.Crc.ones) s.data.toList ^^^ Go.Crc.ones) := rfl
  generalize c ^^^ Go.Crc.ones = d at *
  go_enter Tryd.func90, Tryd.ntmps90
  go_wp2_with fail
  go_loop [0, 5] (fun t0 t5 => ∃ i : Nat, t5 = .int .i64 i ∧ i ≤ s.size ∧ t0 = .int .i64 (Go.Crc.run d (s.data.toList.take i) : Nat)) (fun _ t5 => s.size - (intOf t5).toNat)
  case atStart => exact ⟨0, rfl, by omega, rfl⟩
  case round =>
    obtain ⟨i, rfl, hi, rfl⟩ := hrel
    have hx : Go.Crc.run d (s.data.toList.take i) < 2 ^ 32 := Go.Crc.run_lt _ _ hc1
    by_cases hlt : i < s.size
    · have hlt' : (i : Int) < s.size := by omega
      have hb := byte_lt s[i]
      have hn := Go.Crc.run_snoc d (s.data.toList.take i) s[i]
      rw [← takeL s i hlt] at hn
      have He := hide hn
      clear hn
      generalize Go.Crc.run d (s.data.toList.take i) = x at *
      have hxb : x ^^^ s[i].toNat < 2 ^ 32 := Nat.xor_lt_two_pow hx (by omega)
      have hxe : bits .xor .i64 (x : Int) (s[i].toNat : Int) = ((x ^^^ s[i].toNat : Nat) : Int) := i64_xor_nat _ _ (by omega) (by omega)
      generalize x ^^^ s[i].toNat = y at *
      go_wp2_with fail
      go_loop [0, 6] (fun t0 t6 => ∃ j : Nat, t6 = .int .i64 j ∧ j ≤ 8 ∧ t0 = .int .i64 (Go.Crc.shs j y : Nat)) (fun _ t6 => 8 - (intOf t6).toNat)
      case atStart => exact ⟨0, rfl, by omega, rfl⟩
      case round =>
        obtain ⟨j, rfl, hj, rfl⟩ := hrel
        have hz := Go.Crc.shs_lt j y hxb
        by_cases hlj : j < 8
        · have hlj' : (j : Int) < 8 := by omega
          have HS := hide (fun W => shift_ok (Go.Crc.shs j y) W hz)
          have Hn : Hid (Go.Crc.sh (Go.Crc.shs j y) = Go.Crc.shs (j + 1) y) := rfl
          generalize Go.Crc.shs j y = z at *
          go_wp2_with fail
          refine (HS.out _).mono ?_
          rintro e w1 ⟨rfl, rfl⟩
          go_wp2_with fail
          go_round
          case rel => exact ⟨j + 1, by go_num, by omega, by rw [Hn.out]⟩
          case measure => simp [intOf]; omega
        · have hlj' : (8 : Int) ≤ j := by omega
          obtain rfl : j = 8 := by omega
          go_wp2_with fail
          go_round
          case rel => exact ⟨i + 1, by go_num, by omega, by rw [He.out]⟩
          case measure => simp [intOf]; omega
    · have hle : (s.size : Int) ≤ i := by omega
      obtain rfl : i = s.size := by omega
      have ht : s.data.toList.take s.size = s.data.toList := by rw [← lenL s, List.take_length]
      rw [ht] at hx ⊢
      have hn2 := i64_not _ hx
      rw [← Hc.out] at hn2
      clear ht Hc
      generalize Go.Crc.run d s.data.toList = x at *
      go_wp2_with fail
      go_ret
      exact ⟨rfl, rfl⟩

set_option maxHeartbeats 1000000 in
theorem sumOf_ok (s : ByteArray) (w : World) (hs : s.size ≤ 1000000) : Calls Tryd.prog 58 #[.string s] w fun r w' => r = .returned (.int .i64 (Go.Crc.crc 0 s.data.toList : Nat)) ∧ w' = w := by
  have H := hide (fun W => moreOf_ok 0 s W (by omega) hs)
  generalize Go.Crc.crc 0 s.data.toList = x at *
  go_enter Tryd.func58, Tryd.ntmps58
  go_wp2_with fail
  refine (H.out _).mono ?_
  rintro e w1 ⟨rfl, rfl⟩
  go_wp2_with fail
  go_ret
  exact ⟨rfl, rfl⟩
end Go.Proofs.YtlmampcdflbifadDoor
