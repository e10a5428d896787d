/-
  Contracts of the document's answer for numbers (Byte, NumText, Counted, NumOf, TextOf) over this dump.
  Contracts of the document's answer for reading numbers and texts (NumOf, TextOf) over this dump: every text, every place in it.
  Contract of the document's answer for reading texts (TextOf) over this dump.
-/
import Derived.Test.YtcenohaadggdiacGreatDoorJoin15
namespace Go.Proofs.YtcenohaadggdiacGreatDoor
open Go.RowKit

set_option maxHeartbeats 400000 in
set_option maxRecDepth 100000 in
theorem byte_ok (n : Int) (w : World) (h0 : 0 ≤ n) (h1 : n < 256) : Calls Tryz.prog 50 #[.int .i64 n] w fun r w' => r = .returned (.string (str [UInt8.ofNat n.toNat])) ∧ Below w.heap.size w w' := by
  have hcv := run_convert_bytes_arg (P := Tryz.prog) (w.alloc (.cells #[.int .u8 n] 5)) 125 5 Tryz.underlying125 Tryz.underlying5 w.heap.size 0 1 1 [n] rfl (fun i hi => by
    have : i = 0 := by omega
    subst this; simp) 9 Tryz.underlying9
  have e : strOfNums [n] = str [UInt8.ofNat n.toNat] := rfl
  rw [e] at hcv
  go_enter Tryz.func50, Tryz.ntmps50
  go_wp2
  go_ret
  exact ⟨rfl, (Below.refl _ _).alloc (Nat.le_refl _) _⟩

theorem bthen' {w w1 w2 : World} (h : Below w.heap.size w w1) (k : Below w1.heap.size w1 w2) : Below w.heap.size w w2 := h.trans (k.mono h.size)

set_option maxHeartbeats 400000 in
set_option maxRecDepth 100000 in
theorem numText_ok (n : Nat) (w : World) (hn : n ≤ 1099511627776) : Calls Tryz.prog 30 #[.int .i64 n] w fun r w' => r = .returned (.string (str (Go.Num.enc n))) ∧ Below w.heap.size w w' := by
  have hn1 : (n : Int) ≤ 1099511627776 := by omega
  have hlen := Go.Num.enc_length_le n
  go_enter Tryz.func30, Tryz.ntmps30
  go_wp2_with fail
  go_loopw [0, 3] (fun t o wr => ∃ (k m : Nat) (cur : List UInt8), t = .int .i64 m ∧ o = .string (str cur) ∧ m ≤ 1099511627776 ∧ m < 128 ^ (k + 1) ∧ Hid (cur ++ Go.Num.encF k m = Go.Num.enc n) ∧ Hid (Below w.heap.size w wr)) (fun t _ _ => (intOf t).toNat)
  case atStart => exact ⟨5, n, [], rfl, rfl, hn, by omega, rfl, Below.refl _ _⟩
  case round =>
    obtain ⟨k, m, cur, rfl, rfl, hm, hmk, He, Hb⟩ := hrel
    have hcur : cur.length ≤ 6 := by
      have := congrArg List.length He.out
      simp at this; omega
    have hsz : (str cur).size ≤ 6 := by rw [str_len]; exact hcur
    have Hsa := hide (fun b => str_app cur b)
    generalize hA : str cur = A at *
    have HA := hide hA
    clear hA
    by_cases hlt : 128 ≤ m
    · have hlt' : (128 : Int) ≤ m := by omega
      have hm1 : (m : Int) ≤ 1099511627776 := by omega
      go_wp2_with fail
      refine (byte_ok _ _ (by omega) (by omega)).mono ?_
      rintro e w2 ⟨rfl, hb2⟩
      have Hb2 := hide (bthen' Hb.out hb2)
      clear hb2
      rw [show ((m : Int) % 128 + 128).toNat = m % 128 + 128 by omega]
      have hz := Hsa.out [UInt8.ofNat (m % 128 + 128)]
      have hbs : (str [UInt8.ofNat (m % 128 + 128)]).size ≤ 1 := by rw [str_len]; simp
      generalize str [UInt8.ofNat (m % 128 + 128)] = B at *
      have Hz := hide hz
      clear hz
      go_wp2_with fail
      go_roundw
      case rel =>
        match k with
        | 0 => simp at hmk; omega
        | k + 1 =>
          refine ⟨k, m / 128, cur ++ [UInt8.ofNat (m % 128 + 128)], by go_num, by rw [Hz.out], by omega, ?_, ?_, Hb2.out⟩
          · rw [Nat.div_lt_iff_lt_mul (by omega)]
            rw [Nat.pow_succ] at hmk; exact hmk
          · have := He.out
            rw [Go.Num.encF_big _ _ hlt] at this
            simpa [Hid] using this
      case measure => simp [intOf]; omega
    · have hm1 : (m : Int) < 128 := by omega
      go_wp2_with fail
      refine (byte_ok _ _ (by omega) (by omega)).mono ?_
      rintro e w2 ⟨rfl, hb2⟩
      have Hb2 := hide (bthen' Hb.out hb2)
      clear hb2
      rw [Int.toNat_natCast]
      have hz := Hsa.out [UInt8.ofNat m]
      have hbs : (str [UInt8.ofNat m]).size ≤ 1 := by rw [str_len]; simp
      generalize str [UInt8.ofNat m] = B at *
      have Hz := hide hz
      clear hz
      go_wp2_with fail
      go_ret
      have he := He.out
      rw [Go.Num.encF_small _ _ (by omega)] at he
      rw [← he, ← Hz.out]
      exact ⟨rfl, Hb2.out⟩
end Go.Proofs.YtcenohaadggdiacGreatDoor

namespace Go.Proofs.YtcenohaadggdiacGreatDoor
open Go.RowKit

/-- What NumOf answers: the number, the place behind it, an error's number. -/
def numOfOut (s : ByteArray) (at_ : Nat) : Nat × Nat × Nat :=
  match Go.Num.dec (s.data.toList.drop at_) with
  | .ok (n, k) => (n, at_ + k, 0)
  | .error c => (0, at_, c)

theorem step_by (acc P : Nat) (b : UInt8) (ha : acc < P) (hP : P ≤ 34359738368) : wrap64 ((acc : Int) + wrap64 ((b.toNat : Int) % 128 * (P : Int))) = ((acc + b.toNat % 128 * P : Nat) : Int) := by
  have hm : b.toNat % 128 ≤ 127 := by omega
  have h1 : b.toNat % 128 * P ≤ 127 * P := Nat.mul_le_mul_right _ hm
  have e : (b.toNat : Int) % 128 * (P : Int) = ((b.toNat % 128 * P : Nat) : Int) := by rw [Int.natCast_mul]; simp
  rw [e]
  generalize b.toNat % 128 * P = q at *
  unfold wrap64
  omega

theorem pow_bd (j : Nat) (h : j < 6) : 128 ^ j ≤ 34359738368 := by
  match j, h with
  | 0, _ => decide
  | 1, _ => decide
  | 2, _ => decide
  | 3, _ => decide
  | 4, _ => decide
  | 5, _ => decide

theorem numOf_lt (s : ByteArray) (at_ n i : Nat) (h : Go.Num.scan 6 (s.data.toList.drop at_) 0 0 = some (n, i)) : numOfOut s at_ = if 0 < i ∧ (s.data.toList.drop at_)[i]? = some 0 then (0, at_, 1) else if 1099511627776 < n then (0, at_, 2) else (n, at_ + (i + 1), 0) := by
  unfold numOfOut
  rw [dec_of_scan _ _ _ h]
  split
  · rename_i n' k heq
    split at heq
    · cases heq
    · split at heq
      · cases heq
      · rename_i h1 h2
        cases heq
        rw [if_neg h1, if_neg h2]
  · rename_i c heq
    split at heq
    · rename_i h1
      cases heq
      rw [if_pos h1]
    · rename_i h1
      rw [if_neg h1]
      split at heq
      · rename_i h2
        cases heq
        rw [if_pos h2]
      · cases heq

set_option maxHeartbeats 1000000 in
set_option maxRecDepth 100000 in
theorem numOf_ok (s : ByteArray) (at_ : Nat) (w : World) (hs : s.size ≤ 1000000) (hat : at_ ≤ s.size) :
    Calls Tryz.prog 33 #[.string s, .int .i64 at_] w fun r w' => r = .returned (.tuple #[.int .i64 (numOfOut s at_).1, .int .i64 (numOfOut s at_).2.1, .int .i64 (numOfOut s at_).2.2]) ∧ w' = w := by
  have hs' : (s.size : Int) ≤ 1000000 := by omega
  have hat' : (at_ : Int) ≤ s.size := by omega
  go_enter Tryz.func33, Tryz.ntmps33
  go_wp2_with fail
  go_loop [7, 8, 9] (fun a y b => ∃ j acc P : Nat, a = .int .i64 acc ∧ y = .int .i64 P ∧ b = .int .i64 j ∧ j ≤ 6 ∧ at_ + j ≤ s.size ∧ acc < P ∧ P = 128 ^ j ∧ Hid (Go.Num.scan 6 (s.data.toList.drop at_) 0 0 = Go.Num.scan (6 - j) (s.data.toList.drop (at_ + j)) acc j)) (fun _ _ b => 6 - (intOf b).toNat)
  case atStart => exact ⟨0, 0, 1, rfl, rfl, rfl, by omega, by omega, by omega, by simp, rfl⟩
  case round =>
    obtain ⟨j, acc, P, rfl, rfl, rfl, hj6, hjs, hacc, hP, He⟩ := hrel
    have HP := hide hP
    by_cases h6 : j < 6
    · have hPb : P ≤ 34359738368 := by rw [hP]; exact pow_bd j h6
      have hPb' : (P : Int) ≤ 34359738368 := by omega
      have h6' : (j : Int) < 6 := by omega
      clear hP
      by_cases hlt : at_ + j < s.size
      · have hlt' : (at_ : Int) + j < s.size := by omega
        have he := He.out
        rw [dropL s (at_ + j) hlt, show 6 - j = (5 - j) + 1 by omega] at he
        have hw := byte_wrap s[at_ + j]
        have hsv := hide (step_by acc P s[at_ + j] hacc hPb)
        by_cases hb : (s[at_ + j]).toNat < 128
        · have hb' : ((s[at_ + j]).toNat : Int) < 128 := by omega
          rw [scan_end _ _ _ _ _ hb] at he
          have hno := numOf_lt s at_ _ _ he
          have hix : (s.data.toList.drop at_)[j]? = some s[at_ + j] := by rw [List.getElem?_drop]; exact getL s (at_ + j) hlt
          rw [hix] at hno
          by_cases hb0 : (s[at_ + j]).toNat = 0
          · by_cases hj0 : 0 < j
            · have hj0' : (0 : Int) < j := by omega
              rw [if_pos ⟨hj0, congrArg some (UInt8.toNat_inj.1 (by simpa using hb0))⟩] at hno
              have Hno := hide hno
              have hc0 : (((s[at_ + j]).toNat : Int) == 0) = true := by simp [hb0]
              clear hno he hix hb hsv He HP
              go_wp2_with fail
              go_ret3
              rw [Hno.out]
              exact ⟨rfl, rfl⟩
            · have hd0 : (j : Int) ≤ 0 := by omega
              have hj : j = 0 := by omega
              have hP1 : P = 1 := by have := HP.out; rw [hj] at this; simpa using this
              have ha0 : acc = 0 := by omega
              have hv0 : wrap64 ((acc : Int) + wrap64 0) = 0 := by rw [ha0]; unfold wrap64; omega
              rw [if_neg (by omega), hb0, if_neg (by simp [ha0])] at hno
              have hno2 : numOfOut s at_ = (0, at_ + (j + 1), 0) := by rw [hno, ha0]; simp
              have Hno := hide hno2
              have hc0 : (((s[at_ + j]).toNat : Int) == 0) = true := by simp [hb0]
              have HA0 := hide ha0
              clear hno hno2 he hix hb hsv He HP hj hP1 ha0 hj0
              go_wp2_with fail
              go_ret3
              rw [Hno.out]
              have := HA0.out
              exact ⟨by simp; omega, rfl⟩
          · rw [if_neg (fun hh => hb0 (by rw [Option.some.inj hh.2]; rfl))] at hno
            have hc0 : (((s[at_ + j]).toNat : Int) == 0) = false := by simp; omega
            have hs2 := hsv.out
            generalize hN : acc + (s[at_ + j]).toNat % 128 * P = N at *
            have hN2 : acc + (s[at_ + j]).toNat % 128 * 128 ^ j = N := by rw [← HP.out]; exact hN
            rw [hN2] at hno
            clear hN hN2
            by_cases h9 : 1099511627776 < N
            · have h9' : (1099511627776 : Int) < N := by omega
              rw [if_pos h9] at hno
              have Hno := hide hno
              clear hno he hix hb hsv He HP hb0
              go_wp2_with fail
              go_ret3
              rw [Hno.out]
              exact ⟨rfl, rfl⟩
            · have h9' : (N : Int) ≤ 1099511627776 := by omega
              rw [if_neg h9] at hno
              have Hno := hide hno
              clear hno he hix hb hsv He HP hb0
              go_wp2_with fail
              go_ret3
              rw [Hno.out]
              exact ⟨by simp; omega, rfl⟩
        · have hb' : (128 : Int) ≤ ((s[at_ + j]).toNat : Int) := by omega
          rw [scan_next _ _ _ _ _ hb] at he
          have Hn := hide he
          have hl := step_lt acc j ((s[at_ + j]).toNat % 128) (by rw [← HP.out]; exact hacc) (by omega)
          have Hl := hide hl
          clear he hl He
          have hs2 := hsv.out
          go_wp2_with fail
          go_round
          case rel =>
            refine ⟨j + 1, acc + (s[at_ + j]).toNat % 128 * P, P * 128, by rw [hsv.out], by go_num, by go_num, by omega, by omega, ?_, ?_, ?_⟩
            · rw [HP.out, ← Nat.pow_succ]; exact Hl.out
            · rw [HP.out, Nat.pow_succ]
            · rw [show 6 - (j + 1) = 5 - j by omega]
              rw [HP.out]
              exact Hn.out
          case measure => simp [intOf]; omega
      · have hlt' : (s.size : Int) ≤ (at_ : Int) + j := by omega
        have he := He.out
        have hj : s.data.toList.drop (at_ + j) = [] := by rw [List.drop_eq_nil_iff, lenL]; omega
        have hk : Go.Num.scan (6 - j) [] acc j = none := by cases 6 - j <;> rfl
        rw [hj, hk] at he
        have hfin : numOfOut s at_ = (0, at_, 1) := by unfold numOfOut; rw [dec_of_none _ he]
        have Hfin := hide hfin
        clear he He hj hk hfin
        go_wp2_with fail
        go_ret3
        rw [Hfin.out]
        exact ⟨rfl, rfl⟩
    · have h6' : (6 : Int) ≤ j := by omega
      have he := He.out
      rw [show 6 - j = 0 by omega, Go.Num.scan] at he
      have hfin : numOfOut s at_ = (0, at_, 1) := by unfold numOfOut; rw [dec_of_none _ he]
      have Hfin := hide hfin
      clear he He hfin hP
      go_wp2_with fail
      go_ret3
      rw [Hfin.out]
      exact ⟨rfl, rfl⟩
end Go.Proofs.YtcenohaadggdiacGreatDoor

namespace Go.Proofs.YtcenohaadggdiacGreatDoor
open Go.RowKit

set_option maxHeartbeats 400000 in
set_option maxRecDepth 100000 in
theorem counted_ok (s : ByteArray) (w : World) (hs : s.size ≤ 20000) : Calls Tryz.prog 31 #[.string s] w fun r w' => r = .returned (.string (str (Go.Num.enc s.size ++ s.data.toList))) ∧ Below w.heap.size w w' := by
  go_enter Tryz.func31, Tryz.ntmps31
  go_wp2_with fail
  refine (numText_ok s.size _ (by omega)).mono ?_
  rintro e w1 ⟨rfl, hb1⟩
  have Hb1 := hide hb1
  clear hb1
  have hz : str (Go.Num.enc s.size) ++ s = str (Go.Num.enc s.size ++ s.data.toList) := by
    rw [← str_app]; rfl
  have hsz : (str (Go.Num.enc s.size)).size ≤ 6 := by rw [str_len]; exact Go.Num.enc_length_le _
  generalize str (Go.Num.enc s.size) = A at *
  have Hz := hide hz
  clear hz
  go_wp2_with fail
  go_ret
  rw [← Hz.out]
  exact ⟨rfl, Hb1.out⟩

theorem scan_some (f : Nat) : ∀ (L : List UInt8) (acc i0 n i : Nat), Go.Num.scan f L acc i0 = some (n, i) → i0 ≤ i ∧ i - i0 < L.length := by
  induction f with
  | zero => intro L acc i0 n i h; simp [Go.Num.scan] at h
  | succ f ih =>
    intro L acc i0 n i h
    cases L with
    | nil => simp [Go.Num.scan] at h
    | cons b r =>
      by_cases hb : b.toNat < 128
      · rw [scan_end _ _ _ _ _ hb] at h
        simp at h
        obtain ⟨_, rfl⟩ := h
        exact ⟨Nat.le_refl _, by simp⟩
      · rw [scan_next _ _ _ _ _ hb] at h
        have := ih _ _ _ _ _ h
        simp only [List.length_cons]
        omega

theorem dec_ok (L : List UInt8) (n k : Nat) (h : Go.Num.dec L = .ok (n, k)) : n ≤ 1099511627776 ∧ k ≤ L.length := by
  cases hs : Go.Num.scan 6 L 0 0 with
  | none => rw [dec_of_none _ hs] at h; cases h
  | some x =>
    obtain ⟨m, i⟩ := x
    rw [dec_of_scan _ _ _ hs] at h
    have := scan_some _ _ _ _ _ _ hs
    split at h
    · cases h
    · split at h
      · cases h
      · cases h
        omega

theorem dec_err (L : List UInt8) (c : Nat) (h : Go.Num.dec L = .error c) : c = 1 ∨ c = 2 := by
  cases hs : Go.Num.scan 6 L 0 0 with
  | none => rw [dec_of_none _ hs] at h; cases h; exact Or.inl rfl
  | some x =>
    obtain ⟨m, i⟩ := x
    rw [dec_of_scan _ _ _ hs] at h
    split at h
    · cases h; exact Or.inl rfl
    · split at h
      · cases h; exact Or.inr rfl
      · cases h

theorem numOfOut_bd (s : ByteArray) (at_ : Nat) (hat : at_ ≤ s.size) : (numOfOut s at_).1 ≤ 1099511627776 ∧ (numOfOut s at_).2.1 ≤ s.size ∧ (numOfOut s at_).2.2 ≤ 2 := by
  unfold numOfOut
  cases h : Go.Num.dec (s.data.toList.drop at_) with
  | ok x =>
    obtain ⟨n, k⟩ := x
    have := dec_ok _ _ _ h
    rw [List.length_drop, lenL] at this
    refine ⟨this.1, ?_, by simp⟩
    show at_ + k ≤ s.size
    omega
  | error c =>
    have := dec_err _ _ h
    exact ⟨by simp, hat, by show c ≤ 2; omega⟩

/-- What TextOf answers. -/
def textOfOut (s : ByteArray) (at_ : Nat) : ByteArray × Nat × Nat :=
  if 0 < (numOfOut s at_).2.2 then (ByteArray.empty, at_, (numOfOut s at_).2.2)
  else if 20000 < (numOfOut s at_).1 then (ByteArray.empty, at_, 2)
  else if s.size - (numOfOut s at_).2.1 < (numOfOut s at_).1 then (ByteArray.empty, at_, 1)
  else (s.extract (numOfOut s at_).2.1 ((numOfOut s at_).2.1 + (numOfOut s at_).1), (numOfOut s at_).2.1 + (numOfOut s at_).1, 0)

set_option maxHeartbeats 1000000 in
set_option maxRecDepth 100000 in
theorem textOf_ok (s : ByteArray) (at_ : Nat) (w : World) (hs : s.size ≤ 1000000) (hat : at_ ≤ s.size) :
    Calls Tryz.prog 34 #[.string s, .int .i64 at_] w fun r w' => r = .returned (.tuple #[.string (textOfOut s at_).1, .int .i64 (textOfOut s at_).2.1, .int .i64 (textOfOut s at_).2.2]) ∧ w' = w := by
  have hs' : (s.size : Int) ≤ 1000000 := by omega
  have hat' : (at_ : Int) ≤ s.size := by omega
  have hbd := numOfOut_bd s at_ hat
  have hto : textOfOut s at_ = if 0 < (numOfOut s at_).2.2 then (ByteArray.empty, at_, (numOfOut s at_).2.2)
      else if 20000 < (numOfOut s at_).1 then (ByteArray.empty, at_, 2)
      else if s.size - (numOfOut s at_).2.1 < (numOfOut s at_).1 then (ByteArray.empty, at_, 1)
      else (s.extract (numOfOut s at_).2.1 ((numOfOut s at_).2.1 + (numOfOut s at_).1), (numOfOut s at_).2.1 + (numOfOut s at_).1, 0) := rfl
  have hc := numOf_ok s at_ w hs hat
  generalize numOfOut s at_ = x at *
  obtain ⟨n, k, e⟩ := x
  simp only at hbd hto hc
  obtain ⟨hn, hk, he⟩ := hbd
  have hn' : (n : Int) ≤ 1099511627776 := by omega
  have hk' : (k : Int) ≤ s.size := by omega
  have he' : (e : Int) ≤ 2 := by omega
  have HC := hide hc
  clear hc
  go_enter Tryz.func34, Tryz.ntmps34
  go_wp2_with fail
  refine HC.out.mono ?_
  rintro ev w1 ⟨rfl, rfl⟩
  by_cases h1 : 0 < e
  · rw [if_pos h1] at hto
    have Hto := hide hto
    have h1' : (0 : Int) < e := by omega
    clear hto h1
    go_wp2_with fail
    go_ret3
    rw [Hto.out]
    exact ⟨rfl, rfl⟩
  rw [if_neg h1] at hto
  have h1' : (e : Int) ≤ 0 := by omega
  clear h1
  by_cases h2 : 20000 < n
  · rw [if_pos h2] at hto
    have Hto := hide hto
    have h2' : (20000 : Int) < n := by omega
    clear hto h2
    go_wp2_with fail
    go_ret3
    rw [Hto.out]
    exact ⟨rfl, rfl⟩
  rw [if_neg h2] at hto
  have h2' : (n : Int) ≤ 20000 := by omega
  clear h2
  by_cases h3 : s.size - k < n
  · rw [if_pos h3] at hto
    have Hto := hide hto
    have h3' : (s.size : Int) - k < n := by omega
    clear hto h3
    go_wp2_with fail
    go_ret3
    rw [Hto.out]
    exact ⟨rfl, rfl⟩
  rw [if_neg h3] at hto
  have Hto := hide hto
  have h3' : (n : Int) ≤ (s.size : Int) - k := by omega
  have h4' : (k : Int) + n ≤ s.size := by omega
  clear hto h3
  go_wp2_with fail
  go_ret3
  rw [Hto.out]
  exact ⟨by simp, rfl⟩
end Go.Proofs.YtcenohaadggdiacGreatDoor
