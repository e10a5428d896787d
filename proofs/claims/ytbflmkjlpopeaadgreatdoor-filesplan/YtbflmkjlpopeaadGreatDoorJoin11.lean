/-
  Contracts of the document's answer for reading numbers and texts (NumOf, TextOf) over this dump: every text, every place in it.
  Contract of the document's answer for reading texts (TextOf) over this dump.
  Contract of the document's LinesText over this dump, at lines that may be written.
  What a number that is read comes to. No program, no walk.
  What the document's NumOf and TextOf answer, as numbers and texts that are read.
-/
import Derived.Test.YtbflmkjlpopeaadGreatDoorJoin10
import Derived.Test.YtbflmkjlpopeaadGreatDoorJoin09
import Derived.BigQuiet
import Derived.Deep.QuietTactic
import Derived.Laws.Cover1
import Derived.Deep.AppendLies
import Derived.Deep.RegionHeld3
import Derived.Test.YtbflmkjlpopeaadGreatDoorJoin01
namespace Go.Proofs.YtbflmkjlpopeaadGreatDoor
open Go.RowKit

/-- What NumOf answers: the number, the place behind it, an error's number. -/
def numOfOut (s : ByteArray) (at_ : Nat) : Nat × Nat × Nat :=
  match Go.Num.dec (s.data.toList.drop at_) with
  | .ok (n, k) => (n, at_ + k, 0)
  | .error c => (0, at_, c)

theorem step_by (acc P : Nat) (b : UInt8) (ha : acc < P) (hP : P ≤ 34359738368) : wrap64 ((acc : Int) + wrap64 ((b.toNat : Int) % 128 * (P : Int))) = ((acc + b.toNat % 128 * P : Nat) : Int) := by
  have hm : b.toNat % 128 ≤ 127 := by omega
  have h1 : b.toNat % 128 * P ≤ 127 * P := Nat.mul_le_mul_right _ hm
  have e : (b.toNat : Int) % 128 * (P : Int) = ((b.toNat % 128 * P : Nat) : Int) := by rw [Int.natCast_mul]; simp
  rw [e]
  generalize b.toNat % 128 * P = q at *
  unfold wrap64
  omega

theorem pow_bd (j : Nat) (h : j < 6) : 128 ^ j ≤ 34359738368 := by
  match j, h with
  | 0, _ => decide
  | 1, _ => decide
  | 2, _ => decide
  | 3, _ => decide
  | 4, _ => decide
  | 5, _ => decide

theorem numOf_lt (s : ByteArray) (at_ n i : Nat) (h : Go.Num.scan 6 (s.data.toList.drop at_) 0 0 = some (n, i)) : numOfOut s at_ = if 0 < i ∧ (s.data.toList.drop at_)[i]? = some 0 then (0, at_, 1) else if 1099511627776 < n then (0, at_, 2) else (n, at_ + (i + 1), 0) := by
  unfold numOfOut
  rw [dec_of_scan _ _ _ h]
  split
  · rename_i n' k heq
    split at heq
    · cases heq
    · split at heq
      · cases heq
      · rename_i h1 h2
        cases heq
        rw [if_neg h1, if_neg h2]
  · rename_i c heq
    split at heq
    · rename_i h1
      cases heq
      rw [if_pos h1]
    · rename_i h1
      rw [if_neg h1]
      split at heq
      · rename_i h2
        cases heq
        rw [if_pos h2]
      · cases heq

set_option maxHeartbeats 1000000 in
set_option maxRecDepth 100000 in
theorem numOf_ok (s : ByteArray) (at_ : Nat) (w : World) (hs : s.size ≤ 1000000) (hat : at_ ≤ s.size) :
    Calls Tryz.prog 31 #[.string s, .int .i64 at_] w fun r w' => r = .returned (.tuple #[.int .i64 (numOfOut s at_).1, .int .i64 (numOfOut s at_).2.1, .int .i64 (numOfOut s at_).2.2]) ∧ w' = w := by
  have hs' : (s.size : Int) ≤ 1000000 := by omega
  have hat' : (at_ : Int) ≤ s.size := by omega
  go_enter Tryz.func31, Tryz.ntmps31
  go_wp2_with fail
  go_loop [7, 8, 9] (fun a y b => ∃ j acc P : Nat, a = .int .i64 acc ∧ y = .int .i64 P ∧ b = .int .i64 j ∧ j ≤ 6 ∧ at_ + j ≤ s.size ∧ acc < P ∧ P = 128 ^ j ∧ Hid (Go.Num.scan 6 (s.data.toList.drop at_) 0 0 = Go.Num.scan (6 - j) (s.data.toList.drop (at_ + j)) acc j)) (fun _ _ b => 6 - (intOf b).toNat)
  case atStart => exact ⟨0, 0, 1, rfl, rfl, rfl, by omega, by omega, by omega, by simp, rfl⟩
  case round =>
    obtain ⟨j, acc, P, rfl, rfl, rfl, hj6, hjs, hacc, hP, He⟩ := hrel
    have HP := hide hP
    by_cases h6 : j < 6
    · have hPb : P ≤ 34359738368 := by rw [hP]; exact pow_bd j h6
      have hPb' : (P : Int) ≤ 34359738368 := by omega
      have h6' : (j : Int) < 6 := by omega
      clear hP
      by_cases hlt : at_ + j < s.size
      · have hlt' : (at_ : Int) + j < s.size := by omega
        have he := He.out
        rw [dropL s (at_ + j) hlt, show 6 - j = (5 - j) + 1 by omega] at he
        have hw := byte_wrap s[at_ + j]
        have hsv := hide (step_by acc P s[at_ + j] hacc hPb)
        by_cases hb : (s[at_ + j]).toNat < 128
        · have hb' : ((s[at_ + j]).toNat : Int) < 128 := by omega
          rw [scan_end _ _ _ _ _ hb] at he
          have hno := numOf_lt s at_ _ _ he
          have hix : (s.data.toList.drop at_)[j]? = some s[at_ + j] := by rw [List.getElem?_drop]; exact getL s (at_ + j) hlt
          rw [hix] at hno
          by_cases hb0 : (s[at_ + j]).toNat = 0
          · by_cases hj0 : 0 < j
            · have hj0' : (0 : Int) < j := by omega
              rw [if_pos ⟨hj0, congrArg some (UInt8.toNat_inj.1 (by simpa using hb0))⟩] at hno
              have Hno := hide hno
              have hc0 : (((s[at_ + j]).toNat : Int) == 0) = true := by simp [hb0]
              clear hno he hix hb hsv He HP
              go_wp2_with fail
              go_ret3
              rw [Hno.out]
              exact ⟨rfl, rfl⟩
            · have hd0 : (j : Int) ≤ 0 := by omega
              have hj : j = 0 := by omega
              have hP1 : P = 1 := by have := HP.out; rw [hj] at this; simpa using this
              have ha0 : acc = 0 := by omega
              have hv0 : wrap64 ((acc : Int) + wrap64 0) = 0 := by rw [ha0]; unfold wrap64; omega
              rw [if_neg (by omega), hb0, if_neg (by simp [ha0])] at hno
              have hno2 : numOfOut s at_ = (0, at_ + (j + 1), 0) := by rw [hno, ha0]; simp
              have Hno := hide hno2
              have hc0 : (((s[at_ + j]).toNat : Int) == 0) = true := by simp [hb0]
              have HA0 := hide ha0
              clear hno hno2 he hix hb hsv He HP hj hP1 ha0 hj0
              go_wp2_with fail
              go_ret3
              rw [Hno.out]
              have := HA0.out
              exact ⟨by simp; omega, rfl⟩
          · rw [if_neg (fun hh => hb0 (by rw [Option.some.inj hh.2]; rfl))] at hno
            have hc0 : (((s[at_ + j]).toNat : Int) == 0) = false := by simp; omega
            have hs2 := hsv.out
            generalize hN : acc + (s[at_ + j]).toNat % 128 * P = N at *
            have hN2 : acc + (s[at_ + j]).toNat % 128 * 128 ^ j = N := by rw [← HP.out]; exact hN
            rw [hN2] at hno
            clear hN hN2
            by_cases h9 : 1099511627776 < N
            · have h9' : (1099511627776 : Int) < N := by omega
              rw [if_pos h9] at hno
              have Hno := hide hno
              clear hno he hix hb hsv He HP hb0
              go_wp2_with fail
              go_ret3
              rw [Hno.out]
              exact ⟨rfl, rfl⟩
            · have h9' : (N : Int) ≤ 1099511627776 := by omega
              rw [if_neg h9] at hno
              have Hno := hide hno
              clear hno he hix hb hsv He HP hb0
              go_wp2_with fail
              go_ret3
              rw [Hno.out]
              exact ⟨by simp; omega, rfl⟩
        · have hb' : (128 : Int) ≤ ((s[at_ + j]).toNat : Int) := by omega
          rw [scan_next _ _ _ _ _ hb] at he
          have Hn := hide he
          have hl := step_lt acc j ((s[at_ + j]).toNat % 128) (by rw [← HP.out]; exact hacc) (by omega)
          have Hl := hide hl
          clear he hl He
          have hs2 := hsv.out
          go_wp2_with fail
          go_round
          case rel =>
            refine ⟨j + 1, acc + (s[at_ + j]).toNat % 128 * P, P * 128, by rw [hsv.out], by go_num, by go_num, by omega, by omega, ?_, ?_, ?_⟩
            · rw [HP.out, ← Nat.pow_succ]; exact Hl.out
            · rw [HP.out, Nat.pow_succ]
            · rw [show 6 - (j + 1) = 5 - j by omega]
              rw [HP.out]
              exact Hn.out
          case measure => simp [intOf]; omega
      · have hlt' : (s.size : Int) ≤ (at_ : Int) + j := by omega
        have he := He.out
        have hj : s.data.toList.drop (at_ + j) = [] := by rw [List.drop_eq_nil_iff, lenL]; omega
        have hk : Go.Num.scan (6 - j) [] acc j = none := by cases 6 - j <;> rfl
        rw [hj, hk] at he
        have hfin : numOfOut s at_ = (0, at_, 1) := by unfold numOfOut; rw [dec_of_none _ he]
        have Hfin := hide hfin
        clear he He hj hk hfin
        go_wp2_with fail
        go_ret3
        rw [Hfin.out]
        exact ⟨rfl, rfl⟩
    · have h6' : (6 : Int) ≤ j := by omega
      have he := He.out
      rw [show 6 - j = 0 by omega, Go.Num.scan] at he
      have hfin : numOfOut s at_ = (0, at_, 1) := by unfold numOfOut; rw [dec_of_none _ he]
      have Hfin := hide hfin
      clear he He hfin hP
      go_wp2_with fail
      go_ret3
      rw [Hfin.out]
      exact ⟨rfl, rfl⟩
end Go.Proofs.YtbflmkjlpopeaadGreatDoor

namespace Go.Proofs.YtbflmkjlpopeaadGreatDoor
open Go.RowKit

set_option maxHeartbeats 400000 in
set_option maxRecDepth 100000 in
theorem counted_ok (s : ByteArray) (w : World) (hs : s.size ≤ 20000) : Calls Tryz.prog 27 #[.string s] w fun r w' => r = .returned (.string (str (Go.Num.enc s.size ++ s.data.toList))) ∧ Below w.heap.size w w' := by
  go_enter Tryz.func27, Tryz.ntmps27
  go_wp2_with fail
  refine (numText_ok s.size _ (by omega)).mono ?_
  rintro e w1 ⟨rfl, hb1⟩
  have Hb1 := hide hb1
  clear hb1
  have hz : str (Go.Num.enc s.size) ++ s = str (Go.Num.enc s.size ++ s.data.toList) := by
    rw [← str_app]; rfl
  have hsz : (str (Go.Num.enc s.size)).size ≤ 6 := by rw [str_len]; exact Go.Num.enc_length_le _
  generalize str (Go.Num.enc s.size) = A at *
  have Hz := hide hz
  clear hz
  go_wp2_with fail
  go_ret
  rw [← Hz.out]
  exact ⟨rfl, Hb1.out⟩

theorem scan_some (f : Nat) : ∀ (L : List UInt8) (acc i0 n i : Nat), Go.Num.scan f L acc i0 = some (n, i) → i0 ≤ i ∧ i - i0 < L.length := by
  induction f with
  | zero => intro L acc i0 n i h; simp [Go.Num.scan] at h
  | succ f ih =>
    intro L acc i0 n i h
    cases L with
    | nil => simp [Go.Num.scan] at h
    | cons b r =>
      by_cases hb : b.toNat < 128
      · rw [scan_end _ _ _ _ _ hb] at h
        simp at h
        obtain ⟨_, rfl⟩ := h
        exact ⟨Nat.le_refl _, by simp⟩
      · rw [scan_next _ _ _ _ _ hb] at h
        have := ih _ _ _ _ _ h
        simp only [List.length_cons]
        omega

theorem dec_ok (L : List UInt8) (n k : Nat) (h : Go.Num.dec L = .ok (n, k)) : n ≤ 1099511627776 ∧ k ≤ L.length := by
  cases hs : Go.Num.scan 6 L 0 0 with
  | none => rw [dec_of_none _ hs] at h; cases h
  | some x =>
    obtain ⟨m, i⟩ := x
    rw [dec_of_scan _ _ _ hs] at h
    have := scan_some _ _ _ _ _ _ hs
    split at h
    · cases h
    · split at h
      · cases h
      · cases h
        omega

theorem dec_err (L : List UInt8) (c : Nat) (h : Go.Num.dec L = .error c) : c = 1 ∨ c = 2 := by
  cases hs : Go.Num.scan 6 L 0 0 with
  | none => rw [dec_of_none _ hs] at h; cases h; exact Or.inl rfl
  | some x =>
    obtain ⟨m, i⟩ := x
    rw [dec_of_scan _ _ _ hs] at h
    split at h
    · cases h; exact Or.inl rfl
    · split at h
      · cases h; exact Or.inr rfl
      · cases h

theorem numOfOut_bd (s : ByteArray) (at_ : Nat) (hat : at_ ≤ s.size) : (numOfOut s at_).1 ≤ 1099511627776 ∧ (numOfOut s at_).2.1 ≤ s.size ∧ (numOfOut s at_).2.2 ≤ 2 := by
  unfold numOfOut
  cases h : Go.Num.dec (s.data.toList.drop at_) with
  | ok x =>
    obtain ⟨n, k⟩ := x
    have := dec_ok _ _ _ h
    rw [List.length_drop, lenL] at this
    refine ⟨this.1, ?_, by simp⟩
    show at_ + k ≤ s.size
    omega
  | error c =>
    have := dec_err _ _ h
    exact ⟨by simp, hat, by show c ≤ 2; omega⟩

/-- What TextOf answers. -/
def textOfOut (s : ByteArray) (at_ : Nat) : ByteArray × Nat × Nat :=
  if 0 < (numOfOut s at_).2.2 then (ByteArray.empty, at_, (numOfOut s at_).2.2)
  else if 20000 < (numOfOut s at_).1 then (ByteArray.empty, at_, 2)
  else if s.size - (numOfOut s at_).2.1 < (numOfOut s at_).1 then (ByteArray.empty, at_, 1)
  else (s.extract (numOfOut s at_).2.1 ((numOfOut s at_).2.1 + (numOfOut s at_).1), (numOfOut s at_).2.1 + (numOfOut s at_).1, 0)

set_option maxHeartbeats 1000000 in
set_option maxRecDepth 100000 in
theorem textOf_ok (s : ByteArray) (at_ : Nat) (w : World) (hs : s.size ≤ 1000000) (hat : at_ ≤ s.size) :
    Calls Tryz.prog 32 #[.string s, .int .i64 at_] w fun r w' => r = .returned (.tuple #[.string (textOfOut s at_).1, .int .i64 (textOfOut s at_).2.1, .int .i64 (textOfOut s at_).2.2]) ∧ w' = w := by
  have hs' : (s.size : Int) ≤ 1000000 := by omega
  have hat' : (at_ : Int) ≤ s.size := by omega
  have hbd := numOfOut_bd s at_ hat
  have hto : textOfOut s at_ = if 0 < (numOfOut s at_).2.2 then (ByteArray.empty, at_, (numOfOut s at_).2.2)
      else if 20000 < (numOfOut s at_).1 then (ByteArray.empty, at_, 2)
      else if s.size - (numOfOut s at_).2.1 < (numOfOut s at_).1 then (ByteArray.empty, at_, 1)
      else (s.extract (numOfOut s at_).2.1 ((numOfOut s at_).2.1 + (numOfOut s at_).1), (numOfOut s at_).2.1 + (numOfOut s at_).1, 0) := rfl
  have hc := numOf_ok s at_ w hs hat
  generalize numOfOut s at_ = x at *
  obtain ⟨n, k, e⟩ := x
  simp only at hbd hto hc
  obtain ⟨hn, hk, he⟩ := hbd
  have hn' : (n : Int) ≤ 1099511627776 := by omega
  have hk' : (k : Int) ≤ s.size := by omega
  have he' : (e : Int) ≤ 2 := by omega
  have HC := hide hc
  clear hc
  go_enter Tryz.func32, Tryz.ntmps32
  go_wp2_with fail
  refine HC.out.mono ?_
  rintro ev w1 ⟨rfl, rfl⟩
  by_cases h1 : 0 < e
  · rw [if_pos h1] at hto
    have Hto := hide hto
    have h1' : (0 : Int) < e := by omega
    clear hto h1
    go_wp2_with fail
    go_ret3
    rw [Hto.out]
    exact ⟨rfl, rfl⟩
  rw [if_neg h1] at hto
  have h1' : (e : Int) ≤ 0 := by omega
  clear h1
  by_cases h2 : 20000 < n
  · rw [if_pos h2] at hto
    have Hto := hide hto
    have h2' : (20000 : Int) < n := by omega
    clear hto h2
    go_wp2_with fail
    go_ret3
    rw [Hto.out]
    exact ⟨rfl, rfl⟩
  rw [if_neg h2] at hto
  have h2' : (n : Int) ≤ 20000 := by omega
  clear h2
  by_cases h3 : s.size - k < n
  · rw [if_pos h3] at hto
    have Hto := hide hto
    have h3' : (s.size : Int) - k < n := by omega
    clear hto h3
    go_wp2_with fail
    go_ret3
    rw [Hto.out]
    exact ⟨rfl, rfl⟩
  rw [if_neg h3] at hto
  have Hto := hide hto
  have h3' : (n : Int) ≤ (s.size : Int) - k := by omega
  have h4' : (k : Int) + n ≤ s.size := by omega
  clear hto h3
  go_wp2_with fail
  go_ret3
  rw [Hto.out]
  exact ⟨by simp, rfl⟩
end Go.Proofs.YtbflmkjlpopeaadGreatDoor

namespace Go.Proofs.YtbflmkjlpopeaadGreatDoor
open Go.RowKit
open Go.Files (Ln FineL encN encNs encL encNs_snoc encNs_length)

set_option maxHeartbeats 2000000 in
set_option maxRecDepth 100000 in
theorem linesText_ok (v : Value) (l : List Ln) (w : World) (hv : MRow w v l) (hl : l.length ≤ 1000) (hw : ∀ x ∈ l, FineL x) :
    Calls Tryz.prog 10 #[v] w fun r w' => r = .returned (.string (str (encL l))) ∧ Below w.heap.size w w' := by
  obtain ⟨a, c, rfl, hv⟩ := hv
  have HV := hide hv
  have HW := hide hw
  have hl' : (l.length : Int) ≤ 1000 := by omega
  clear hv hw
  have HB := hide (fun W => numText_ok l.length W (by omega))
  have hP : (str (Go.Num.enc l.length)).size ≤ 6 := by rw [str_len]; exact Go.Num.enc_length_le _
  have HEnd : Hid (str (Go.Num.enc l.length ++ encNs l) = str (encL l)) := rfl
  have H0 : Hid (str (Go.Num.enc l.length ++ encNs (l.take 0)) = str (Go.Num.enc l.length)) := by simp [encNs, Hid]
  generalize str (encL l) = E at *
  generalize Go.Num.enc l.length = P0 at *
  go_enter Tryz.func10, Tryz.ntmps10
  go_wp2_with fail
  refine (HB.out _).mono ?_
  rintro r w2 ⟨rfl, hb2⟩
  have Hb2 := hide hb2
  clear hb2
  go_wp2_with fail
  go_loopw [3, 4] (fun t3 t4 wr => ∃ j : Nat, t4 = .int .i64 j ∧ t3 = .string (str (P0 ++ encNs (l.take j))) ∧ j ≤ l.length ∧ Hid (Below w.heap.size w wr)) (fun _ t4 _ => l.length - (intOf t4).toNat)
  case atStart => exact ⟨0, rfl, by rw [H0.out], by omega, Hb2.out⟩
  case round =>
    clear Hb2 H0 HB
    obtain ⟨j, rfl, rfl, hj, Hb⟩ := hrel
    by_cases hlt : j < l.length
    · have hlt' : (j : Int) < l.length := by omega
      obtain ⟨b, o, rfl, hc⟩ := HV.out (by omega)
      obtain ⟨c0, c1, c2⟩ := hc j hlt
      have d0 := (Hb.out.cell (World.block_lt_of_cell? _ _ c0)).trans c0
      have d1 := (Hb.out.cell (World.block_lt_of_cell? _ _ c1)).trans c1
      have d2 := (Hb.out.cell (World.block_lt_of_cell? _ _ c2)).trans c2
      clear hc c0 c1 c2
      have hok := HW.out l[j] (List.getElem_mem hlt)
      have Hsn := hide (List.take_succ_eq_append_getElem hlt)
      have hbl := encNs_length (l := l.take j) (fun x hx => HW.out x (List.mem_of_mem_take hx))
      have hsz : (str (P0 ++ encNs (l.take j))).size ≤ 200000 := by
        rw [← str_app, ByteArray.size_append, str_len (encNs _)]
        simp only [List.length_take] at hbl
        omega
      generalize l[j] = x at *
      obtain ⟨nm, xn, xs⟩ := x
      obtain ⟨k0, n0, n1, s0, s1⟩ := hok
      simp only at k0 n0 n1 s0 s1 d0 d1 d2
      obtain ⟨n, rfl⟩ := Int.eq_ofNat_of_zero_le n0
      obtain ⟨k, rfl⟩ := Int.eq_ofNat_of_zero_le s0
      have HX := hide (fun W => counted_ok nm W (by omega))
      have HY := hide (fun W => numText_ok n W (by omega))
      have HZ := hide (fun W => numText_ok k W (by omega))
      have Hfin : Hid (str (P0 ++ encNs (l.take j)) ++ str (Go.Num.enc nm.size ++ nm.data.toList) ++ str (Go.Num.enc n) ++ str (Go.Num.enc k) = str (P0 ++ encNs (l.take (j + 1)))) := by
        rw [Hsn.out, encNs_snoc, str_app, str_app, str_app]
        simp [encN, Hid]
      have lx : (str (Go.Num.enc nm.size ++ nm.data.toList)).size ≤ 20 := by
        rw [str_len, List.length_append, lenL]
        have := Go.Num.enc_length_le nm.size
        omega
      have ly : (str (Go.Num.enc n)).size ≤ 6 := by rw [str_len]; exact Go.Num.enc_length_le _
      have lz : (str (Go.Num.enc k)).size ≤ 6 := by rw [str_len]; exact Go.Num.enc_length_le _
      generalize str (P0 ++ encNs (l.take j)) = S at *
      generalize str (Go.Num.enc nm.size ++ nm.data.toList) = X at *
      generalize str (Go.Num.enc n) = Y at *
      generalize str (Go.Num.enc k) = Z at *
      have p1 := fun W => run_string_add_sum (P := Tryz.prog) W S X (by omega)
      have p2 := fun W => run_string_add_sum (P := Tryz.prog) W (S ++ X) Y (by rw [ByteArray.size_append]; omega)
      have p3 := fun W => run_string_add_sum (P := Tryz.prog) W (S ++ X ++ Y) Z (by rw [ByteArray.size_append, ByteArray.size_append]; omega)
      have HH := hide (And.intro hj hlt)
      clear HV HW hbl lx ly lz hsz hP n0 n1 s0 s1 k0 hj HEnd Hsn hl
      go_wp2_with fail
      go_region_held3 (fun w' => Hid (Below w.heap.size w w') ∧ w'.cell? ⟨b, o + j * 3, none⟩ = some (.string nm) ∧ w'.cell? ⟨b, o + j * 3 + 1, none⟩ = some (.int .i64 (n : Int)) ∧ w'.cell? ⟨b, o + j * 3 + 2, none⟩ = some (.int .i64 (k : Int))) (first | exact ⟨Hb6, g0, g1, g2⟩ | exact ⟨Hb5, f0, f1, f2⟩ | exact ⟨Hb4, e0, e1, e2⟩ | exact ⟨Hb.out.drew, d0, d1, d2⟩)
        (first
          | (go_at_call_of 26 k; refine (HZ.out _).mono ?_; rintro r w6 ⟨rfl, hb6⟩; have g0 : w6.cell? ⟨b, o + j * 3, none⟩ = some (.string nm) := (hb6.cell (World.block_lt_of_cell? w5 _ f0)).trans f0; have g1 : w6.cell? ⟨b, o + j * 3 + 1, none⟩ = some (.int .i64 (n : Int)) := (hb6.cell (World.block_lt_of_cell? w5 _ f1)).trans f1; have g2 : w6.cell? ⟨b, o + j * 3 + 2, none⟩ = some (.int .i64 (k : Int)) := (hb6.cell (World.block_lt_of_cell? w5 _ f2)).trans f2; have Hb6 := hide (bthen Hb5.out hb6); clear hb6)
          | (go_at_call_of 26 n; refine (HY.out _).mono ?_; rintro r w5 ⟨rfl, hb5⟩; have f0 : w5.cell? ⟨b, o + j * 3, none⟩ = some (.string nm) := (hb5.cell (World.block_lt_of_cell? w4 _ e0)).trans e0; have f1 : w5.cell? ⟨b, o + j * 3 + 1, none⟩ = some (.int .i64 (n : Int)) := (hb5.cell (World.block_lt_of_cell? w4 _ e1)).trans e1; have f2 : w5.cell? ⟨b, o + j * 3 + 2, none⟩ = some (.int .i64 (k : Int)) := (hb5.cell (World.block_lt_of_cell? w4 _ e2)).trans e2; have Hb5 := hide (bthen Hb4.out hb5); clear hb5)
          | (go_at_call 27; refine (HX.out _).mono ?_; rintro r w4 ⟨rfl, hb4⟩; have e0 : w4.cell? ⟨b, o + j * 3, none⟩ = some (.string nm) := (hb4.cell (World.block_lt_of_cell? wr _ d0)).trans d0; have e1 : w4.cell? ⟨b, o + j * 3 + 1, none⟩ = some (.int .i64 (n : Int)) := (hb4.cell (World.block_lt_of_cell? wr _ d1)).trans d1; have e2 : w4.cell? ⟨b, o + j * 3 + 2, none⟩ = some (.int .i64 (k : Int)) := (hb4.cell (World.block_lt_of_cell? wr _ d2)).trans d2; have Hb4 := hide (bthen Hb.out.drew hb4); clear hb4))
      all_goals
        go_wp2_with fail
        go_roundw
        case rel => exact ⟨j + 1, by go_num, by rw [← Hfin.out], by have := HH.out; omega, Hb6.out⟩
        case measure => have := HH.out; simp [intOf]; omega
    · have hle : (l.length : Int) ≤ (j : Int) := by omega
      rw [List.take_of_length_le (by omega), HEnd.out]
      go_wp2_with fail
      go_ret
      exact ⟨rfl, Hb.out⟩
end Go.Proofs.YtbflmkjlpopeaadGreatDoor

namespace Go.Proofs.YtbflmkjlpopeaadGreatDoor
open Go.RowKit

theorem dec_num {s : List UInt8} {n k : Nat} (h : Go.Num.dec s = .ok (n, k)) : n ≤ 1099511627776 ∧ 1 ≤ k ∧ k ≤ s.length := by
  have hs : ∀ (f : Nat) (l : List UInt8) (acc i n j : Nat), Go.Num.scan f l acc i = some (n, j) → j < i + l.length := by
    intro f
    induction f with
    | zero => intro l acc i n j h; cases h
    | succ f ih =>
      intro l acc i n j h
      cases l with
      | nil => cases h
      | cons b r =>
        rw [Go.Num.scan] at h
        split at h
        · cases h; simp
        · have := ih _ _ _ _ _ h; simp; omega
  unfold Go.Num.dec at h
  split at h
  · cases h
  · rename_i n' i hsc
    split at h
    · cases h
    · split at h
      · cases h
      · cases h
        have := hs _ _ _ _ _ _ hsc
        omega
end Go.Proofs.YtbflmkjlpopeaadGreatDoor

namespace Go.Proofs.YtbflmkjlpopeaadGreatDoor
open Go.RowKit
open Go.Delta (txt)

theorem num_dropD {L : List UInt8} {x n k : Nat} (h : Go.Num.dec (L.drop x) = .ok (n, k)) : Go.Sign.num (L.drop x) = .ok (n, L.drop (x + k)) := by
  rw [Go.Sign.num, h]
  simp [List.drop_drop]
theorem num_dropED {L : List UInt8} {x c : Nat} (h : Go.Num.dec (L.drop x) = .error c) : Go.Sign.num (L.drop x) = .error c := by
  rw [Go.Sign.num, h]
theorem numOf_errD (s : ByteArray) (x c : Nat) (w : World) (hs : s.size ≤ 1000000) (hx : x ≤ s.size) (h : Go.Num.dec (s.data.toList.drop x) = .error c) :
    Calls Tryz.prog 31 #[.string s, .int .i64 x] w fun r w' => r = .returned (.tuple #[.int .i64 0, .int .i64 x, .int .i64 c]) ∧ w' = w := by
  have := numOf_ok s x w hs hx
  rw [numOfOut, h] at this
  exact this
theorem numOf_numD (s : ByteArray) (x n k : Nat) (w : World) (hs : s.size ≤ 1000000) (hx : x ≤ s.size) (h : Go.Num.dec (s.data.toList.drop x) = .ok (n, k)) :
    Calls Tryz.prog 31 #[.string s, .int .i64 x] w fun r w' => r = .returned (.tuple #[.int .i64 n, .int .i64 ((x + k : Nat) : Int), .int .i64 0]) ∧ w' = w := by
  have := numOf_ok s x w hs hx
  rw [numOfOut, h] at this
  exact this
/-- What TextOf answers is the text at that place. -/
theorem txt_of (s : ByteArray) (x : Nat) (hx : x ≤ s.size) :
    (∃ d y, textOfOut s x = (d, y, 0) ∧ x < y ∧ y ≤ s.size ∧ d.size ≤ s.size ∧ txt (s.data.toList.drop x) = .ok (d.data.toList, s.data.toList.drop y)) ∨
    (∃ d y c, textOfOut s x = (d, y, c) ∧ (c = 1 ∨ c = 2) ∧ txt (s.data.toList.drop x) = .error c) := by
  unfold textOfOut numOfOut
  cases h : Go.Num.dec (s.data.toList.drop x) with
  | error c =>
    have hc := dec_err _ _ h
    right
    refine ⟨ByteArray.empty, x, c, ?_, hc, ?_⟩
    · simp only
      rw [if_pos (by omega)]
    · rw [txt, Go.Sign.num, h]
  | ok p =>
    obtain ⟨n, k⟩ := p
    have hd := dec_num h
    rw [List.length_drop, lenL] at hd
    have e : txt (s.data.toList.drop x) = if 20000 < n then .error 2 else if s.size - (x + k) < n then .error 1 else .ok ((s.data.toList.drop (x + k)).take n, s.data.toList.drop (x + k + n)) := by
      rw [txt, num_dropD h]
      simp only [List.length_drop, lenL, List.drop_drop]
    rw [e]
    simp only
    rw [if_neg (by omega)]
    by_cases h1 : 20000 < n
    · right
      rw [if_pos h1, if_pos h1]
      exact ⟨_, _, 2, rfl, Or.inr rfl, rfl⟩
    · rw [if_neg h1, if_neg h1]
      by_cases h2 : s.size - (x + k) < n
      · right
        rw [if_pos h2, if_pos h2]
        exact ⟨_, _, 1, rfl, Or.inl rfl, rfl⟩
      · left
        rw [if_neg h2, if_neg h2]
        refine ⟨_, _, rfl, by omega, by omega, by rw [ByteArray.size_extract]; omega, ?_⟩
        rw [extractL, show x + k + n - (x + k) = n by omega]
end Go.Proofs.YtbflmkjlpopeaadGreatDoor
