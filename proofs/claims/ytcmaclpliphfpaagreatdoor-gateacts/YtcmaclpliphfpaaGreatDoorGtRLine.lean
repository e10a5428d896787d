/-
  Contracts of package gate's number, readLine.
-/
import Derived.Test.YtcmaclpliphfpaaGreatDoorGtLine
import Derived.Test.YtcmaclpliphfpaaGreatDoorGateRead
import Derived.Laws.Cover1
import Derived.Lib.AtoiBound
import Derived.Lib.AtoiErrMem
import Derived.BigQuiet
namespace Go.Proofs.YtcmaclpliphfpaaGreatDoor
open Go.RowKit
open Go.Gate
open Go.Digits (digits numberOf)
open Go.Files (isNm lt)

theorem numberOf_long {s : List UInt8} (h : 10 < s.length) : numberOf s 10 = none := by
  unfold numberOf
  rw [if_pos (.inr (.inl h))]
theorem numberOf_none {s : List UInt8} (h : Lib.atoi s = none) : numberOf s 10 = none := by
  cases hn : numberOf s 10 with
  | none => rfl
  | some n =>
    obtain ⟨e, _⟩ := Go.Digits.number_canon hn
    rw [e, Go.Digits.atoi_digits] at h
    cases h
theorem numberOf_neg {s : List UInt8} {n : Int} (h : Lib.atoi s = some n) (h0 : n < 0) : numberOf s 10 = none := by
  cases hn : numberOf s 10 with
  | none => rfl
  | some m =>
    obtain ⟨e, _⟩ := Go.Digits.number_canon hn
    rw [e, Go.Digits.atoi_digits] at h
    cases h
    omega
theorem numberOf_other {s : List UInt8} {n : Int} (h : Lib.atoi s = some n) (h0 : digits n.toNat ≠ s) : numberOf s 10 = none := by
  cases hn : numberOf s 10 with
  | none => rfl
  | some m =>
    obtain ⟨e, _⟩ := Go.Digits.number_canon hn
    rw [e, Go.Digits.atoi_digits] at h
    cases h
    exact absurd e.symm (by simpa using h0)
theorem numberOf_same {s : List UInt8} {n : Nat} (h0 : digits n = s) (hl : s.length ≤ 10) : numberOf s 10 = some n := by
  subst h0
  exact Go.Digits.number_digits n 10 hl
/-- What number answers. -/
def numV (s : List UInt8) : Value := .tuple #[.int .i64 ((((numberOf s 10).getD 0 : Nat)) : Int), .bool (numberOf s 10).isSome]

set_option maxHeartbeats 1000000 in
set_option maxRecDepth 100000 in
theorem number_ok (s : ByteArray) (W : World) (a : Nat → Addr) (e : TypeId × Value) (hE : GtEnv a e W) (hs : s.size ≤ 1000000) :
    Calls Tryz.prog 45 #[.string s] W fun r w' => r = .returned (numV s.data.toList) ∧ Below W.heap.size W w' := by
  by_cases hlong : 10 < s.size
  · have h1 : (10 : Int) < s.size := by omega
    have hn : numV s.data.toList = .tuple #[.int .i64 0, .bool false] := by unfold numV; rw [numberOf_long (by rw [lenL]; omega)]; rfl
    rw [hn]
    clear hn hlong
    go_enter Tryz.func45, Tryz.ntmps45
    go_wp2_with fail
    go_ret2
    exact ⟨rfl, Below.refl _ _⟩
  · have h1 : (s.size : Int) ≤ 10 := by omega
    cases ha : Lib.atoi s.data.toList with
    | none =>
      have hn : numV s.data.toList = .tuple #[.int .i64 0, .bool false] := by unfold numV; rw [numberOf_none ha]; rfl
      rw [hn]
      have HA := hide (Tryz.strconv_Atoi_err_var s (by omega) ha e.1 e.2 W hE.syn)
      clear hn hlong ha hE
      go_enter Tryz.func45, Tryz.ntmps45
      go_wp2_with fail
      refine HA.out.mono ?_
      rintro r w1 ⟨N, rfl, _, _, hb⟩
      have HB := hide hb
      clear hb HA
      go_wp2_with fail
      go_ret2
      exact ⟨rfl, HB.out⟩
    | some n =>
      have HA := hide (Tryz.strconv_Atoi s n (by omega) ha W)
      by_cases h0 : n < 0
      · have hn : numV s.data.toList = .tuple #[.int .i64 0, .bool false] := by unfold numV; rw [numberOf_neg ha h0]; rfl
        rw [hn]
        clear hn hlong ha hE
        go_enter Tryz.func45, Tryz.ntmps45
        go_wp2_with fail
        refine HA.out.mono ?_
        rintro r w1 ⟨rfl, t, rfl⟩
        have HB := hide (Lib.bytesWorld_below W 5 t)
        clear HA
        go_wp2_with fail
        go_ret2
        exact ⟨rfl, HB.out⟩
      · have h0' : 0 ≤ n := by omega
        have hbd := Lib.atoi_bound ha (by rw [lenL]; omega)
        have HB := hide (fun t => Lib.bytesWorld_below W 5 t)
        have HI := hide (fun t => itoa_ok n (Lib.bytesWorld W 5 t) h0' (by omega) ((hE.below (HB.out t)).tab))
        by_cases hsame : digits n.toNat = s.data.toList
        · have hn : numV s.data.toList = .tuple #[.int .i64 n, .bool true] := by
            unfold numV
            rw [numberOf_same hsame (by rw [lenL]; omega)]
            simp only [Option.getD_some, Option.isSome_some]
            rw [show ((n.toNat : Nat) : Int) = n by omega]
          have he : str (digits n.toNat) = s := by rw [hsame]; rfl
          rw [he] at HI
          rw [hn]
          clear hn hlong ha hE hsame he hbd h0
          go_enter Tryz.func45, Tryz.ntmps45
          go_wp2_with fail
          refine HA.out.mono ?_
          rintro r w1 ⟨rfl, t, rfl⟩
          have HI2 := hide (HI.out t)
          have HB2 := hide (HB.out t)
          clear HA HI HB
          go_wp2_with fail
          refine HI2.out.mono ?_
          rintro r w2 ⟨rfl, hb2⟩
          have HB3 := hide (bthen HB2.out hb2)
          clear hb2 HB2 HI2
          go_wp2_with fail
          go_ret2
          exact ⟨rfl, HB3.out⟩
        · have hn : numV s.data.toList = .tuple #[.int .i64 0, .bool false] := by unfold numV; rw [numberOf_other ha hsame]; rfl
          have he2 : ((str (digits n.toNat)).toList == s.toList) = false := by
            rw [beq_eq_false_iff_ne]
            intro e'
            exact hsame (by rw [← bytes_ext e', strL])
          rw [hn]
          generalize str (digits n.toNat) = S at *
          clear hn hlong ha hE hsame hbd h0
          go_enter Tryz.func45, Tryz.ntmps45
          go_wp2_with fail
          refine HA.out.mono ?_
          rintro r w1 ⟨rfl, t, rfl⟩
          have HI2 := hide (HI.out t)
          have HB2 := hide (HB.out t)
          clear HA HI HB
          go_wp2_with fail
          refine HI2.out.mono ?_
          rintro r w2 ⟨rfl, hb2⟩
          have HB3 := hide (bthen HB2.out hb2)
          clear hb2 HB2 HI2
          go_wp2_with fail
          go_ret2
          exact ⟨rfl, HB3.out⟩

/-- A text, cut at its first blank. -/
def cutV (s : List UInt8) : Value := match brk 32 s with
  | some p => .tuple #[.string (str p.1), .string (str p.2), .bool true]
  | none => .tuple #[.string (str s), .string ⟨#[]⟩, .bool false]

set_option maxHeartbeats 1000000 in
set_option maxRecDepth 100000 in
theorem cutIn_ok (s : ByteArray) (W : World) (hs : s.size ≤ 1000000) : Calls Tryz.prog 61 #[.string s, .string ⟨#[32]⟩] W fun r w' => r = .returned (cutV s.data.toList) ∧ Below W.heap.size W w' := by
  have HI := hide (fun W' => Tryz.stringslite_Index_one s 32 W')
  have hs' : (s.size : Int) ≤ 1000000 := by omega
  cases hb : brk 32 s.data.toList with
  | none =>
    have hv : cutV s.data.toList = .tuple #[.string s, .string ⟨#[]⟩, .bool false] := by unfold cutV; rw [hb]; rfl
    rw [(brk_none hb).2] at HI
    rw [hv]
    clear hv hb
    go_enter Tryz.func61, Tryz.ntmps61
    go_wp2_with fail
    refine (HI.out _).mono ?_
    rintro r w1 ⟨rfl, rfl⟩
    go_wp2_with fail
    go_ret3
    exact ⟨rfl, Below.refl _ _⟩
  | some p =>
    obtain ⟨x, y⟩ := p
    obtain ⟨h1, _, h3⟩ := brk_some hb
    have hv : cutV s.data.toList = .tuple #[.string (str x), .string (str y), .bool true] := by unfold cutV; rw [hb]
    rw [h3] at HI
    rw [hv]
    have hx : s.extract 0 x.length = str x := by
      refine ext_of_list ?_
      rw [extractL, strL, h1]
      simp
    have hy : s.extract (x.length + 1) s.size = str y := by
      refine ext_of_list ?_
      rw [extractL, strL, ← lenL s, h1]
      simp only [List.length_append, List.length_cons]
      rw [List.drop_append, List.drop_of_length_le (by omega), List.nil_append, show x.length + 1 - x.length = 1 by omega, List.drop_succ_cons, List.drop_zero, List.take_of_length_le (by omega)]
    have hl : x.length + 1 ≤ s.size := by rw [← lenL s, h1]; simp
    generalize x.length = k at *
    have hl' : (k : Int) + 1 ≤ s.size := by omega
    have hl2 : (k : Int) ≤ s.size := by omega
    have hk0 : (0 : Int) ≤ k := by omega
    have hk1 : (0 : Int) ≤ (k : Int) + 1 := by omega
    have hw : IntKind.i64.wrap ((k : Int) + 1) = (k : Int) + 1 := iwrap_id _ (by omega) (by omega)
    have hneg : ((k : Int) < 0) = False := by simp
    clear hv hb h1 h3 hs
    go_enter Tryz.func61, Tryz.ntmps61
    go_wp2_with fail
    refine (HI.out _).mono ?_
    rintro r w1 ⟨rfl, rfl⟩
    go_wp2_with fail
    go_quiet (fail)
    go_wp2_with fail
    go_ret3
    exact ⟨rfl, below_drewN (Below.refl _ _) _⟩

set_option maxHeartbeats 1000000 in
set_option maxRecDepth 100000 in
theorem cutS_ok (s : ByteArray) (W : World) (hs : s.size ≤ 1000000) : Calls Tryz.prog 44 #[.string s, .string ⟨#[32]⟩] W fun r w' => ∃ x y b, Hid (cutV s.data.toList = .tuple #[x, y, b]) ∧ r = .returned (.tuple #[x, y, b]) ∧ Below W.heap.size W w' := by
  have HC := hide (cutIn_ok s W hs)
  obtain ⟨x, y, b, hx⟩ : ∃ x y b, cutV s.data.toList = .tuple #[x, y, b] := by
    unfold cutV
    split <;> exact ⟨_, _, _, rfl⟩
  have HX := hide hx
  rw [hx] at HC
  clear hx hs
  go_enter Tryz.func44, Tryz.ntmps44
  go_wp2_with fail
  refine HC.out.mono ?_
  rintro r w1 ⟨rfl, hb⟩
  have HB := hide hb
  clear hb HC
  go_wp2_with fail
  go_ret3
  exact ⟨_, _, _, HX.out, rfl, HB.out⟩
end Go.Proofs.YtcmaclpliphfpaaGreatDoor
