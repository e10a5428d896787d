/-
  Contract of package decimal's Read, at most ten digits.
-/
import Derived.Test.YtogpjblikphpcaaGreatDoorLibNum
import Derived.Laws.Cover1
import Derived.Lib.AtoiBound
import Derived.Lib.AtoiErrMem
import Derived.BigQuiet
namespace Go.Proofs.YtogpjblikphpcaaGreatDoor
open Go.RowKit
open Go.Digits (digits numberOf)

theorem numberOf_long {s : List UInt8} (h : 10 < s.length) : numberOf s 10 = none := by
  unfold numberOf
  rw [if_pos (.inr (.inl h))]
theorem numberOf_none {s : List UInt8} (h : Lib.atoi s = none) : numberOf s 10 = none := by
  cases hn : numberOf s 10 with
  | none => rfl
  | some n =>
    obtain ⟨e, _⟩ := Go.Digits.number_canon hn
    rw [e, Go.Digits.atoi_digits] at h
    cases h
theorem numberOf_neg {s : List UInt8} {n : Int} (h : Lib.atoi s = some n) (h0 : n < 0) : numberOf s 10 = none := by
  cases hn : numberOf s 10 with
  | none => rfl
  | some m =>
    obtain ⟨e, _⟩ := Go.Digits.number_canon hn
    rw [e, Go.Digits.atoi_digits] at h
    cases h
    omega
theorem numberOf_other {s : List UInt8} {n : Int} (h : Lib.atoi s = some n) (h0 : digits n.toNat ≠ s) : numberOf s 10 = none := by
  cases hn : numberOf s 10 with
  | none => rfl
  | some m =>
    obtain ⟨e, _⟩ := Go.Digits.number_canon hn
    rw [e, Go.Digits.atoi_digits] at h
    cases h
    exact absurd e.symm (by simpa using h0)
theorem numberOf_same {s : List UInt8} {n : Nat} (h0 : digits n = s) (hl : s.length ≤ 10) : numberOf s 10 = some n := by
  subst h0
  exact Go.Digits.number_digits n 10 hl
/-- What it answers. -/
def numV (s : List UInt8) : Value := .tuple #[.int .i64 ((((numberOf s 10).getD 0 : Nat)) : Int), .bool (numberOf s 10).isSome]
/-- What it reads of the library's variables. -/
structure NumEnv (e : TypeId × Value) (w : World) : Prop where
  tab : Lib.TabIs Tryz.prog w "internal/strconv.uint64pow10" .u64 Lib.pow10Tab
  syn : w.var? Tryz.prog "strconv.ErrSyntax" = some #[.iface e.1 e.2]
theorem NumEnv.below {e : TypeId × Value} {w w' : World} (h : NumEnv e w) (hb : Below w.heap.size w w') : NumEnv e w' := ⟨var_below h.tab hb, var_below h.syn hb⟩

set_option maxHeartbeats 1000000 in
set_option maxRecDepth 100000 in
theorem decRd_ok (s : ByteArray) (W : World) (e : TypeId × Value) (hE : NumEnv e W) (hs : s.size ≤ 1000000) :
    Calls Tryz.prog 64 #[.string s, .int .i64 10] W fun r w' => r = .returned (numV s.data.toList) ∧ Below W.heap.size W w' := by
  by_cases hlong : 10 < s.size
  · have h1 : (10 : Int) < s.size := by omega
    have hn : numV s.data.toList = .tuple #[.int .i64 0, .bool false] := by unfold numV; rw [numberOf_long (by rw [lenL]; omega)]; rfl
    rw [hn]
    clear hn hlong
    go_enter Tryz.func64, Tryz.ntmps64
    go_wp2_with fail
    go_ret2
    exact ⟨rfl, Below.refl _ _⟩
  · have h1 : (s.size : Int) ≤ 10 := by omega
    cases ha : Lib.atoi s.data.toList with
    | none =>
      have hn : numV s.data.toList = .tuple #[.int .i64 0, .bool false] := by unfold numV; rw [numberOf_none ha]; rfl
      rw [hn]
      have HA := hide (Tryz.strconv_Atoi_err_var s (by omega) ha e.1 e.2 W hE.syn)
      clear hn hlong ha hE
      go_enter Tryz.func64, Tryz.ntmps64
      go_wp2_with fail
      refine HA.out.mono ?_
      rintro r w1 ⟨N, rfl, _, _, hb⟩
      have HB := hide hb
      clear hb HA
      go_wp2_with fail
      go_ret2
      exact ⟨rfl, HB.out⟩
    | some n =>
      have HA := hide (Tryz.strconv_Atoi s n (by omega) ha W)
      by_cases h0 : n < 0
      · have hn : numV s.data.toList = .tuple #[.int .i64 0, .bool false] := by unfold numV; rw [numberOf_neg ha h0]; rfl
        rw [hn]
        clear hn hlong ha hE
        go_enter Tryz.func64, Tryz.ntmps64
        go_wp2_with fail
        refine HA.out.mono ?_
        rintro r w1 ⟨rfl, t, rfl⟩
        have HB := hide (Lib.bytesWorld_below W 5 t)
        clear HA
        go_wp2_with fail
        go_ret2
        exact ⟨rfl, HB.out⟩
      · have h0' : 0 ≤ n := by omega
        have hbd := Lib.atoi_bound ha (by rw [lenL]; omega)
        have HB := hide (fun t => Lib.bytesWorld_below W 5 t)
        have HI := hide (fun t => itoa_ok n (Lib.bytesWorld W 5 t) h0' (by omega) ((hE.below (HB.out t)).tab))
        by_cases hsame : digits n.toNat = s.data.toList
        · have hn : numV s.data.toList = .tuple #[.int .i64 n, .bool true] := by
            unfold numV
            rw [numberOf_same hsame (by rw [lenL]; omega)]
            simp only [Option.getD_some, Option.isSome_some]
            rw [show ((n.toNat : Nat) : Int) = n by omega]
          have he : str (digits n.toNat) = s := by rw [hsame]; rfl
          rw [he] at HI
          rw [hn]
          clear hn hlong ha hE hsame he hbd h0
          go_enter Tryz.func64, Tryz.ntmps64
          go_wp2_with fail
          refine HA.out.mono ?_
          rintro r w1 ⟨rfl, t, rfl⟩
          have HI2 := hide (HI.out t)
          have HB2 := hide (HB.out t)
          clear HA HI HB
          go_wp2_with fail
          refine HI2.out.mono ?_
          rintro r w2 ⟨rfl, hb2⟩
          have HB3 := hide (bthen HB2.out hb2)
          clear hb2 HB2 HI2
          go_wp2_with fail
          go_ret2
          exact ⟨rfl, HB3.out⟩
        · have hn : numV s.data.toList = .tuple #[.int .i64 0, .bool false] := by unfold numV; rw [numberOf_other ha hsame]; rfl
          have he2 : ((str (digits n.toNat)).toList == s.toList) = false := by
            rw [beq_eq_false_iff_ne]
            intro e'
            exact hsame (by rw [← bytes_ext e', strL])
          rw [hn]
          generalize str (digits n.toNat) = S at *
          clear hn hlong ha hE hsame hbd h0
          go_enter Tryz.func64, Tryz.ntmps64
          go_wp2_with fail
          refine HA.out.mono ?_
          rintro r w1 ⟨rfl, t, rfl⟩
          have HI2 := hide (HI.out t)
          have HB2 := hide (HB.out t)
          clear HA HI HB
          go_wp2_with fail
          refine HI2.out.mono ?_
          rintro r w2 ⟨rfl, hb2⟩
          have HB3 := hide (bthen HB2.out hb2)
          clear hb2 HB2 HI2
          go_wp2_with fail
          go_ret2
          exact ⟨rfl, HB3.out⟩
end Go.Proofs.YtogpjblikphpcaaGreatDoor
