/-
  What package tape reads of the library's variables; contracts of its record, first.
-/
import Derived.Test.YtledipmimfphdaaDoorTapeOne
import Derived.Test.YtledipmimfphdaaDoorCutB
import Derived.Test.YtledipmimfphdaaDoorTkErr
import Derived.Lib.AtoiErrMem
namespace Go.Proofs.YtledipmimfphdaaDoor
open Go.RowKit
open Go.Tape
open Go.Digits (digits)
open Go.Gate (brk)

/-- What package tape reads: three errors; the library's table of powers; its errors of numbers. -/
structure TkEnv (a : Nat → Addr) (e f : TypeId × Value) (w : World) : Prop where
  err : TkErrs w a
  tab : Lib.TabIs Tryd.prog w "internal/strconv.uint64pow10" .u64 Lib.pow10Tab
  syn : w.var? Tryd.prog "strconv.ErrSyntax" = some #[.iface e.1 e.2]
  rng : w.var? Tryd.prog "strconv.ErrRange" = some #[.iface f.1 f.2]
theorem TkEnv.below {a : Nat → Addr} {e f : TypeId × Value} {w w' : World} (h : TkEnv a e f w) (hb : Below w.heap.size w w') : TkEnv a e f w' := ⟨h.err.below hb, var_below h.tab hb, var_below h.syn hb, var_below h.rng hb⟩
theorem rec1_le {s : ByteArray} (hs : s.size ≤ 1000000) : (rec1 s).size ≤ s.size + 14 := by
  rw [rec1_len, recB_length, lenL]
  have := Go.Digits.digits_length s.size 10 (by omega)
  omega

set_option maxHeartbeats 1000000 in
set_option maxRecDepth 100000 in
theorem tkRec_ok {a : Nat → Addr} {e f : TypeId × Value} (s : ByteArray) (W : World) (hE : TkEnv a e f W) (hs : s.size ≤ 1000000) : Calls Tryd.prog 22 #[.string s] W fun r w' => r = .returned (.string (rec1 s)) ∧ Below W.heap.size W w' := by
  have HD := hide (itoa_ok s.size W (by omega) (by omega) hE.tab)
  rw [Int.toNat_natCast] at HD
  have hds : (str (digits s.size)).size ≤ 11 := by rw [str_len]; exact Go.Digits.digits_length _ 10 (by omega)
  have HR : Hid (str (digits s.size) ++ ⟨#[58]⟩ ++ s ++ ⟨#[10, 46]⟩ = rec1 s) := by
    refine ext_of_list ?_
    rw [appendL, appendL, appendL, rec1, strL, strL, recB, lenL]
    simp
  generalize rec1 s = R at *
  generalize str (digits s.size) = D at *
  have p1 := fun W => run_string_add_sum (P := Tryd.prog) W D ⟨#[58]⟩ (by rw [show (ByteArray.mk #[58]).size = 1 from rfl]; omega)
  have p2 := fun W => run_string_add_sum (P := Tryd.prog) W (D ++ ⟨#[58]⟩) s (by rw [ByteArray.size_append, show (ByteArray.mk #[58]).size = 1 from rfl]; omega)
  have p3 := fun W => run_string_add_sum (P := Tryd.prog) W (D ++ ⟨#[58]⟩ ++ s) ⟨#[10, 46]⟩ (by rw [ByteArray.size_append, ByteArray.size_append, show (ByteArray.mk #[58]).size = 1 from rfl, show (ByteArray.mk #[10, 46]).size = 2 from rfl]; omega)
  clear hds hE
  go_enter Tryd.func22, Tryd.ntmps22
  go_wp2_with fail
  refine HD.out.mono ?_
  rintro r w1 ⟨rfl, hb1⟩
  have HB := hide hb1
  clear hb1 HD
  go_wp2_with fail
  go_ret
  exact ⟨by rw [← HR.out]; rfl, HB.out⟩

/-- What first answers. -/
def firstV (b : List UInt8) : Value := match oneR b with
  | some p => .tuple #[.string (str p.1), .bool true]
  | none => .tuple #[.string ⟨#[]⟩, .bool false]
theorem firstV_none {b : List UInt8} (h : oneR b = none) : firstV b = .tuple #[.string ⟨#[]⟩, .bool false] := by unfold firstV; rw [h]
theorem firstV_some {b s r : List UInt8} (h : oneR b = some (s, r)) : firstV b = .tuple #[.string (str s), .bool true] := by unfold firstV; rw [h]
theorem cutW_parts (l : List UInt8) : cutW 58 l = .tuple #[.string (str (aheadC l)), .string (str (behindC l)), .bool (brk 58 l).isSome] := by
  unfold cutW aheadC behindC
  cases brk 58 l <;> rfl
/-- Atoi's three ends. -/
theorem atoi_ok {a : Nat → Addr} {e f : TypeId × Value} (s : ByteArray) (W : World) (hE : TkEnv a e f W) (hs : s.size ≤ 100000000) :
    Calls Tryd.prog 30 #[.string s] W fun r w' => ∃ n err, r = .returned (.tuple #[.int .i64 n, err]) ∧ (-9223372036854775808 ≤ n ∧ n ≤ 9223372036854775807) ∧
      ((Lib.atoiAll s.data.toList = .ok n ∧ err = .nilIface) ∨ ((∀ v, Lib.atoiAll s.data.toList ≠ .ok v) ∧ ∃ T p, err = .iface T (.pointer (some p)))) ∧ Below W.heap.size W w' := by
  cases h : Lib.atoiAll s.data.toList with
  | ok v =>
    refine (Tryd.strconv_Atoi_ok s (by omega) v h W).mono ?_
    rintro r w' ⟨rfl, hw⟩
    refine ⟨v, _, rfl, Lib.atoiAll_bounds h, .inl ⟨rfl, rfl⟩, ?_⟩
    rcases hw with rfl | ⟨t, rfl⟩
    · exact Below.refl _ _
    · exact Lib.bytesWorld_below W 5 t
  | «syntax» =>
    refine (Tryd.strconv_Atoi_syntax_var s (by omega) h e.1 e.2 W hE.syn).mono ?_
    rintro r w' ⟨N, rfl, _, _, hb⟩
    exact ⟨0, _, rfl, by omega, .inr ⟨fun v hv => (by cases hv), _, _, rfl⟩, hb⟩
  | range =>
    refine (Tryd.strconv_Atoi_range_var s (by omega) h f.1 f.2 W hE.rng).mono ?_
    rintro r w' ⟨N, rfl, _, _, hb⟩
    exact ⟨_, _, rfl, Lib.atoiSat_bounds _, .inr ⟨fun v hv => (by cases hv), _, _, rfl⟩, hb⟩

set_option maxHeartbeats 2000000 in
set_option maxRecDepth 100000 in
theorem tkFirst_ok {a : Nat → Addr} {e f : TypeId × Value} (b : ByteArray) (W : World) (hE : TkEnv a e f W) (hb : b.size ≤ 2000000) : Calls Tryd.prog 23 #[.string b] W fun r w' => r = .returned (firstV b.data.toList) ∧ Below W.heap.size W w' := by
  have HX := hide (fun W' => cutB_ok 58 b W' (by omega))
  rw [cutW_parts] at HX
  have ha := ahead_le b.data.toList
  have hbh := behind_le b.data.toList
  rw [lenL] at ha hbh
  have HA := hide (fun W' (hk : Below W.heap.size W W') => atoi_ok (str (aheadC b.data.toList)) W' (hE.below hk) (by rw [str_len]; omega))
  rw [strL] at HA
  have HRc := hide (fun s W' (hk : Below W.heap.size W W') (hs : s.size ≤ 1000000) => tkRec_ok s W' (hE.below hk) hs)
  have HP := hide (fun s W' => Tryd.strings_HasPrefix b (rec1 s) W')
  have hbl : (str (behindC b.data.toList)).size ≤ 2000000 := by rw [str_len]; omega
  clear ha hbh
  cases ho : oneR b.data.toList with
  | some p =>
    obtain ⟨s, r0⟩ := p
    obtain ⟨h1, h2, h3, h4⟩ := one_some ho
    rw [firstV_some ho]
    rw [h1, atoi_len h4] at HA
    have HP2 : Hid (∀ W', Calls Tryd.prog 31 #[.string b, .string (rec1 (str s))] W' fun e w' => e = .returned (.bool true) ∧ w' = W') := fun W' => by
      have := HP.out (str s) W'
      rw [rec1, strL, strL, h3] at this
      exact this
    have hsl : s.length ≤ (str (behindC b.data.toList)).size := by rw [str_len, h2, List.length_append]; omega
    have hx : (str (behindC b.data.toList)).extract 0 s.length = str s := by
      refine ext_of_list ?_
      rw [extractL, strL, strL, h2]
      simp
    have hss : (str s).size ≤ 1000000 := by rw [str_len]; omega
    rw [h1] at HX
    clear h1 h2 h3 ho HP hb hE
    generalize str (behindC b.data.toList) = B at *
    generalize str (digits s.length) = A at *
    generalize (brk 58 b.data.toList).isSome = fd at *
    generalize str s = S at *
    generalize s.length = n at *
    have n0 : (0 : Int) ≤ n := by omega
    have n1 : (n : Int) ≤ B.size := by omega
    have n2 : (n : Int) ≤ 20000 := by omega
    go_enter Tryd.func23, Tryd.ntmps23
    go_wp2_with fail
    refine (HX.out _).mono ?_
    rintro r w1 ⟨_, _, _, hx1, rfl, hb1⟩
    cases hx1.out
    have HA2 := hide (HA.out _ hb1)
    have HB1 := hide hb1
    clear hx1 hb1 HX HA
    go_wp2_with fail
    refine HA2.out.mono ?_
    rintro r w2 ⟨n', err, rfl, -, hcs, hb2⟩
    obtain ⟨he, rfl⟩ := hcs.resolve_right (fun h => h.1 _ rfl)
    obtain rfl : (n : Int) = n' := by injection he
    have hb3 := bthen HB1.out hb2
    have HRc2 := hide (HRc.out S _ hb3 hss)
    have HB2 := hide hb3
    clear hb2 hb3 HRc HA2 HB1
    have HP3 := hide (fun W' => HP2.out W')
    go_wp2_with fail
    refine HRc2.out.mono ?_
    rintro r w3 ⟨rfl, hb4⟩
    have HB3 := hide (bthen HB2.out hb4)
    clear hb4 HRc2 HB2 HP2
    go_wp2_with fail
    refine (HP3.out _).mono ?_
    rintro r w4 ⟨rfl, rfl⟩
    go_wp2_with fail
    go_ret2
    exact ⟨rfl, HB3.out⟩
  | none =>
    rw [firstV_none ho]
    have HNo : Hid (∀ s W', s.size ≤ 20000 → Calls Tryd.prog 31 #[.string b, .string (rec1 s)] W' fun e w' => e = .returned (.bool false) ∧ w' = W') := fun s W' hs => by
      have := HP.out s W'
      rw [rec1, strL, one_none ho (by rw [lenL]; exact hs)] at this
      exact this
    clear ho HP hb hE
    generalize str (behindC b.data.toList) = B at *
    generalize str (aheadC b.data.toList) = A at *
    generalize (brk 58 b.data.toList).isSome = fd at *
    go_enter Tryd.func23, Tryd.ntmps23
    go_wp2_with fail
    refine (HX.out _).mono ?_
    rintro r w1 ⟨_, _, _, hx1, rfl, hb1⟩
    cases hx1.out
    have HA2 := hide (HA.out _ hb1)
    have HB1 := hide hb1
    clear hx1 hb1 HX HA
    go_wp2_with fail
    refine HA2.out.mono ?_
    rintro r w2 ⟨n, err, rfl, ⟨hn1, hn2⟩, hcs, hb2⟩
    have hb3 := bthen HB1.out hb2
    have HB2 := hide hb3
    have HRc2 := hide (fun s hs => HRc.out s _ hb3 hs)
    clear hb2 hb3 HA2 HB1 HRc
    rcases hcs with ⟨_, rfl⟩ | ⟨_, T, q, rfl⟩
    · by_cases h0 : n < 0
      · clear HRc2 HNo
        go_wp2_with fail
        go_ret2
        exact ⟨rfl, HB2.out⟩
      · obtain ⟨k, rfl⟩ := Int.eq_ofNat_of_zero_le (show 0 ≤ n by omega)
        have h0' : (0 : Int) ≤ k := by omega
        by_cases h1 : (B.size : Int) < k
        · clear HRc2 HNo
          go_wp2_with fail
          go_ret2
          exact ⟨rfl, HB2.out⟩
        · have h1' : (k : Int) ≤ B.size := by omega
          by_cases h2 : (20000 : Int) < k
          · clear HRc2 HNo
            go_wp2_with fail
            go_ret2
            exact ⟨rfl, HB2.out⟩
          · have h2' : (k : Int) ≤ 20000 := by omega
            have hS : (B.extract 0 k).size ≤ 20000 := by
              rw [← lenL, extractL, List.length_take]
              omega
            have HNo2 := hide (fun W' => HNo.out (B.extract 0 k) W' hS)
            have HRc3 := hide (HRc2.out (B.extract 0 k) (by omega))
            clear HRc2 HNo hS
            go_wp2_with fail
            refine HRc3.out.mono ?_
            rintro r w3 ⟨rfl, hb4⟩
            have HB3 := hide (bthen HB2.out hb4)
            clear hb4 HRc3 HB2
            go_wp2_with fail
            refine (HNo2.out _).mono ?_
            rintro r w4 ⟨rfl, rfl⟩
            go_wp2_with fail
            go_ret2
            exact ⟨rfl, HB3.out⟩
    · clear HRc2 HNo
      go_wp2_with fail
      go_ret2
      exact ⟨rfl, HB2.out⟩
end Go.Proofs.YtledipmimfphdaaDoor
