/-
  Contract of package gate's readLine.
-/
import Derived.Test.YtogpjblikphpcaaGreatDoorGtRLine
namespace Go.Proofs.YtogpjblikphpcaaGreatDoor
open Go.RowKit
open Go.Gate
open Go.Digits (digits numberOf)
open Go.Files (isNm lt lt_of lt_asymm lt_irrefl)

/-- A line's token and digits. -/
def tokD (x : List UInt8) : ByteArray × ByteArray := match brk 32 x with
  | some p => (str p.1, str p.2)
  | none => (str x, ⟨#[]⟩)
theorem cutV_tokD (x : List UInt8) : cutV x = .tuple #[.string (tokD x).1, .string (tokD x).2, .bool (brk 32 x).isSome] := by
  unfold cutV tokD
  cases brk 32 x <;> rfl
theorem lineN_none {ab : ByteArray} {x : List UInt8} (h : numberOf (tokD x).2.data.toList 10 = none) : lineN ab x = (1, ⟨#[]⟩, 0) := by
  unfold tokD at h
  unfold lineN
  cases hb : brk 32 x with
  | none => rfl
  | some p =>
    rw [hb] at h
    simp only [strL] at h
    simp only [h]
theorem lineN_some {ab : ByteArray} {x : List UInt8} {n : Nat} (h : numberOf (tokD x).2.data.toList 10 = some n) : lineN ab x = if isNm (tokD x).1 = false then (5, ⟨#[]⟩, 0) else if isEp n = false then (2, ⟨#[]⟩, 0) else if lt ab (tokD x).1 then (0, (tokD x).1, (n : Int)) else (9, ⟨#[]⟩, 0) := by
  unfold tokD at *
  unfold lineN
  cases hb : brk 32 x with
  | none => rw [hb] at h; cases h
  | some p =>
    rw [hb] at h
    simp only [strL] at h
    simp only [h]
theorem tokD_size (x : List UInt8) : (tokD x).1.size ≤ x.length ∧ (tokD x).2.size ≤ x.length := by
  unfold tokD
  cases hb : brk 32 x with
  | none => exact ⟨by simp [str_len], Nat.zero_le _⟩
  | some p =>
    obtain ⟨a, b⟩ := p
    have := (brk_some hb).1
    simp only [str_len, this, List.length_append, List.length_cons]
    omega
theorem leq_lt2 (a b : ByteArray) : (Op.bytesLess a.toList b.toList || a.toList == b.toList) = !(lt b a) := by
  cases h : lt b a with
  | true =>
    have h1 : lt a b = false := lt_asymm h
    unfold lt at h1
    rw [h1]
    have h2 : a.toList ≠ b.toList := fun e => by rw [bytes_ext e, lt_irrefl] at h; cases h
    simp [h2]
  | false =>
    by_cases e : b = a
    · subst e; simp
    · have := lt_of h e
      unfold lt at this
      rw [this]; rfl
theorem suffix_end (x : List UInt8) : Lib.hasSuffix (x ++ [10]) [10] = true ∧ Lib.trimSuffix (x ++ [10]) [10] = x := by
  have h : Lib.hasSuffix (x ++ [10]) [10] = true := by
    unfold Lib.hasSuffix
    rw [List.isSuffixOf_iff_suffix]
    exact List.suffix_append _ _
  refine ⟨h, ?_⟩
  unfold Lib.trimSuffix
  rw [if_pos h]
  simp
theorem suffix_none {x : List UInt8} (h : (10 : UInt8) ∉ x) : Lib.hasSuffix x [10] = false ∧ Lib.trimSuffix x [10] = x := by
  have h1 : Lib.hasSuffix x [10] = false := by
    unfold Lib.hasSuffix
    cases e : List.isSuffixOf [10] x with
    | false => rfl
    | true =>
      rw [List.isSuffixOf_iff_suffix] at e
      obtain ⟨y, rfl⟩ := e
      simp at h
  refine ⟨h1, ?_⟩
  unfold Lib.trimSuffix
  rw [h1]
  rfl

/-- What readLine answers: an error's number, a token, an epoch. -/
def rlV (a : Nat → Addr) (r : Nat × ByteArray × Int) : Value := .tuple #[.string r.2.1, .int .i64 r.2.2, errA a r.1]

set_option maxHeartbeats 2000000 in
set_option maxRecDepth 100000 in
theorem readLine_ok (x : List UInt8) (end_ : Bool) (hx : end_ = false → (10 : UInt8) ∉ x) (above : ByteArray) (W : World) (a : Nat → Addr) (e : TypeId × Value) (hE : GtEnv a e W) (hs : x.length ≤ 100000) :
    Calls Tryz.prog 35 #[.string (str (if end_ then x ++ [10] else x)), .string above] W fun r w' => r = .returned (rlV a (if end_ then lineN above x else (1, ⟨#[]⟩, 0))) ∧ Below W.heap.size W w' := by
  have HC := hide (fun W' => Tryz.strings_CutSuffix (str (if end_ then x ++ [10] else x)) ⟨#[10]⟩ W' (by rw [str_len]; cases end_ <;> simp <;> omega))
  have hcs : Lib.hasSuffix (str (if end_ then x ++ [10] else x)).data.toList [10] = end_ ∧ Lib.trimSuffix (str (if end_ then x ++ [10] else x)).data.toList [10] = x := by
    rw [strL]
    cases end_ with
    | true => exact suffix_end x
    | false => exact suffix_none (hx rfl)
  rw [show (ByteArray.mk #[10]).data.toList = [10] from rfl, hcs.1, hcs.2, show (⟨x.toArray⟩ : ByteArray) = str x from rfl] at HC
  have HX := hide (fun W' => cutS_ok (str x) W' (by rw [str_len]; omega))
  rw [strL, cutV_tokD] at HX
  obtain ⟨ht1, ht2⟩ := tokD_size x
  have HE := hide (fun W' (hb : Below W.heap.size W W') => hE.below hb)
  have HN := hide (fun W' (hb : Below W.heap.size W W') => decRd_ok (tokD x).2 W' e ⟨(hE.below hb).tab, (hE.below hb).syn⟩ (by omega))
  generalize str (if end_ then x ++ [10] else x) = LN at *
  have HI := hide (fun W' => name_ok (tokD x).1 W' (by omega))
  have hnv : numV (tokD x).2.data.toList = .tuple #[.int .i64 ((((numberOf (tokD x).2.data.toList 10).getD 0 : Nat)) : Int), .bool (numberOf (tokD x).2.data.toList 10).isSome] := rfl
  rw [hnv] at HN
  clear hnv hcs hx hE ht1 ht2 hs
  cases end_ with
  | false =>
    simp only [Bool.false_eq_true, if_false, rlV, errA]
    generalize (numberOf (tokD x).2.data.toList 10).isSome = isn at *
    generalize (numberOf (tokD x).2.data.toList 10).getD 0 = nn at *
    generalize (tokD x).1 = T at *
    generalize (tokD x).2 = D at *
    generalize (brk 32 x).isSome = bb at *
    clear HI
    go_enter Tryz.func35, Tryz.ntmps35
    go_wp2_with fail
    refine (HC.out _).mono ?_
    rintro r w1 ⟨rfl, rfl⟩
    go_wp2_with fail
    refine (HX.out _).mono ?_
    rintro r w2 ⟨_, _, _, hx, rfl, hb2⟩
    cases hx.out
    have HN2 := hide (HN.out _ hb2)
    have Hb2 := hide hb2
    clear hb2 hx HN HC HX
    go_wp2_with fail
    refine HN2.out.mono ?_
    rintro r w3 ⟨rfl, hb3⟩
    have hb := bthen Hb2.out hb3
    have HB := hide hb
    have hE3 := (HE.out _ hb).sents
    have g0 := hE3.c0
    have g4 := hE3.c4
    have g1 := hE3.c1
    have g8 := hE3.c8
    clear hE3 hb3 hb HE Hb2 HN2
    go_wp2_with fail
    go_quiet (fail)
    go_wp2_with fail
    go_ret3
    exact ⟨rfl, below_drewN HB.out _⟩
  | true =>
    simp only [if_true]
    cases hnum : numberOf (tokD x).2.data.toList 10 with
    | none =>
      rw [lineN_none hnum]
      rw [hnum] at HN
      simp only [Option.getD_none, Option.isSome_none] at HN
      simp only [rlV, errA]
      clear hnum HI
      generalize (tokD x).1 = T at *
      generalize (tokD x).2 = D at *
      generalize (brk 32 x).isSome = bb at *
      go_enter Tryz.func35, Tryz.ntmps35
      go_wp2_with fail
      refine (HC.out _).mono ?_
      rintro r w1 ⟨rfl, rfl⟩
      go_wp2_with fail
      refine (HX.out _).mono ?_
      rintro r w2 ⟨_, _, _, hx, rfl, hb2⟩
      cases hx.out
      have HN2 := hide (HN.out _ hb2)
      have Hb2 := hide hb2
      clear hb2 hx HN HC HX
      go_wp2_with fail
      refine HN2.out.mono ?_
      rintro r w3 ⟨rfl, hb3⟩
      have hb := bthen Hb2.out hb3
      have HB := hide hb
      have hE3 := (HE.out _ hb).sents
      have g0 := hE3.c0
      have g4 := hE3.c4
      have g1 := hE3.c1
      have g8 := hE3.c8
      clear hE3 hb3 hb HE Hb2 HN2
      go_wp2_with fail
      go_quiet (fail)
      go_wp2_with fail
      go_ret3
      exact ⟨rfl, below_drewN HB.out _⟩
    | some n =>
      rw [lineN_some hnum]
      rw [hnum] at HN
      simp only [Option.getD_some, Option.isSome_some] at HN
      have HP := hide (fun W' => isEpoch_ok (n : Int) W')
      have hle := leq_lt2 (tokD x).1 above
      clear hnum
      generalize (tokD x).1 = T at *
      generalize (tokD x).2 = D at *
      generalize (brk 32 x).isSome = bb at *
      cases hn : isNm T with
      | false =>
        rw [hn] at HI
        simp only [if_true, rlV, errA]
        clear hn HP hle
        go_enter Tryz.func35, Tryz.ntmps35
        go_wp2_with fail
        refine (HC.out _).mono ?_
        rintro r w1 ⟨rfl, rfl⟩
        go_wp2_with fail
        refine (HX.out _).mono ?_
        rintro r w2 ⟨_, _, _, hx, rfl, hb2⟩
        cases hx.out
        have HN2 := hide (HN.out _ hb2)
        have Hb2 := hide hb2
        clear hb2 hx HN HC HX
        go_wp2_with fail
        refine HN2.out.mono ?_
        rintro r w3 ⟨rfl, hb3⟩
        have hb := bthen Hb2.out hb3
        have HB := hide hb
        have hE3 := (HE.out _ hb).sents
        have g0 := hE3.c0
        have g4 := hE3.c4
        have g1 := hE3.c1
        have g8 := hE3.c8
        clear hE3 hb3 hb HE Hb2 HN2
        go_wp2_with fail
        refine (HI.out _).mono ?_
        rintro r w4 ⟨rfl, rfl⟩
        go_wp2_with fail
        go_quiet (fail)
        go_wp2_with fail
        go_ret3
        exact ⟨rfl, below_drewN HB.out _⟩
      | true =>
        rw [hn] at HI
        cases hp : isEp (n : Int) with
        | false =>
          rw [hp] at HP
          simp only [Bool.true_eq_false, if_false, if_true, rlV, errA]
          clear hn hle hp
          go_enter Tryz.func35, Tryz.ntmps35
          go_wp2_with fail
          refine (HC.out _).mono ?_
          rintro r w1 ⟨rfl, rfl⟩
          go_wp2_with fail
          refine (HX.out _).mono ?_
          rintro r w2 ⟨_, _, _, hx, rfl, hb2⟩
          cases hx.out
          have HN2 := hide (HN.out _ hb2)
          have Hb2 := hide hb2
          clear hb2 hx HN HC HX
          go_wp2_with fail
          refine HN2.out.mono ?_
          rintro r w3 ⟨rfl, hb3⟩
          have hb := bthen Hb2.out hb3
          have HB := hide hb
          have hE3 := (HE.out _ hb).sents
          have g0 := hE3.c0
          have g4 := hE3.c4
          have g1 := hE3.c1
          have g8 := hE3.c8
          clear hE3 hb3 hb HE Hb2 HN2
          go_wp2_with fail
          refine (HI.out _).mono ?_
          rintro r w4 ⟨rfl, rfl⟩
          go_wp2_with fail
          refine (HP.out _).mono ?_
          rintro r w4 ⟨rfl, rfl⟩
          go_wp2_with fail
          go_quiet (fail)
          go_wp2_with fail
          go_ret3
          exact ⟨rfl, below_drewN HB.out _⟩
        | true =>
          rw [hp] at HP
          cases hlt : lt above T with
          | false =>
            rw [hlt] at hle
            simp only [Bool.true_eq_false, Bool.false_eq_true, if_false, rlV, errA]
            clear hn hlt hp
            go_enter Tryz.func35, Tryz.ntmps35
            go_wp2_with fail
            refine (HC.out _).mono ?_
            rintro r w1 ⟨rfl, rfl⟩
            go_wp2_with fail
            refine (HX.out _).mono ?_
            rintro r w2 ⟨_, _, _, hx, rfl, hb2⟩
            cases hx.out
            have HN2 := hide (HN.out _ hb2)
            have Hb2 := hide hb2
            clear hb2 hx HN HC HX
            go_wp2_with fail
            refine HN2.out.mono ?_
            rintro r w3 ⟨rfl, hb3⟩
            have hb := bthen Hb2.out hb3
            have HB := hide hb
            have hE3 := (HE.out _ hb).sents
            have g0 := hE3.c0
            have g4 := hE3.c4
            have g1 := hE3.c1
            have g8 := hE3.c8
            clear hE3 hb3 hb HE Hb2 HN2
            go_wp2_with fail
            refine (HI.out _).mono ?_
            rintro r w4 ⟨rfl, rfl⟩
            go_wp2_with fail
            refine (HP.out _).mono ?_
            rintro r w4 ⟨rfl, rfl⟩
            go_wp2_with fail
            go_quiet (fail)
            go_wp2_with fail
            go_ret3
            exact ⟨rfl, below_drewN HB.out _⟩
          | true =>
            rw [hlt] at hle
            simp only [Bool.true_eq_false, if_false, if_true, rlV, errA]
            clear hn hlt hp
            go_enter Tryz.func35, Tryz.ntmps35
            go_wp2_with fail
            refine (HC.out _).mono ?_
            rintro r w1 ⟨rfl, rfl⟩
            go_wp2_with fail
            refine (HX.out _).mono ?_
            rintro r w2 ⟨_, _, _, hx, rfl, hb2⟩
            cases hx.out
            have HN2 := hide (HN.out _ hb2)
            have Hb2 := hide hb2
            clear hb2 hx HN HC HX
            go_wp2_with fail
            refine HN2.out.mono ?_
            rintro r w3 ⟨rfl, hb3⟩
            have hb := bthen Hb2.out hb3
            have HB := hide hb
            have hE3 := (HE.out _ hb).sents
            have g0 := hE3.c0
            have g4 := hE3.c4
            have g1 := hE3.c1
            have g8 := hE3.c8
            clear hE3 hb3 hb HE Hb2 HN2
            go_wp2_with fail
            refine (HI.out _).mono ?_
            rintro r w4 ⟨rfl, rfl⟩
            go_wp2_with fail
            refine (HP.out _).mono ?_
            rintro r w4 ⟨rfl, rfl⟩
            go_wp2_with fail
            go_ret3
            exact ⟨rfl, HB.out⟩
end Go.Proofs.YtogpjblikphpcaaGreatDoor
