/-
  Contract of the document's Cut at line ends over this dump.
-/
import Derived.Test.YtogpjblikphpcaaGreatDoorSep
import Derived.Test.YtogpjblikphpcaaGreatDoorGateRead
import Derived.Deep.AppendLies
import Derived.Deep.QuietTactic
import Derived.BigQuiet
import Derived.WalkSmall
namespace Go.Proofs.YtogpjblikphpcaaGreatDoor
open Go.RowKit
open Go.Gate

theorem Tryz.infoStr : (Tryz.prog.info? 9).map (fun i => (i.zero, i.size, i.bytes)) = some (some (.string ⟨#[]⟩), 1, 16) := by kernel_rfl
def partV (x : List UInt8) : Value := .string (str x)
theorem cut_step {S : List UInt8} {outs : List (List UInt8)} {f i : Nat} (hi : i < S.length) (hf : f ≤ i) (h10 : (10 : UInt8) ∉ (S.take i).drop f) (h : outs ++ cutL (S.drop f) = cutL S) (hb : S[i] = 10) :
    outs ++ [(S.take i).drop f] ++ cutL (S.drop (i + 1)) = cutL S := by
  have e : S.drop f = (S.take i).drop f ++ 10 :: S.drop (i + 1) := by
    have h1 : S = S.take i ++ S[i] :: S.drop (i + 1) := by rw [← List.drop_eq_getElem_cons hi, List.take_append_drop]
    conv => lhs; rw [h1]
    rw [List.drop_append, hb, List.length_take, Nat.min_eq_left (by omega), show f - i = 0 by omega, List.drop_zero]
  rw [← h, e, cutL_some (brk_of h10), List.append_assoc]
  rfl
theorem cut_grow {S : List UInt8} {f i : Nat} (hi : i < S.length) (hf : f ≤ i) (h10 : (10 : UInt8) ∉ (S.take i).drop f) (hb : S[i] ≠ 10) : (10 : UInt8) ∉ (S.take (i + 1)).drop f := by
  rw [List.take_succ_eq_append_getElem hi, List.drop_append, List.length_take, Nat.min_eq_left (by omega), show f - i = 0 by omega, List.drop_zero]
  simp only [List.mem_append, List.mem_singleton, not_or]
  exact ⟨h10, fun e => hb e.symm⟩
theorem brk_out {c : UInt8} : ∀ {l : List UInt8}, c ∉ l → brk c l = none
  | [], _ => rfl
  | b :: r, h => by
    simp only [List.mem_cons, not_or] at h
    rw [brk, if_neg (fun e => h.1 e.symm), brk_out h.2]
    rfl
theorem cut_end {S : List UInt8} {outs : List (List UInt8)} {f : Nat} (h10 : (10 : UInt8) ∉ (S.take S.length).drop f) (h : outs ++ cutL (S.drop f) = cutL S) : outs ++ [S.drop f] = cutL S := by
  rw [List.take_length] at h10
  rw [← h, cutL_none (brk_out h10)]
theorem cutL_len : ∀ s : List UInt8, (cutL s).length ≤ s.length + 1
  | [] => by simp [cutL]
  | b :: r => by
    have := cutL_len r
    rw [cutL]
    split
    · simp only [List.length_cons]; omega
    · split
      · rename_i x t e
        rw [e] at this
        simp only [List.length_cons] at this ⊢
        omega
      · simp

set_option maxHeartbeats 1000000 in
set_option maxRecDepth 100000 in
theorem rcut_ok {M0 : Foot} {w0 W : World} {L : List Fam} (h0 : Sep M0 w0 L W) (s : ByteArray) (hs : s.size ≤ 100000) :
    Calls Tryz.prog 47 #[.string s, .int .u8 10] W fun r w' => ∃ v, r = .returned v ∧ Sep M0 w0 (OwnF 9 1 v (cutL s.data.toList).length ((cutL s.data.toList).map partV) :: L) w' := by
  obtain ⟨i0, hi, hz0, hz1, hz2⟩ := info_parts Tryz.infoStr
  have H0 : Hid (Sep M0 w0 (OwnF 9 1 (.slice none 0 0) ([] : List (List UInt8)).length ((([] : List (List UInt8))).map partV) :: L) W) := h0.nil 9 1
  have hs' : (s.size : Int) ≤ 100000 := by omega
  have HE := hide (fun outs f => cut_end (S := s.data.toList) (outs := outs) (f := f))
  have HG := hide (fun outs f i => cut_step (S := s.data.toList) (outs := outs) (f := f) (i := i))
  have HB := hide (fun f i => cut_grow (S := s.data.toList) (f := f) (i := i))
  clear h0
  go_enter Tryz.func47, Tryz.ntmps47
  go_wp2_with fail
  go_loopw [5, 6, 7] (fun t5 t6 t7 wr => ∃ (i f : Nat) (outs : List (List UInt8)), t7 = .int .i64 i ∧ t6 = .int .i64 f ∧ f ≤ i ∧ i ≤ s.size ∧ outs.length ≤ i ∧ Hid ((10 : UInt8) ∉ (s.data.toList.take i).drop f) ∧ Hid (outs ++ cutL (s.data.toList.drop f) = cutL s.data.toList) ∧ Hid (Sep M0 w0 (OwnF 9 1 t5 outs.length (outs.map partV) :: L) wr)) (fun _ _ t7 _ => s.size - (intOf t7).toNat)
  case atStart => exact ⟨0, 0, [], rfl, rfl, Nat.le_refl _, Nat.zero_le _, Nat.zero_le _, by simp [Hid], rfl, H0.out⟩
  case round =>
    clear H0
    obtain ⟨i, f, outs, rfl, rfl, hfi, hi1, hol, H10, Hc, Hs⟩ := hrel
    by_cases hlt : i < s.size
    · have hlt' : (i : Int) < s.size := by omega
      have hbb := byte_lt s[i]
      have hat : ∀ h, s.data.toList[i]'h = s[i] := fun _ => rfl
      by_cases hb : s[i] = 10
      · have e := HG.out outs f i (by rw [lenL]; exact hlt) hfi H10.out Hc.out ((hat _).trans hb)
        have Hc2 := hide e
        have hx : s.extract f i = str ((s.data.toList.take i).drop f) := by
          refine ext_of_list ?_
          rw [extractL, strL, List.drop_take]
        have Hn : Hid (∀ (v : Value) wz, Sep M0 w0 (OwnF 9 1 v (outs.length + 1) (outs.map partV ++ [.string (s.extract f i)]) :: L) wz → Sep M0 w0 (OwnF 9 1 v (outs ++ [(s.data.toList.take i).drop f]).length ((outs ++ [(s.data.toList.take i).drop f]).map partV) :: L) wz) := fun v wz h => by
          rw [List.length_append, List.length_singleton, List.map_append, List.map_singleton, partV, ← hx]
          exact h
        have hfi' : (f : Int) ≤ i := by omega
        have hb1 : (s[i].toNat : Int) = 10 := by rw [hb]; rfl
        have hb2 : s[i].toNat = 10 := by rw [hb]; rfl
        have H10' : Hid ((10 : UInt8) ∉ (s.data.toList.take (i + 1)).drop (i + 1)) := by
          rw [List.drop_take]
          simp [Hid]
        have Ho := hide Hs.out.own
        clear e hx HG HB HE Hc H10 hat hb
        generalize outs.map partV = xs at *
        go_wp2_with (at_builtin; refine wpList_append_lies _ rfl (.tmp 19) (.tmp 24) 22 rfl 0 9 i0 (.string ⟨#[]⟩) 1 16 Tryz.underlying22 hi hz0 hz1 hz2 rfl (by decide) u5 outs.length xs rfl (Ho.out.alloc _) ⟨wr.heap.size, 0, none⟩ 1 1 [.string (s.extract f i)] rfl rfl ?c1 ?c2 (by decide) ?b1 ?b2 (Nat.zero_le _) _ rfl ?next)
        try case c1 => exact news1 _ _ _ _ rfl
        case c2 => first | rfl | (intro u hu; simp at hu; subst hu; rfl)
        case b1 => unfold maxLen; omega
        case b2 => omega
        case next =>
          intro g5 k5 w5 own5 hg5 hat5 hlt5
          have Hs5 := hide (Hn.out _ _ ((Hs.out.alloc (.cells #[.string (s.extract f i)] 9)).lies own5 hg5 hat5 (by simp)))
          clear own5 hg5 hat5 hlt5 Hs Ho Hn
          go_wp2_with fail
          go_roundw
          case rel => exact ⟨i + 1, i + 1, outs ++ [(s.data.toList.take i).drop f], by go_num, by go_num, Nat.le_refl _, by omega, by simp; omega, H10'.out, Hc2.out, Hs5.out⟩
          case measure => simp [intOf]; omega
      · have H10' := hide (HB.out f i (by rw [lenL]; exact hlt) hfi H10.out (fun e => hb ((hat _).symm.trans e)))
        have hb1 : ¬ (s[i].toNat : Int) = 10 := by
          intro e
          exact hb (UInt8.toNat_inj.1 (by rw [show (10 : UInt8).toNat = 10 from rfl]; omega))
        have hb2 : ¬ s[i].toNat = 10 := by omega
        clear HG HB HE H10 hat hb
        go_wp2_with fail
        go_roundw
        case rel => exact ⟨i + 1, f, outs, by go_num, rfl, by omega, by omega, by omega, H10'.out, Hc.out, Hs.out⟩
        case measure => simp [intOf]; omega
    · have hle : (s.size : Int) ≤ (i : Int) := by omega
      obtain rfl : i = s.size := by omega
      have e := HE.out outs f (by rw [lenL]; exact H10.out) Hc.out
      have hx : s.extract f s.size = str (s.data.toList.drop f) := by
        refine ext_of_list ?_
        rw [extractL, strL, List.take_of_length_le (by rw [List.length_drop, lenL]; omega)]
      have Hn : Hid (∀ (v : Value) wz, Sep M0 w0 (OwnF 9 1 v (outs.length + 1) (outs.map partV ++ [.string (s.extract f s.size)]) :: L) wz → Sep M0 w0 (OwnF 9 1 v (cutL s.data.toList).length ((cutL s.data.toList).map partV) :: L) wz) := fun v wz h => by
        rw [← e, List.length_append, List.length_singleton, List.map_append, List.map_singleton, partV, ← hx]
        exact h
      have hfi' : (f : Int) ≤ s.size := by omega
      have Ho := hide Hs.out.own
      clear e hx HG HB HE Hc H10
      generalize outs.map partV = xs at *
      go_wp2_with (at_builtin; refine wpList_append_lies _ rfl (.tmp 28) (.tmp 32) 22 rfl 0 9 i0 (.string ⟨#[]⟩) 1 16 Tryz.underlying22 hi hz0 hz1 hz2 rfl (by decide) u5 outs.length xs rfl (Ho.out.alloc _) ⟨wr.heap.size, 0, none⟩ 1 1 [.string (s.extract f s.size)] rfl rfl ?d1 ?d2 (by decide) ?e1 ?e2 (Nat.zero_le _) _ rfl ?next2)
      try case d1 => exact news1 _ _ _ _ rfl
      case d2 => first | rfl | (intro u hu; simp at hu; subst hu; rfl)
      case e1 => unfold maxLen; omega
      case e2 => omega
      case next2 =>
        intro g5 k5 w5 own5 hg5 hat5 hlt5
        have Hs5 := hide (Hn.out _ _ ((Hs.out.alloc (.cells #[.string (s.extract f s.size)] 9)).lies own5 hg5 hat5 (by simp)))
        clear own5 hg5 hat5 hlt5 Hs Ho Hn
        go_wp2_with fail
        go_ret
        exact ⟨_, rfl, Hs5.out⟩
end Go.Proofs.YtogpjblikphpcaaGreatDoor
