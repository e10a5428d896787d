/-
  Contract of package tape's Read.
-/
import Derived.Test.YtledipmimfphdaaDoorTkFirst
import Derived.Test.YtledipmimfphdaaDoorTpRead
namespace Go.Proofs.YtledipmimfphdaaDoor
open Go.RowKit
open Go.Tape

set_option maxHeartbeats 2000000 in
set_option maxRecDepth 100000 in
theorem tkRead_own {a : Nat → Addr} {e f : TypeId × Value} (s : ByteArray) (W : World) (hE : TkEnv a e f W) (hs : s.size ≤ 2000000) :
    Calls Tryd.prog 13 #[.string s] W fun r w' => ∃ v, r = .returned (.tuple #[v, .int .i64 ((readT s.data.toList).2 : Nat)]) ∧ Sep Foot.none W [OwnF 9 1 v (readT s.data.toList).1.length ((readT s.data.toList).1.map recV)] w' := by
  obtain ⟨i0, hi, hz0, hz1, hz2⟩ := info_parts Tryd.infoTx
  have H0 : Hid (Sep Foot.none W [OwnF 9 1 (.slice none 0 0) ([] : List (List UInt8)).length ((([] : List (List UInt8))).map recV)] W) := (Sep.start W).nil 9 1
  have HE := hide (fun W' (k : Below W.heap.size W W') => hE.below k)
  have HFi := hide (fun b W' (q : TkEnv a e f W') (hb : b.size ≤ 2000000) => tkFirst_ok b W' q hb)
  have HRe := hide (fun b W' (q : TkEnv a e f W') (hb : b.size ≤ 1000000) => tkRec_ok b W' q hb)
  have hs' : (s.size : Int) ≤ 2000000 := by omega
  have HR0 : Hid ((([] : List (List UInt8)) ++ (readT (s.data.toList.drop 0)).1, 0 + (readT (s.data.toList.drop 0)).2) = readT s.data.toList) := by simp [Hid]
  generalize readT s.data.toList = R at *
  clear hE
  go_enter Tryd.func13, Tryd.ntmps13
  go_wp2_with fail
  go_loopw [4, 5] (fun t4 t5 wr => ∃ (dn : Nat) (outs : List (List UInt8)), t5 = .int .i64 dn ∧ dn ≤ s.size ∧ outs.length ≤ dn ∧ Hid ((outs ++ (readT (s.data.toList.drop dn)).1, dn + (readT (s.data.toList.drop dn)).2) = R) ∧ Hid (Sep Foot.none W [OwnF 9 1 t4 outs.length (outs.map recV)] wr)) (fun _ t5 _ => s.size - (intOf t5).toNat)
  case atStart => exact ⟨0, [], rfl, Nat.zero_le _, Nat.zero_le _, HR0.out, H0.out⟩
  case round =>
    clear H0 HR0
    obtain ⟨dn, outs, rfl, hdn, hol, HR, Hs⟩ := hrel
    have HEnd : Hid (oneR (s.data.toList.drop dn) = none → R = (outs, dn)) := fun h => by
      have := HR.out
      rw [readT_none h] at this
      simpa using this.symm
    have HNext : Hid (∀ x r, oneR (s.data.toList.drop dn) = some (x, r) → (outs ++ [x] ++ (readT r).1, dn + (recB x).length + (readT r).2) = R) := fun x r h => by
      have := HR.out
      rw [readT_some h] at this
      rw [← this]
      simp [Nat.add_assoc]
    have hxl : (s.extract dn s.size).data.toList = s.data.toList.drop dn := by rw [extractL, List.take_of_length_le (by rw [List.length_drop, lenL]; omega)]
    have hxs : (s.extract dn s.size).size ≤ 2000000 := by rw [← lenL, hxl, List.length_drop, lenL]; omega
    have HF := hide (HFi.out (s.extract dn s.size) wr (HE.out _ Hs.out.below) hxs)
    rw [hxl] at HF
    have d0 : (0 : Int) ≤ dn := by omega
    have d1 : (dn : Int) ≤ s.size := by omega
    clear HR hxl hxs
    cases ho : oneR (s.data.toList.drop dn) with
    | none =>
      rw [firstV_none ho] at HF
      obtain rfl := HEnd.out ho
      clear HEnd HNext HRe ho
      go_wp2_with fail
      refine HF.out.mono ?_
      rintro r w1 ⟨rfl, hb1⟩
      have Hs1 := hide (Hs.out.keep hb1)
      clear hb1 HF Hs
      go_wp2_with fail
      go_ret2
      exact ⟨_, rfl, Hs1.out⟩
    | some p =>
      obtain ⟨x, r0⟩ := p
      rw [firstV_some ho] at HF
      have HN := hide (HNext.out _ _ ho)
      have hso := oneR_some ho
      have hln := congrArg List.length hso.1
      rw [List.length_append, List.length_drop, lenL] at hln
      have hrl : (rec1 (str x)).size = (recB x).length := by rw [rec1_len, strL]
      have hr0 : (recB x).length > 0 := by rw [recB_length]; omega
      have hr00 : r0 = s.data.toList.drop (dn + (recB x).length) := by
        rw [← List.drop_drop, hso.1, List.drop_left]
      subst hr00
      have hxs : (str x).size ≤ 1000000 := by rw [str_len]; have := hso.2; omega
      clear HEnd HNext ho hso
      generalize (recB x).length = k at *
      have Hn2 : Hid (∀ (v : Value) wz, Sep Foot.none W [OwnF 9 1 v (outs.length + 1) (outs.map recV ++ [.string (str x)])] wz → Sep Foot.none W [OwnF 9 1 v (outs ++ [x]).length ((outs ++ [x]).map recV)] wz) := fun v wz h => by
        rw [List.length_append, List.length_singleton, List.map_append, List.map_singleton, recV]
        exact h
      have hw : wrap64 ((dn : Int) + (k : Int)) = ((dn + k : Nat) : Int) := by
        unfold wrap64; omega
      have hrl' : ((rec1 (str x)).size : Int) = k := by omega
      generalize outs.map recV = xs at *
      generalize str x = S at *
      go_wp2_with fail
      refine HF.out.mono ?_
      rintro r w1 ⟨rfl, hb1⟩
      have Hs1 := hide (Hs.out.keep hb1)
      have Ho := hide Hs1.out.own
      clear hb1 HF Hs
      go_wp2_with (at_builtin; refine wpList_append_lies _ rfl (.tmp 19) (.tmp 21) 22 rfl 0 9 i0 (.string ⟨#[]⟩) 1 16 Tryd.underlying22 hi hz0 hz1 hz2 rfl (by decide) u4 outs.length xs rfl (Ho.out.alloc _) ⟨w1.heap.size, 0, none⟩ 1 1 [.string S] rfl rfl ?c1 ?c2 (by decide) ?b1 ?b2 (Nat.zero_le _) _ rfl ?next)
      try case c1 => exact news1 _ _ _ _ rfl
      case c2 => first | rfl | (intro u hu; simp at hu; subst hu; rfl)
      case b1 => unfold maxLen; omega
      case b2 => omega
      case next =>
        intro g5 k5 w5 own5 hg5 hat5 hlt5
        have Hs5 := hide (Hn2.out _ _ ((Hs1.out.alloc (.cells #[.string S] 9)).lies own5 hg5 hat5 (by simp)))
        have HRc := hide (HRe.out S w5 (HE.out _ Hs5.out.below) hxs)
        clear own5 hg5 hat5 hlt5 Hs1 Ho Hn2
        go_wp2_with fail
        refine HRc.out.mono ?_
        rintro r w6 ⟨rfl, hb6⟩
        have Hs6 := hide (Hs5.out.keep hb6)
        clear hb6 Hs5 HRc
        go_wp2_with fail
        go_roundw
        case rel => exact ⟨dn + k, outs ++ [x], by first | rfl | (rw [hrl', hw]), by omega, by simp; omega, HN.out, Hs6.out⟩
        case measure => simp only [intOf]; omega
end Go.Proofs.YtledipmimfphdaaDoor
