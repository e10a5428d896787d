/-
  Contracts of the document's ReadTape and Tape.Recover over this dump.
-/
import Derived.Test.YtledipmimfphdaaDoorTpRef
import Derived.Test.YtledipmimfphdaaDoorRgNum
import Derived.Deep.AppendLies
namespace Go.Proofs.YtledipmimfphdaaDoor
open Go.RowKit
open Go.Tape
open Go.Gate (brk brk_of)
open Go.Digits (numberOf)

theorem Tryd.infoTx : (Tryd.prog.info? 9).map (fun i => (i.zero, i.size, i.bytes)) = some (some (.string ⟨#[]⟩), 1, 16) := by kernel_rfl
def recV (x : List UInt8) : Value := .string (str x)
theorem at_colon {S : ByteArray} {dn k : Nat} (hk : k < S.size) (hd : dn ≤ k) (h58 : (58 : UInt8) ∉ (S.data.toList.take k).drop dn) (hb : S[k] = 58) : brk 58 (S.data.toList.drop dn) = some ((S.extract dn k).data.toList, (S.extract (k + 1) S.size).data.toList) := by
  have hl : k < S.data.toList.length := by rw [lenL]; exact hk
  have e : S.data.toList.drop dn = (S.data.toList.take k).drop dn ++ 58 :: S.data.toList.drop (k + 1) := by
    have h1 : S.data.toList = S.data.toList.take k ++ 58 :: S.data.toList.drop (k + 1) := by
      conv => lhs; rw [← List.take_append_drop k S.data.toList, List.drop_eq_getElem_cons hl, atL S k hk, hb]
    conv => lhs; rw [h1]
    rw [List.drop_append, List.length_take, Nat.min_eq_left (by omega), show dn - k = 0 by omega, List.drop_zero]
  rw [extractL, extractL, List.take_of_length_le (l := S.data.toList.drop (k + 1)) (by rw [List.length_drop, lenL]; omega), ← List.drop_take]
  rw [e]
  exact brk_of h58
theorem numI_neg {l : List UInt8} {m : Nat} (h : numI l m < 0) : numberOf l m = none := by
  unfold numI at h
  cases hn : numberOf l m with
  | none => rfl
  | some n => rw [hn] at h; simp only at h; omega
theorem numI_nat {l : List UInt8} {m n : Nat} (h : numI l m = n) : numberOf l m = some n := by
  unfold numI at h
  cases hn : numberOf l m with
  | none => rw [hn] at h; simp only at h; omega
  | some k => rw [hn] at h; simp only at h; congr 1; omega
theorem oneR_neg {b ds r : List UInt8} (hb : brk 58 b = some (ds, r)) (h : numI ds 9 < 0) : oneR b = none := by
  unfold oneR
  rw [hb]
  simp only [numI_neg h]
theorem oneR_num {b ds r : List UInt8} {n : Nat} (hb : brk 58 b = some (ds, r)) (h : numI ds 9 = n) : oneR b = if 20000 < n ∨ r.length < n + 2 ∨ (r.drop n).take 2 ≠ [10, 46] then none else some (r.take n, r.drop (n + 2)) := by
  unfold oneR
  rw [hb]
  simp only [numI_nat h]
theorem two_at {r : List UInt8} {n : Nat} (h : n + 1 < r.length) : (r.drop n).take 2 = [r[n], r[n + 1]] := by
  rw [List.drop_eq_getElem_cons (by omega), List.drop_eq_getElem_cons h]
  rfl
theorem byte_at (S : ByteArray) (k i : Nat) (h : k + i < S.size) (h2 : i < (S.extract k S.size).data.toList.length) : (S.extract k S.size).data.toList[i] = S[k + i] := by
  have e : (S.extract k S.size).data.toList = S.data.toList.drop k := by rw [extractL, List.take_of_length_le (by rw [List.length_drop, lenL]; omega)]
  simp only [e, List.getElem_drop]
  rfl

set_option maxHeartbeats 2000000 in
set_option maxRecDepth 100000 in
theorem rreadT_ok {M0 : Foot} {w0 W : World} {L : List Fam} (h0 : Sep M0 w0 L W) (s : ByteArray) (hs : s.size ≤ 2000000) :
    Calls Tryd.prog 20 #[.string s] W fun r w' => ∃ v, r = .returned (.tuple #[v, .int .i64 ((readT s.data.toList).2 : Nat)]) ∧ Sep M0 w0 (OwnF 9 1 v (readT s.data.toList).1.length ((readT s.data.toList).1.map recV) :: L) w' := by
  obtain ⟨i0, hi, hz0, hz1, hz2⟩ := info_parts Tryd.infoTx
  have H0 : Hid (Sep M0 w0 (OwnF 9 1 (.slice none 0 0) ([] : List (List UInt8)).length ((([] : List (List UInt8))).map recV) :: L) W) := h0.nil 9 1
  have hs' : (s.size : Int) ≤ 2000000 := by omega
  have HR0 : Hid ((([] : List (List UInt8)) ++ (readT (s.data.toList.drop 0)).1, 0 + (readT (s.data.toList.drop 0)).2) = readT s.data.toList) := by simp [Hid]
  generalize readT s.data.toList = R at *
  clear h0
  go_enter Tryd.func20, Tryd.ntmps20
  go_wp2_with fail
  go_loopw [4, 5] (fun t4 t5 wr => ∃ (dn : Nat) (outs : List (List UInt8)), t5 = .int .i64 dn ∧ dn ≤ s.size ∧ outs.length ≤ dn ∧ Hid ((outs ++ (readT (s.data.toList.drop dn)).1, dn + (readT (s.data.toList.drop dn)).2) = R) ∧ Hid (Sep M0 w0 (OwnF 9 1 t4 outs.length (outs.map recV) :: L) wr)) (fun _ t5 _ => s.size - (intOf t5).toNat)
  case atStart => exact ⟨0, [], rfl, Nat.zero_le _, Nat.zero_le _, HR0.out, H0.out⟩
  case round =>
    clear H0 HR0
    obtain ⟨dn, outs, rfl, hdn, hol, HR, Hs⟩ := hrel
    have HEnd : Hid (oneR (s.data.toList.drop dn) = none → R = (outs, dn)) := fun h => by
      have := HR.out
      rw [readT_none h] at this
      simpa using this.symm
    have HNext : Hid (∀ x r, oneR (s.data.toList.drop dn) = some (x, r) → (outs ++ [x] ++ (readT r).1, dn + (recB x).length + (readT r).2) = R) := fun x r h => by
      have := HR.out
      rw [readT_some h] at this
      rw [← this]
      simp [Nat.add_assoc]
    clear HR
    go_wp2_with fail
    go_loop [6] (fun t6 => ∃ k : Nat, t6 = .int .i64 k ∧ dn ≤ k ∧ k ≤ s.size ∧ Hid ((58 : UInt8) ∉ (s.data.toList.take k).drop dn)) (fun t6 => s.size - (intOf t6).toNat)
    case atStart => exact ⟨dn, rfl, Nat.le_refl _, hdn, by rw [List.drop_take]; simp [Hid]⟩
    case round =>
      obtain ⟨k, rfl, hdk, hk, H58⟩ := hrel
      by_cases hkl : k < s.size
      · have hkl' : (k : Int) < s.size := by omega
        have hbb := byte_lt s[k]
        by_cases hb : s[k] = 58
        · have hbk := at_colon hkl hdk H58.out hb
          have hb1 : (s[k].toNat : Int) = 58 := by rw [hb]; rfl
          have hb2 : s[k].toNat = 58 := by rw [hb]; rfl
          have hdk' : (dn : Int) ≤ k := by omega
          have hds : (s.extract dn k).size ≤ 2000000 := by
            rw [← lenL, extractL, List.length_take, List.length_drop, lenL]
            omega
          have hrl : (s.extract (k + 1) s.size).data.toList.length = s.size - (k + 1) := by
            rw [extractL, List.length_take, List.length_drop, lenL]
            omega
          have HNu := hide (fun W => rnum_ok (s.extract dn k) 9 (by omega) hds W)
          have HA : Hid (numI (s.extract dn k).data.toList 9 < 0 → oneR (s.data.toList.drop dn) = none) := oneR_neg hbk
          have HB : Hid (∀ n : Nat, numI (s.extract dn k).data.toList 9 = n → oneR (s.data.toList.drop dn) = if 20000 < n ∨ s.size - (k + 1) < n + 2 ∨ ((s.extract (k + 1) s.size).data.toList.drop n).take 2 ≠ [10, 46] then none else some ((s.extract (k + 1) s.size).data.toList.take n, (s.extract (k + 1) s.size).data.toList.drop (n + 2))) := fun n h => by
            rw [← hrl]
            exact oneR_num hbk h
          have Hrl := hide hrl
          clear hbk hb hds H58 hrl
          go_wp2_with fail
          refine (HNu.out _).mono ?_
          rintro r w2 ⟨rfl, rfl⟩
          clear HNu hb1 hb2
          generalize numI (s.extract dn k).data.toList 9 = N at *
          by_cases hN : N < 0
          · obtain rfl := HEnd.out (HA.out hN)
            clear HEnd HNext HA HB
            go_wp2_with fail
            go_ret2
            exact ⟨_, rfl, Hs.out⟩
          · obtain ⟨n, rfl⟩ := Int.eq_ofNat_of_zero_le (show 0 ≤ N by omega)
            have hone := HB.out n rfl
            clear HA HB hN
            by_cases hn1 : 20000 < n
            · rw [if_pos (.inl hn1)] at hone
              obtain rfl := HEnd.out hone
              have hn1' : (20000 : Int) < n := by omega
              clear HEnd HNext hone
              go_wp2_with fail
              go_ret2
              exact ⟨_, rfl, Hs.out⟩
            · have hn1' : (n : Int) ≤ 20000 := by omega
              by_cases hn2 : s.size - (k + 1) < n + 2
              · rw [if_pos (.inr (.inl hn2))] at hone
                obtain rfl := HEnd.out hone
                have hn2' : (s.size : Int) - k - 1 < n + 2 := by omega
                clear HEnd HNext hone
                go_wp2_with fail
                go_ret2
                exact ⟨_, rfl, Hs.out⟩
              · have hn2' : (n : Int) + 2 ≤ (s.size : Int) - k - 1 := by omega
                have h1 : k + 1 + n < s.size := by omega
                have h2 : k + 2 + n < s.size := by omega
                have h3 : (s.extract (k + 1) s.size).data.toList.length = s.size - (k + 1) := Hrl.out
                have htwo := two_at (r := (s.extract (k + 1) s.size).data.toList) (n := n) (by omega)
                rw [byte_at s (k + 1) n (by omega) (by omega), byte_at s (k + 1) (n + 1) (by omega) (by omega)] at htwo
                have hone2 : (s[k + 1 + n] = 10 ∧ s[k + 1 + (n + 1)] = 46 → oneR (s.data.toList.drop dn) = some ((s.extract (k + 1) s.size).data.toList.take n, (s.extract (k + 1) s.size).data.toList.drop (n + 2))) ∧ (¬ (s[k + 1 + n] = 10 ∧ s[k + 1 + (n + 1)] = 46) → oneR (s.data.toList.drop dn) = none) := by
                  rw [hone, htwo]
                  refine ⟨fun h => ?_, fun h => ?_⟩
                  · rw [if_neg]
                    rintro (h5 | h5 | h5)
                    · exact hn1 h5
                    · exact hn2 h5
                    · exact h5 (by rw [h.1, h.2])
                  · have h6 : [s[k + 1 + n], s[k + 1 + (n + 1)]] ≠ [10, 46] := fun h5 => h (by simpa using h5)
                    rw [if_pos (.inr (.inr h6))]
                have hx : s.extract (k + 1) (k + 1 + n) = str ((s.extract (k + 1) s.size).data.toList.take n) := by
                  refine ext_of_list ?_
                  rw [strL, extractL, extractL, List.take_take]
                  congr 1
                  omega
                have hd : (s.extract (k + 1) s.size).data.toList.drop (n + 2) = s.data.toList.drop (k + 3 + n) := by
                  rw [extractL, List.take_of_length_le (by rw [List.length_drop, lenL]; omega), List.drop_drop]
                  congr 1
                  omega
                rw [hd] at hone2
                generalize (s.extract (k + 1) s.size).data.toList.take n = x at *
                clear hone htwo h3 hd Hrl
                obtain ⟨k1, hk1⟩ : ∃ k1, k1 = k + 1 := ⟨_, rfl⟩
                obtain ⟨k2, hk2⟩ : ∃ k2, k2 = k + 2 := ⟨_, rfl⟩
                obtain ⟨k3, hk3⟩ : ∃ k3, k3 = k + 3 := ⟨_, rfl⟩
                obtain ⟨a1, ha1⟩ : ∃ a1, a1 = k1 + n := ⟨_, rfl⟩
                obtain ⟨a2, ha2⟩ : ∃ a2, a2 = k2 + n := ⟨_, rfl⟩
                obtain ⟨a3, ha3⟩ : ∃ a3, a3 = k3 + n := ⟨_, rfl⟩
                have l1 : a1 < s.size := by omega
                have l2 : a2 < s.size := by omega
                have HQ : Hid (∀ (p1 : a1 < s.size) (p2 : a2 < s.size), ((s[a1]'p1 = 10 ∧ s[a2]'p2 = 46) → oneR (s.data.toList.drop dn) = some (x, s.data.toList.drop a3)) ∧ (¬ (s[a1]'p1 = 10 ∧ s[a2]'p2 = 46) → oneR (s.data.toList.drop dn) = none)) := by
                  subst ha3 ha2 ha1 hk3 hk2 hk1
                  have hkk : k + 1 + (n + 1) = k + 2 + n := by omega
                  simp only [hkk] at hone2
                  exact fun _ _ => hone2
                rw [← hk1, ← ha1] at hx
                have e1 : (k : Int) + 1 = (k1 : Int) := by omega
                have e2 : (k : Int) + 2 = (k2 : Int) := by omega
                have e3 : (k : Int) + 3 = (k3 : Int) := by omega
                have e4 : (k1 : Int) + (n : Int) = (a1 : Int) := by omega
                have e5 : (k2 : Int) + (n : Int) = (a2 : Int) := by omega
                have e6 : (k3 : Int) + (n : Int) = (a3 : Int) := by omega
                have w1 : IntKind.i64.wrap (k1 : Int) = (k1 : Int) := iwrap_id _ (by omega) (by omega)
                have w2' : IntKind.i64.wrap (k2 : Int) = (k2 : Int) := iwrap_id _ (by omega) (by omega)
                have w3 : IntKind.i64.wrap (k3 : Int) = (k3 : Int) := iwrap_id _ (by omega) (by omega)
                have w4 : IntKind.i64.wrap (a1 : Int) = (a1 : Int) := iwrap_id _ (by omega) (by omega)
                have w5 : IntKind.i64.wrap (a2 : Int) = (a2 : Int) := iwrap_id _ (by omega) (by omega)
                have w6 : IntKind.i64.wrap (a3 : Int) = (a3 : Int) := iwrap_id _ (by omega) (by omega)
                have g1 : (k1 : Int) ≤ a1 := by omega
                have g2 : (a1 : Int) ≤ s.size := by omega
                have g3 : (a1 : Int) < s.size := by omega
                have g4 : (a2 : Int) < s.size := by omega
                have hA3 := hide (And.intro hk1 (And.intro hk2 (And.intro hk3 (And.intro ha1 (And.intro ha2 ha3)))))
                clear hone2 hk1 hk2 hk3 ha1 ha2 ha3 h1 h2
                have hb1 := byte_lt s[a1]
                have hb2 := byte_lt s[a2]
                by_cases hc1 : s[a1] = 10
                · have hc1' : (s[a1].toNat : Int) = 10 := by rw [hc1]; rfl
                  have hc1n : s[a1].toNat = 10 := by rw [hc1]; rfl
                  by_cases hc2 : s[a2] = 46
                  · have hc2' : (s[a2].toNat : Int) = 46 := by rw [hc2]; rfl
                    have hc2n : s[a2].toNat = 46 := by rw [hc2]; rfl
                    have hR := (HQ.out l1 l2).1 ⟨hc1, hc2⟩
                    have HR := hide (HNext.out _ _ hR)
                    have hso := oneR_some hR
                    have hln := congrArg List.length hso.1
                    rw [List.length_append, List.length_drop, List.length_drop, lenL] at hln
                    have Hln : Hid (dn + (recB x).length = a3) := by
                      obtain ⟨q1, q2, q3, q4, q5, q6⟩ := hA3.out
                      have : (recB x).length > 0 := by rw [recB_length]; omega
                      show _ = _
                      omega
                    have Hn2 : Hid (∀ (v : Value) wz, Sep M0 w0 (OwnF 9 1 v (outs.length + 1) (outs.map recV ++ [.string (s.extract k1 a1)]) :: L) wz → Sep M0 w0 (OwnF 9 1 v (outs ++ [x]).length ((outs ++ [x]).map recV) :: L) wz) := fun v wz h => by
                      rw [List.length_append, List.length_singleton, List.map_append, List.map_singleton, recV, ← hx]
                      exact h
                    have Ho := hide Hs.out.own
                    clear HQ HEnd HNext hR hso hln hc1 hc2 hx
                    generalize outs.map recV = xs at *
                    go_wp2_with (at_builtin; refine wpList_append_lies _ rfl (.tmp 77) (.tmp 79) 22 rfl 0 9 i0 (.string ⟨#[]⟩) 1 16 Tryd.underlying22 hi hz0 hz1 hz2 rfl (by decide) u4 outs.length xs rfl (Ho.out.alloc _) ⟨w2.heap.size, 0, none⟩ 1 1 [.string (s.extract k1 a1)] rfl rfl ?c1 ?c2 (by decide) ?b1 ?b2 (Nat.zero_le _) _ rfl ?next)
                    try case c1 => exact news1 _ _ _ _ rfl
                    case c2 => first | rfl | (intro u hu; simp at hu; subst hu; rfl)
                    case b1 => unfold maxLen; omega
                    case b2 => omega
                    case next =>
                      intro g5 k5 w5 own5 hg5 hat5 hlt5
                      have Hs5 := hide (Hn2.out _ _ ((Hs.out.alloc (.cells #[.string (s.extract k1 a1)] 9)).lies own5 hg5 hat5 (by simp)))
                      clear own5 hg5 hat5 hlt5 Hs Ho Hn2
                      go_wp2_with fail
                      go_roundw
                      case rel => exact ⟨a3, outs ++ [x], by go_num, by have := hA3.out; omega, by have := hA3.out; simp; omega, by have := HR.out; rw [Hln.out] at this; exact this, Hs5.out⟩
                      case measure => have := hA3.out; simp [intOf]; omega
                  · have hc2' : ¬ (s[a2].toNat : Int) = 46 := fun e => hc2 (UInt8.toNat_inj.1 (by rw [show (46 : UInt8).toNat = 46 from rfl]; omega))
                    have hc2n : ¬ s[a2].toNat = 46 := by omega
                    obtain rfl := HEnd.out ((HQ.out l1 l2).2 (fun h => hc2 h.2))
                    clear HQ HEnd HNext hc1 hc2 hx
                    go_wp2_with fail
                    go_ret2
                    exact ⟨_, rfl, Hs.out⟩
                · have hc1' : ¬ (s[a1].toNat : Int) = 10 := fun e => hc1 (UInt8.toNat_inj.1 (by rw [show (10 : UInt8).toNat = 10 from rfl]; omega))
                  have hc1n : ¬ s[a1].toNat = 10 := by omega
                  obtain rfl := HEnd.out ((HQ.out l1 l2).2 (fun h => hc1 h.1))
                  clear HQ HEnd HNext hc1 hx
                  go_wp2_with fail
                  go_ret2
                  exact ⟨_, rfl, Hs.out⟩
        · have Hn : Hid ((58 : UInt8) ∉ (s.data.toList.take (k + 1)).drop dn) := by
            rw [takeL s k hkl, List.drop_append, List.length_take, lenL, Nat.min_eq_left (by omega), show dn - k = 0 by omega, List.drop_zero]
            simp only [Hid, List.mem_append, List.mem_singleton, not_or]
            exact ⟨H58.out, fun e => hb e.symm⟩
          have hb1 : ¬ (s[k].toNat : Int) = 58 := fun e => hb (UInt8.toNat_inj.1 (by rw [show (58 : UInt8).toNat = 58 from rfl]; omega))
          have hb2 : ¬ s[k].toNat = 58 := by omega
          clear hb H58 HEnd HNext Hs
          go_wp2_with fail
          go_round
          case rel => exact ⟨k + 1, by go_num, by omega, by omega, Hn.out⟩
          case measure => simp [intOf]; omega
      · have hkle : (s.size : Int) ≤ (k : Int) := by omega
        obtain rfl : k = s.size := by omega
        have hno : oneR (s.data.toList.drop dn) = none := by
          have := H58.out
          rw [← lenL, List.take_length] at this
          unfold oneR
          rw [brk_out this]
        obtain rfl := HEnd.out hno
        clear hno HEnd HNext H58
        go_wp2_with fail
        go_ret2
        exact ⟨_, rfl, Hs.out⟩
end Go.Proofs.YtledipmimfphdaaDoor
