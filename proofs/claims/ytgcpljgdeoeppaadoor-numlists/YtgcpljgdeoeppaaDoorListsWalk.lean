/-
  The walk of the law NumLists over the contracts.
-/
import Derived.Test.YtgcpljgdeoeppaaDoorPutErr
import Derived.Test.YtgcpljgdeoeppaaDoorBackWalk
namespace Go.Proofs.YtgcpljgdeoeppaaDoor
open Go.RowKit

/-- Numbers, one behind the other; texts, one behind the other. -/
def numsL (l : List Int) : List UInt8 := (l.map fun x => Go.Num.enc x.toNat).flatten
def textsL (l : List ByteArray) : List UInt8 := (l.map fun t => Go.Num.enc t.size ++ t.data.toList).flatten

theorem numsL_snoc (l : List Int) (x : Int) : numsL (l ++ [x]) = numsL l ++ Go.Num.enc x.toNat := by simp [numsL]
theorem numsL_cons (l : List Int) (x : Int) : numsL (x :: l) = Go.Num.enc x.toNat ++ numsL l := by simp [numsL]
theorem textsL_snoc (l : List ByteArray) (t : ByteArray) : textsL (l ++ [t]) = textsL l ++ (Go.Num.enc t.size ++ t.data.toList) := by simp [textsL]
theorem textsL_cons (l : List ByteArray) (t : ByteArray) : textsL (t :: l) = Go.Num.enc t.size ++ t.data.toList ++ textsL l := by simp [textsL]
theorem numsL_length (l : List Int) : (numsL l).length ≤ 6 * l.length := by
  induction l with
  | nil => simp [numsL]
  | cons x l ih => rw [numsL_cons, List.length_append, List.length_cons]; have := Go.Num.enc_length_le x.toNat; omega
theorem textsL_length (l : List ByteArray) (h : ∀ t ∈ l, t.size ≤ 100) : (textsL l).length ≤ 106 * l.length := by
  induction l with
  | nil => simp [textsL]
  | cons x l ih =>
    rw [textsL_cons, List.length_append, List.length_append, List.length_cons, lenL]
    have := Go.Num.enc_length_le x.size
    have := ih (fun t ht => h t (List.mem_cons_of_mem _ ht))
    have := h x (List.mem_cons_self ..)
    omega
theorem str_append (a b : List UInt8) : str a ++ str b = str (a ++ b) := by
  apply ByteArray.ext
  rw [ByteArray.data_append]
  simp [str]
theorem takeSnoc {α : Type} (l : List α) (j : Nat) (h : j < l.length) : l.take (j + 1) = l.take j ++ [l[j]] := by
  rw [List.take_succ_eq_append_getElem h]
theorem dropCons {α : Type} (l : List α) (j : Nat) (h : j < l.length) : l.drop j = l[j] :: l.drop (j + 1) := List.drop_eq_getElem_cons h

set_option maxHeartbeats 1000000 in
set_option maxRecDepth 100000 in
theorem lists_main (la : Option Addr) (lb lo lc : Nat) (zs : List Int) (ta : Option Addr) (tb to tc : Nat) (ss : List ByteArray) (tT : TypeId) (xT : Value) (tB : TypeId) (xB : Value) (w : World) (h : Errs w tT xT tB xB)
    (hla : 0 < zs.length → la = some ⟨lb, lo, none⟩) (hta : 0 < ss.length → ta = some ⟨tb, to, none⟩)
    (hlc : ∀ j (h : j < zs.length), w.cell? ⟨lb, lo + j, none⟩ = some (.int .i64 zs[j])) (htc : ∀ j (h : j < ss.length), w.cell? ⟨tb, to + j, none⟩ = some (.string ss[j]))
    (hl30 : zs.length ≤ 30) (ht30 : ss.length ≤ 30) :
    Calls Tryd.prog 6 #[.slice la zs.length lc, .slice ta ss.length tc] w fun r w' => r = .returned (.bool true) ∧ Below w.heap.size w w' := by
  have H := hide h
  have HL := hide hlc
  have HT := hide htc
  clear h hlc htc
  have b1 : decide ((30 : Int) < zs.length) = false := by simp; omega
  have b2 : decide ((30 : Int) < ss.length) = false := by simp; omega
  go_enter Tryd.func6, Tryd.ntmps6
  go_wp2_with fail
  refine (numbered_ok tT xT tB xB _ H.out).mono ?_
  rintro e w1 ⟨rfl, hb1⟩
  have H1 := hide (H.out.below hb1)
  have Hb1 := hide hb1
  clear hb1 H
  go_wp2_with fail
  go_loopw [6, 7] (fun a b wr => ∃ j : Nat, j ≤ zs.length ∧ b = .int .i64 j ∧ a = .string (str (numsL (zs.take j))) ∧ Hid (∀ x ∈ zs.take j, 0 ≤ x ∧ x ≤ 1099511627776) ∧ Hid (Errs wr tT xT tB xB) ∧ Hid (Below w.heap.size w wr)) (fun _ b _ => zs.length - (intOf b).toNat)
  case atStart => exact ⟨0, Nat.zero_le _, rfl, rfl, fun x hx => by simp at hx, H1.out, Hb1.out⟩
  case round =>
    obtain ⟨j, hj, rfl, rfl, Hin, HE, HB⟩ := hrel
    clear H1 Hb1
    have hsz : (str (numsL (zs.take j))).size ≤ 180 := by
      rw [str_size]; have := numsL_length (zs.take j); simp at this; omega
    by_cases hlt : j < zs.length
    · obtain rfl := hla (by omega)
      have hlt' : (j : Int) < zs.length := by omega
      have hcl : wr.cell? ⟨lb, lo + j, none⟩ = some (.int .i64 zs[j]) := (HB.out.cell (p := ⟨lb, lo + j, none⟩) (World.block_lt_of_cell? _ _ (HL.out j hlt))).trans (HL.out j hlt)
      have hsn := takeSnoc zs j hlt
      generalize hz : zs[j] = z at *
      have Hsn := hide hsn
      have Hz := hide hz
      clear hsn hz
      have Hsa := hide (fun b => str_append (numsL (zs.take j)) b)
      have Hsn2 := hide (numsL_snoc (zs.take j) z)
      generalize hA : str (numsL (zs.take j)) = A at *
      have HA := hide hA
      clear hA
      by_cases h0 : z < 0
      · have b3 : decide (z < 0) = true := by simp; omega
        go_wp2_with fail
        refine (put_err z tB xB _ (Or.inl h0) HE.out.bound).mono ?_
        rintro e w2 ⟨rfl, hb2⟩
        have hcl2 := (hb2.cell (p := ⟨lb, lo + j, none⟩) (World.block_lt_of_cell? _ _ hcl)).trans hcl
        have Hb2 := hide (bthen HB.out hb2)
        clear hb2 hcl
        go_wp2_with fail
        go_ret
        exact ⟨rfl, Hb2.out⟩
      have b3 : decide (z < 0) = false := by simp; omega
      by_cases h9 : 1099511627776 < z
      · have b4 : decide (1099511627776 < z) = true := by simp; omega
        go_wp2_with fail
        refine (put_err z tB xB _ (Or.inr h9) HE.out.bound).mono ?_
        rintro e w2 ⟨rfl, hb2⟩
        have hcl2 := (hb2.cell (p := ⟨lb, lo + j, none⟩) (World.block_lt_of_cell? _ _ hcl)).trans hcl
        have Hb2 := hide (bthen HB.out hb2)
        clear hb2 hcl
        go_wp2_with fail
        go_ret
        exact ⟨rfl, Hb2.out⟩
      have g0 : 0 ≤ z := by omega
      have g1 : z ≤ 1099511627776 := by omega
      clear h0 h9
      go_wp2_with fail
      refine (put_int z _ g0 g1).mono ?_
      rintro e w2 ⟨rfl, hb2⟩
      have HE2 := hide (HE.out.below hb2)
      have Hb2 := hide (bthen HB.out hb2)
      clear hb2 hcl HE HB
      have hsz2 : (str (Go.Num.enc z.toNat)).size ≤ 6 := by rw [str_size]; exact Go.Num.enc_length_le _
      have Hz2 := hide (Hsa.out (Go.Num.enc z.toNat))
      generalize hB : str (Go.Num.enc z.toNat) = B at *
      have HBB := hide hB
      clear hB
      go_wp2_with fail
      go_roundw
      case rel =>
        refine ⟨j + 1, by omega, by go_num, ?_, ?_, HE2.out, Hb2.out⟩
        · rw [Hsn.out, Hsn2.out, ← Hz2.out]
        · rw [Hsn.out]
          intro x hx
          rcases List.mem_append.1 hx with hx | hx
          · exact Hin.out x hx
          · rw [List.mem_singleton.1 hx]; exact ⟨g0, g1⟩
      case measure => simp [intOf]; omega
    · obtain rfl : j = zs.length := by omega
      rw [List.take_length] at hsz Hin
      go_wp2_with fail
      rw [List.take_length]
      have HEn := HE
      have HBn := HB
      clear HE HB hlt hj
      have hsz3 := hide hsz
      clear hsz
      go_loopw [6, 10] (fun a b wr => ∃ j : Nat, j ≤ ss.length ∧ b = .int .i64 j ∧ a = .string (str (numsL zs ++ textsL (ss.take j))) ∧ Hid (∀ t ∈ ss.take j, t.size ≤ 100) ∧ Hid (Errs wr tT xT tB xB) ∧ Hid (Below w.heap.size w wr)) (fun _ b _ => ss.length - (intOf b).toNat)
      case atStart => exact ⟨0, Nat.zero_le _, rfl, by simp [textsL], fun x hx => by simp at hx, HEn.out, HBn.out⟩
      case round =>
        obtain ⟨j, hj, rfl, rfl, Ht, HE, HB⟩ := hrel
        clear HEn HBn
        have hts := textsL_length (ss.take j) Ht.out
        have hsz : (str (numsL zs ++ textsL (ss.take j))).size ≤ 3360 := by
          have h3 := hsz3.out
          rw [str_size] at h3 ⊢
          rw [List.length_append]; simp at hts; omega
        clear hts
        by_cases hlt : j < ss.length
        · obtain rfl := hta (by omega)
          have hlt' : (j : Int) < ss.length := by omega
          have hct : wr.cell? ⟨tb, to + j, none⟩ = some (.string ss[j]) := (HB.out.cell (p := ⟨tb, to + j, none⟩) (World.block_lt_of_cell? _ _ (HT.out j hlt))).trans (HT.out j hlt)
          have hsn := takeSnoc ss j hlt
          generalize ss[j] = t at *
          have Hsn := hide hsn
          clear hsn
          have Hsa := hide (fun b => str_append (numsL zs ++ textsL (ss.take j)) b)
          have Hsn2 := hide (textsL_snoc (ss.take j) t)
          generalize hA : str (numsL zs ++ textsL (ss.take j)) = A at *
          have HA := hide hA
          clear hA
          by_cases h9 : 100 < t.size
          · have b4 : (100 : Int) < t.size := by omega
            go_wp2_with fail
            go_ret
            exact ⟨rfl, HB.out⟩
          have b4 : (t.size : Int) ≤ 100 := by omega
          go_wp2_with fail
          refine (putText_ok t _ (by omega)).mono ?_
          rintro e w2 ⟨rfl, hb2⟩
          have HE2 := hide (HE.out.below hb2)
          have Hb2 := hide (bthen HB.out hb2)
          clear hb2 hct HE HB
          have hsz2 : (str (Go.Num.enc t.size ++ t.data.toList)).size ≤ 106 := by rw [str_size, List.length_append, lenL]; have := Go.Num.enc_length_le t.size; omega
          have Hz2 := hide (Hsa.out (Go.Num.enc t.size ++ t.data.toList))
          generalize hB : str (Go.Num.enc t.size ++ t.data.toList) = B at *
          have HBB := hide hB
          clear hB
          go_wp2_with fail
          go_roundw
          case rel =>
            refine ⟨j + 1, by omega, by go_num, ?_, ?_, HE2.out, Hb2.out⟩
            · rw [Hsn.out, Hsn2.out, ← List.append_assoc, ← Hz2.out]
            · rw [Hsn.out]
              intro x hx
              rcases List.mem_append.1 hx with hx | hx
              · exact Ht.out x hx
              · rw [List.mem_singleton.1 hx]; omega
          case measure => simp [intOf]; omega
        · obtain rfl : j = ss.length := by omega
          rw [List.take_length] at Ht
          clear hsz
          go_wp2_with fail
          rw [List.take_length]
          have HEn := HE
          have HBn := HB
          clear HE HB hlt hj
          go_loopw [6, 13] (fun a b wr => ∃ j : Nat, j ≤ zs.length ∧ b = .int .i64 j ∧ a = .string (str (numsL (zs.drop j) ++ textsL ss)) ∧ Hid (Errs wr tT xT tB xB) ∧ Hid (Below w.heap.size w wr)) (fun _ b _ => zs.length - (intOf b).toNat)
          case atStart => exact ⟨0, Nat.zero_le _, rfl, rfl, HEn.out, HBn.out⟩
          case round =>
            obtain ⟨j, hj, rfl, rfl, HE, HB⟩ := hrel
            clear HEn HBn
            by_cases hlt : j < zs.length
            · obtain rfl := hla (by omega)
              have hlt' : (j : Int) < zs.length := by omega
              have hcl := (HL.out j hlt)
              have hmem : 0 ≤ zs[j] ∧ zs[j] ≤ 1099511627776 := Hin.out _ (List.getElem_mem hlt)
              have hl1 := numsL_length (zs.drop j)
              have hl2 := textsL_length ss Ht.out
              have hsz : (str (numsL (zs.drop j) ++ textsL ss)).size ≤ 4000 := by
                rw [str_size, List.length_append]; simp at hl1; omega
              have hdl : (str (numsL (zs.drop j) ++ textsL ss)).data.toList = Go.Num.enc (zs[j]).toNat ++ (str (numsL (zs.drop (j + 1)) ++ textsL ss)).data.toList := by
                show numsL (zs.drop j) ++ textsL ss = Go.Num.enc (zs[j]).toNat ++ (numsL (zs.drop (j + 1)) ++ textsL ss)
                rw [dropCons zs j hlt, numsL_cons, List.append_assoc]
              clear hl1 hl2
              generalize zs[j] = z at *
              obtain ⟨m, rfl⟩ := Int.eq_ofNat_of_zero_le hmem.1
              have hm1 := hmem.2
              clear hmem
              rw [Int.toNat_natCast] at hdl
              have Hdl := hide hdl
              have Hsz := hide hsz
              have Hcl := hide hcl
              clear hdl hsz hcl
              go_wp2_with fail
              refine (get_enc m _ (str (numsL (zs.drop (j + 1)) ++ textsL ss)) tT xT tB xB _ (by omega) (by have := Hsz.out; omega) Hdl.out HE.out).mono ?_
              rintro e w2 ⟨rfl, hb2⟩
              have hcl2 : w2.cell? ⟨lb, lo + j, none⟩ = some (.int .i64 m) := ((bthen HB.out hb2).cell (p := ⟨lb, lo + j, none⟩) (World.block_lt_of_cell? _ _ Hcl.out)).trans Hcl.out
              have HE2 := hide (HE.out.below hb2)
              have Hb2 := hide (bthen HB.out hb2)
              clear hb2 HE HB
              go_wp2_with fail
              go_roundw
              case rel => exact ⟨j + 1, by omega, by go_num, rfl, HE2.out, Hb2.out⟩
              case measure => simp [intOf]; omega
            · obtain rfl : j = zs.length := by omega
              go_wp2_with fail
              rw [List.drop_length]
              have HEn := HE
              have HBn := HB
              clear HE HB hlt hj
              go_loopw [6, 17] (fun a b wr => ∃ j : Nat, j ≤ ss.length ∧ b = .int .i64 j ∧ a = .string (str (textsL (ss.drop j))) ∧ Hid (Errs wr tT xT tB xB) ∧ Hid (Below w.heap.size w wr)) (fun _ b _ => ss.length - (intOf b).toNat)
              case atStart => exact ⟨0, Nat.zero_le _, rfl, rfl, HEn.out, HBn.out⟩
              case round =>
                obtain ⟨j, hj, rfl, rfl, HE, HB⟩ := hrel
                clear HEn HBn
                by_cases hlt : j < ss.length
                · obtain rfl := hta (by omega)
                  have hlt' : (j : Int) < ss.length := by omega
                  have hct := (HT.out j hlt)
                  have htz : (ss[j]).size ≤ 100 := Ht.out _ (List.getElem_mem hlt)
                  have hl2 := textsL_length (ss.drop j) (fun t ht => Ht.out t (List.mem_of_mem_drop ht))
                  have hsz : (str (textsL (ss.drop j))).size ≤ 4000 := by
                    rw [str_size]; simp at hl2; omega
                  have hdl : (str (textsL (ss.drop j))).data.toList = Go.Num.enc (ss[j]).size ++ (ss[j]).data.toList ++ (str (textsL (ss.drop (j + 1)))).data.toList := by
                    show textsL (ss.drop j) = Go.Num.enc (ss[j]).size ++ (ss[j]).data.toList ++ textsL (ss.drop (j + 1))
                    rw [dropCons ss j hlt, textsL_cons]
                  clear hl2
                  generalize ss[j] = t at *
                  have Hdl := hide hdl
                  have Hsz := hide hsz
                  have Hct := hide hct
                  clear hdl hsz hct
                  go_wp2_with fail
                  refine (getText_enc t _ (str (textsL (ss.drop (j + 1)))) tT xT tB xB _ (by omega) (by have := Hsz.out; omega) Hdl.out HE.out).mono ?_
                  rintro e w2 ⟨rfl, hb2⟩
                  have hct2 : w2.cell? ⟨tb, to + j, none⟩ = some (.string t) := ((bthen HB.out hb2).cell (p := ⟨tb, to + j, none⟩) (World.block_lt_of_cell? _ _ Hct.out)).trans Hct.out
                  have HE2 := hide (HE.out.below hb2)
                  have Hb2 := hide (bthen HB.out hb2)
                  clear hb2 HE HB
                  go_wp2_with fail
                  go_roundw
                  case rel => exact ⟨j + 1, by omega, by go_num, rfl, HE2.out, Hb2.out⟩
                  case measure => simp [intOf]; omega
                · obtain rfl : j = ss.length := by omega
                  have hem : str (textsL (ss.drop ss.length)) = ⟨#[]⟩ := by rw [List.drop_length]; rfl
                  generalize str (textsL (ss.drop ss.length)) = E at *
                  subst hem
                  go_wp2_with fail
                  go_ret
                  exact ⟨rfl, HB.out⟩

set_option maxHeartbeats 1000000 in
set_option maxRecDepth 100000 in
/-- Where the law asks nothing. -/
theorem lists_out (la : Option Addr) (ln lc : Nat) (ta : Option Addr) (tn tc : Nat) (tT : TypeId) (xT : Value) (tB : TypeId) (xB : Value) (w : World) (h : Errs w tT xT tB xB) (hout : 30 < ln ∨ 30 < tn) :
    Calls Tryd.prog 6 #[.slice la ln lc, .slice ta tn tc] w fun r w' => r = .returned (.bool true) ∧ Below w.heap.size w w' := by
  have H := hide h
  have HO := hide hout
  clear h hout
  go_enter Tryd.func6, Tryd.ntmps6
  go_wp2_with fail
  refine (numbered_ok tT xT tB xB _ H.out).mono ?_
  rintro e w1 ⟨rfl, hb1⟩
  have Hb1 := hide hb1
  clear hb1 H
  by_cases a1 : 30 < ln
  · have b1 : decide ((30 : Int) < ln) = true := by simp; omega
    clear HO
    go_wp2_with fail
    go_ret
    exact ⟨rfl, Hb1.out⟩
  have b1 : decide ((30 : Int) < ln) = false := by simp; omega
  have a2 : 30 < tn := by have := HO.out; omega
  have b2 : decide ((30 : Int) < tn) = true := by simp; omega
  clear HO a1
  go_wp2_with fail
  go_ret
  exact ⟨rfl, Hb1.out⟩

theorem lists_any (la : Option Addr) (ln lc : Nat) (ta : Option Addr) (tn tc : Nat) (tT : TypeId) (xT : Value) (tB : TypeId) (xB : Value) (w : World) (h : Errs w tT xT tB xB)
    (hl : ∃ (zs : List Int) (lb lo : Nat), zs.length = ln ∧ (0 < zs.length → la = some ⟨lb, lo, none⟩) ∧ ∀ j (h : j < zs.length), w.cell? ⟨lb, lo + j, none⟩ = some (.int .i64 zs[j]))
    (ht : ∃ (ss : List ByteArray) (tb to : Nat), ss.length = tn ∧ (0 < ss.length → ta = some ⟨tb, to, none⟩) ∧ ∀ j (h : j < ss.length), w.cell? ⟨tb, to + j, none⟩ = some (.string ss[j])) :
    Calls Tryd.prog 6 #[.slice la ln lc, .slice ta tn tc] w fun r w' => r = .returned (.bool true) ∧ Below w.heap.size w w' := by
  by_cases hout : 30 < ln ∨ 30 < tn
  · exact lists_out la ln lc ta tn tc tT xT tB xB w h hout
  · obtain ⟨zs, lb, lo, rfl, hla, hlc⟩ := hl
    obtain ⟨ss, tb, to, rfl, hta, htc⟩ := ht
    exact lists_main la lb lo lc zs ta tb to tc ss tT xT tB xB w h hla hta hlc htc (by omega) (by omega)
end Go.Proofs.YtgcpljgdeoeppaaDoor
