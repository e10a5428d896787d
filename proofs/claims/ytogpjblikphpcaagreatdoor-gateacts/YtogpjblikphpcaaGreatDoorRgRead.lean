/-
  Contract of the document's ReadGate over this dump.
-/
import Derived.Test.YtogpjblikphpcaaGreatDoorRgOps
import Derived.Test.YtogpjblikphpcaaGreatDoorRgCut
import Derived.Test.YtogpjblikphpcaaGreatDoorRgNum
import Derived.Test.YtogpjblikphpcaaGreatDoorFine
import Derived.Test.YtogpjblikphpcaaGreatDoorGateMore
namespace Go.Proofs.YtogpjblikphpcaaGreatDoor
open Go.RowKit
open Go.Gate
open Go.Files (isNm lt)

theorem readD_step {P : List (List UInt8)} {i : Nat} (h : i + 1 < P.length) (g : Toks) (ab : ByteArray) (n : Nat) :
    readD (P.drop i) g ab n = if (lineN ab P[i]).1 = 0 then (if g.length < 20 then readD (P.drop (i + 1)) (g ++ [((lineN ab P[i]).2.1, (lineN ab P[i]).2.2)]) (lineN ab P[i]).2.1 (n + 1) else ([], 8, n)) else ([], (lineN ab P[i]).1, n) := by
  rw [List.drop_eq_getElem_cons (show i < P.length by omega), List.drop_eq_getElem_cons h, readD]
theorem readD_last {P : List (List UInt8)} {i : Nat} (h : i + 1 = P.length) (g : Toks) (ab : ByteArray) (n : Nat) :
    readD (P.drop i) g ab n = if P[i] = [] then (g, 0, n) else ([], 1, n) := by
  rw [List.drop_eq_getElem_cons (show i < P.length by omega), List.drop_of_length_le (by omega), readD]
theorem str_self (X : ByteArray) : str X.data.toList = X := ext_of_list (strL _)
theorem brk_at {X : ByteArray} {k : Nat} (hk : k < X.size) (h : (32 : UInt8) ∉ X.data.toList.take k) (hb : X[k] = 32) : brk 32 X.data.toList = some ((X.extract 0 k).data.toList, (X.extract (k + 1) X.size).data.toList) := by
  have hl : k < X.data.toList.length := by rw [lenL]; exact hk
  have e : X.data.toList = X.data.toList.take k ++ 32 :: X.data.toList.drop (k + 1) := by
    conv => lhs; rw [← List.take_append_drop k X.data.toList, List.drop_eq_getElem_cons hl, atL X k hk, hb]
  rw [extractL, extractL, List.drop_zero, Nat.sub_zero, List.take_of_length_le (l := X.data.toList.drop (k + 1)) (by rw [List.length_drop, lenL]; omega)]
  conv => lhs; rw [e]
  exact brk_of h
theorem rdLine_none {ab : ByteArray} {x : List UInt8} (h : (32 : UInt8) ∉ x) : (lineN ab x).1 = 1 := by
  unfold lineN
  rw [brk_out h]
theorem rdLine_at {ab nm ds X : ByteArray} (h : brk 32 X.data.toList = some (nm.data.toList, ds.data.toList)) :
    lineN ab X.data.toList = if numI ds.data.toList 10 < 0 then (1, ⟨#[]⟩, 0) else if isNm nm = false then (5, ⟨#[]⟩, 0) else if isEp (numI ds.data.toList 10) = false then (2, ⟨#[]⟩, 0) else if lt ab nm then (0, nm, numI ds.data.toList 10) else (9, ⟨#[]⟩, 0) := by
  unfold lineN numI
  rw [h]
  simp only
  cases Go.Digits.numberOf ds.data.toList 10 with
  | none => rfl
  | some n =>
    simp only [str_self]
    rw [if_neg (show ¬ (n : Int) < 0 by omega)]
theorem cutL_part : ∀ (s x : List UInt8), x ∈ cutL s → x.length ≤ s.length
  | [], x, h => by simp [cutL] at h; simp [h]
  | b :: r, x, h => by
    rw [cutL] at h
    split at h
    · rcases List.mem_cons.1 h with rfl | h
      · simp
      · have := cutL_part r x h
        simp only [List.length_cons]; omega
    · split at h
      · rename_i y t e
        rcases List.mem_cons.1 h with rfl | h
        · have := cutL_part r y (by rw [e]; exact List.mem_cons_self ..)
          simp only [List.length_cons]; omega
        · have := cutL_part r x (by rw [e]; exact List.mem_cons_of_mem _ h)
          simp only [List.length_cons]; omega
      · simp only [List.mem_singleton] at h
        subst h
        simp
theorem rd_err {R T : Toks × Nat × Nat} {x : Nat × ByteArray × Int} {c i : Nat} (h : R = if x.1 = 0 then T else ([], x.1, i)) (hx : x.1 = c) (hc : c ≠ 0) : R = ([], c, i) := by
  rw [h, if_neg (by rw [hx]; exact hc), hx]
/-- What a line with these words comes to: an error's number (0: none); the gate behind it. -/
def stepE (ab nm : ByteArray) (N : Int) (g : Toks) : Nat := if N < 0 then 1 else if isNm nm = false then 5 else if isEp N = false then 2 else if lt ab nm then (if g.length < 20 then 0 else 8) else 9
def stepG (ab nm : ByteArray) (N : Int) (g : Toks) : Toks := if stepE ab nm N g = 0 then g ++ [(nm, N)] else g
theorem step_ok {ab nm : ByteArray} {N : Int} {g : Toks} {x : Nat × ByteArray × Int} (hx : x = if N < 0 then (1, ⟨#[]⟩, 0) else if isNm nm = false then (5, ⟨#[]⟩, 0) else if isEp N = false then (2, ⟨#[]⟩, 0) else if lt ab nm then (0, nm, N) else (9, ⟨#[]⟩, 0))
    (h : stepE ab nm N g = 0) : 0 ≤ N ∧ isNm nm = true ∧ isEp N = true ∧ lt ab nm = true ∧ g.length < 20 ∧ x = (0, nm, N) := by
  unfold stepE at h
  split at h
  · cases h
  · rename_i h1
    split at h
    · cases h
    · rename_i h2
      split at h
      · cases h
      · rename_i h3
        split at h
        · rename_i h4
          split at h
          · rename_i h5
            rw [if_neg h1, if_neg h2, if_neg h3, if_pos h4] at hx
            exact ⟨by omega, by simpa using h2, by simpa using h3, h4, h5, hx⟩
          · cases h
        · cases h
theorem step_err {ab nm : ByteArray} {N : Int} {g : Toks} {i : Nat} {R T : Toks × Nat × Nat} {x : Nat × ByteArray × Int} (hx : x = if N < 0 then (1, ⟨#[]⟩, 0) else if isNm nm = false then (5, ⟨#[]⟩, 0) else if isEp N = false then (2, ⟨#[]⟩, 0) else if lt ab nm then (0, nm, N) else (9, ⟨#[]⟩, 0))
    (hR : R = if x.1 = 0 then (if g.length < 20 then T else ([], 8, i)) else ([], x.1, i)) (h : stepE ab nm N g ≠ 0) : R = ([], stepE ab nm N g, i) := by
  subst hx
  rw [hR]
  unfold stepE at *
  by_cases h1 : N < 0
  · simp only [if_pos h1] at h ⊢; rfl
  · by_cases h2 : isNm nm = false
    · simp only [if_neg h1, if_pos h2] at h ⊢; rfl
    · by_cases h3 : isEp N = false
      · simp only [if_neg h1, if_neg h2, if_pos h3] at h ⊢; rfl
      · by_cases h4 : lt ab nm = true
        · by_cases h5 : g.length < 20
          · rw [if_neg h1, if_neg h2, if_neg h3, if_pos h4, if_pos h5] at h
            exact absurd rfl h
          · simp only [if_neg h1, if_neg h2, if_neg h3, if_pos h4, if_neg h5] at h ⊢; rfl
        · simp only [if_neg h1, if_neg h2, if_neg h3, if_neg h4] at h ⊢; rfl
/-- What the walk holds: the parts, the gate, the fault. -/
abbrev rdgL (p q b c : Nat) (P : List (List UInt8)) (g : Toks) : List Fam := [OwnF 9 1 (.slice (some ⟨b, 0, none⟩) P.length c) P.length (P.map partV), RGt p g, CellsF q 48 [.int .i64 0, .int .i64 0]]
/-- An error's end. -/
theorem rdg_err {M0 : Foot} {w0 wr : World} {L : List Fam} {p q b c : Nat} {P : List (List UInt8)} {g : Toks} (h : Sep M0 w0 (rdgL p q b c P g ++ L) wr) (x y : Value) :
    (wr.cell? ⟨q, 0, none⟩ = some (.int .i64 0) ∧ wr.cell? ⟨q, 1, none⟩ = some (.int .i64 0) ∧ wr.frozen? ⟨q, 0, none⟩ = false ∧ wr.frozen? ⟨q, 1, none⟩ = false) ∧
    ((wr.setCell ⟨q, 0, none⟩ x).setCell ⟨q, 1, none⟩ y).cell? ⟨q, 0, none⟩ = some x ∧ ((wr.setCell ⟨q, 0, none⟩ x).setCell ⟨q, 1, none⟩ y).cell? ⟨q, 1, none⟩ = some y ∧
    Sep M0 w0 L ((wr.setCell ⟨q, 0, none⟩ x).setCell ⟨q, 1, none⟩ y) := by
  have h3 := h.third
  have h5 := (h3.set 0 x).set 1 y
  simp only [List.set_cons_zero, List.set_cons_succ] at h5
  exact ⟨⟨(h3.cell 0).1, (h3.cell 1).1, (h3.cell 0).2, (h3.cell 1).2⟩, (h5.cell 0).1, (h5.cell 1).1, h5.drop.drop.drop⟩
/-- No error. -/
theorem rdg_fin {M0 : Foot} {w0 wr : World} {L : List Fam} {p q b c : Nat} {P : List (List UInt8)} {g : Toks} (h : Sep M0 w0 (rdgL p q b c P g ++ L) wr) (x y : Value) :
    (wr.cell? ⟨q, 0, none⟩ = some (.int .i64 0) ∧ wr.cell? ⟨q, 1, none⟩ = some (.int .i64 0) ∧ wr.frozen? ⟨q, 0, none⟩ = false ∧ wr.frozen? ⟨q, 1, none⟩ = false) ∧
    ((wr.setCell ⟨q, 0, none⟩ x).setCell ⟨q, 1, none⟩ y).cell? ⟨q, 0, none⟩ = some x ∧ ((wr.setCell ⟨q, 0, none⟩ x).setCell ⟨q, 1, none⟩ y).cell? ⟨q, 1, none⟩ = some y ∧
    Sep M0 w0 (RGt p g :: L) ((wr.setCell ⟨q, 0, none⟩ x).setCell ⟨q, 1, none⟩ y) := by
  have h3 := h.third
  have h5 := (h3.set 0 x).set 1 y
  simp only [List.set_cons_zero, List.set_cons_succ] at h5
  exact ⟨⟨(h3.cell 0).1, (h3.cell 1).1, (h3.cell 0).2, (h3.cell 1).2⟩, (h5.cell 0).1, (h5.cell 1).1, h5.drop.drop⟩

set_option maxHeartbeats 4000000 in
set_option maxRecDepth 100000 in
theorem rread_ok {M0 : Foot} {w0 W : World} {L : List Fam} (h0 : Sep M0 w0 L W) (s : ByteArray) (hs : s.size ≤ 100000) :
    Calls Tryz.prog 20 #[.string s] W fun r w' =>
      ((readG s.data.toList).2.1 = 0 ∧ ∃ p, r = .returned (.tuple #[.pointer (some ⟨p, 0, none⟩), .agg #[.int .i64 0, .int .i64 (-1)]]) ∧ Sep M0 w0 (RGt p (readG s.data.toList).1 :: L) w') ∨
      ((readG s.data.toList).2.1 ≠ 0 ∧ r = .returned (.tuple #[.pointer none, .agg #[.int .i64 ((readG s.data.toList).2.1 : Nat), .int .i64 ((readG s.data.toList).2.2 : Nat)]]) ∧ Sep M0 w0 L w') := by
  have hB := (h0.fresh 48 [.int .i64 0, .int .i64 0]).rgate
  rw [show (W.alloc (.cells [Value.int .i64 0, Value.int .i64 0].toArray 48)).heap.size = W.heap.size + 1 by simp] at hB
  have HC := hide (rcut_ok hB s hs)
  have HFn := hide (fun W => fine_ok W)
  have HR0 : Hid (readD ((cutL s.data.toList).drop 0) [] ⟨#[]⟩ 0 = readG s.data.toList) := rfl
  have hlen := cutL_len s.data.toList
  rw [lenL] at hlen
  have hpos : 0 < (cutL s.data.toList).length := List.length_pos_iff.2 (cutL_ne _)
  have Hsz : Hid (∀ x ∈ cutL s.data.toList, x.length ≤ 100000) := fun x hx => by
    have := cutL_part _ _ hx
    rw [lenL] at this
    omega
  generalize cutL s.data.toList = P at *
  generalize readG s.data.toList = R at *
  have hP1 : (P.length : Int) ≤ 200000 := by omega
  have hP0 : (1 : Int) ≤ P.length := by omega
  clear hB h0 hlen hs
  go_enter Tryz.func20, Tryz.ntmps20
  go_wp2_with fail
  refine HC.out.mono ?_
  rintro r w1 ⟨v, rfl, hs1⟩
  obtain ⟨b, c, rfl⟩ : ∃ b c, v = .slice (some ⟨b, 0, none⟩) P.length c := by
    have := hs1.own
    obtain ⟨k, hk⟩ : ∃ k, P.length = k + 1 := ⟨P.length - 1, by omega⟩
    rw [hk] at this ⊢
    exact own_form this
  have HS1 : Hid (Sep M0 w0 (rdgL (W.heap.size + 1) W.heap.size b c P [] ++ L) w1) := hs1
  have HRow := hide (fun (g : Toks) wz (h : Sep M0 w0 (rdgL (W.heap.size + 1) W.heap.size b c P g ++ L) wz) i (hi : i < P.length) => show wz.cell? ⟨b, i, none⟩ = some (.string (str P[i])) by
    obtain ⟨a', c', e, hr⟩ := Row1.of_own (f := partV) h.own
    obtain ⟨b', o', e2, hc⟩ := hr (by omega)
    cases e
    have ho := h.own.cellAt i (by omega)
    rw [List.getElem?_map, List.getElem?_eq_getElem hi] at ho
    exact ho)
  have hwr : IntKind.i64.wrap ((P.length : Int) - 1) = (P.length : Int) - 1 := iwrap_id _ (by omega) (by omega)
  clear hs1 HC
  go_wp2_with fail
  go_loopw [6, 7] (fun t6 t7 wr => ∃ (i : Nat) (g : Toks) (ab : ByteArray), t7 = .int .i64 i ∧ t6 = .string ab ∧ i < P.length ∧ ab.size ≤ 1000000 ∧ (i = 0 → ab = ⟨#[]⟩) ∧ Hid (Upto g ab) ∧ Hid (readD (P.drop i) g ab i = R) ∧ Hid (Sep M0 w0 (rdgL (W.heap.size + 1) W.heap.size b c P g ++ L) wr)) (fun _ t7 _ => P.length - (intOf t7).toNat)
  case atStart => exact ⟨0, [], ⟨#[]⟩, rfl, rfl, hpos, by decide, fun _ => rfl, Upto.start, HR0.out, HS1.out⟩
  case round =>
    clear HS1 HR0
    obtain ⟨i, g, ab, rfl, rfl, hi, hab, hi0, Hup, HR, Hs⟩ := hrel
    by_cases hlt : i + 1 < P.length
    · have hlt' : (i : Int) < (P.length : Int) - 1 := by omega
      have hltP : (i : Int) < P.length := by omega
      have di := HRow.out g wr Hs.out i hi
      have HRi := hide (fun (g : Toks) wz (h : Sep M0 w0 (rdgL (W.heap.size + 1) W.heap.size b c P g ++ L) wz) => HRow.out g wz h i hi)
      have hst := readD_step hlt g ab i
      rw [HR.out] at hst
      have hx := Hsz.out _ (List.getElem_mem hi)
      have HKeep : Hid (∀ R', readD (P.drop (i + 1)) (g ++ [((lineN ab P[i]).2.1, (lineN ab P[i]).2.2)]) (lineN ab P[i]).2.1 (i + 1) = R' → True) := fun _ _ => trivial
      generalize hX : str P[i] = X at *
      have hXl : P[i] = X.data.toList := by rw [← hX, strL]
      rw [hXl] at hst hx
      rw [lenL] at hx
      have hx' : (X.size : Int) ≤ 100000 := by omega
      have Hst := hide hst
      clear HKeep hX hXl hst HR
      go_wp2_with fail
      go_loop [8] (fun t8 => ∃ k : Nat, t8 = .int .i64 k ∧ k ≤ X.size ∧ Hid ((32 : UInt8) ∉ X.data.toList.take k)) (fun t8 => X.size - (intOf t8).toNat)
      case atStart => exact ⟨0, rfl, Nat.zero_le _, by simp [Hid]⟩
      case round =>
        obtain ⟨k, rfl, hk, H32⟩ := hrel
        by_cases hkl : k < X.size
        · have hkl' : (k : Int) < X.size := by omega
          have hbb := byte_lt X[k]
          by_cases hb : X[k] = 32
          · have hbk := brk_at hkl H32.out hb
            have Hln := hide (rdLine_at (ab := ab) hbk)
            have hns : (X.extract 0 k).size ≤ 100000 := by
              rw [← lenL, extractL, List.length_take, List.length_drop, lenL]
              omega
            have hds : (X.extract (k + 1) X.size).size ≤ 100000 := by
              rw [← lenL, extractL, List.length_take, List.length_drop, lenL]
              omega
            have HNu := hide (fun W => rnumber_ok (X.extract (k + 1) X.size) (by omega) W)
            have HNm := hide (fun W => isName_ok (X.extract 0 k) W (by omega))
            have hb1 : (X[k].toNat : Int) = 32 := by rw [hb]; rfl
            have hb2 : X[k].toNat = 32 := by rw [hb]; rfl
            have hkw : IntKind.i64.wrap ((k : Int) + 1) = (k : Int) + 1 := iwrap_id _ (by omega) (by omega)
            have hk1 : (k : Int) + 1 ≤ X.size := by omega
            clear hbk hb H32 hds
            go_wp2_with fail
            refine (HNu.out _).mono ?_
            rintro r w2 ⟨rfl, rfl⟩
            clear HNu
            generalize numI (X.extract (k + 1) X.size).data.toList 10 = N at *
            go_wp2_with fail
            refine (HNm.out _).mono ?_
            rintro r w3 ⟨rfl, rfl⟩
            clear HNm
            generalize X.extract 0 k = NM at *
            clear hb1 hb2 hkw hk1
            have hnm : NM.size ≤ 1000000 := by omega
            go_upto_if 68 with fail
            go_cut [11, 12] (fun v11 _ wc => v11 = .int .i64 (stepE ab NM N g : Nat) ∧ Hid (Sep M0 w0 (rdgL (W.heap.size + 1) W.heap.size b c P (stepG ab NM N g) ++ L) wc))
            case first =>
              by_cases hN : N < 0
              · have hE : stepE ab NM N g = 1 := by unfold stepE; rw [if_pos hN]
                have hG : stepG ab NM N g = g := by unfold stepG; rw [if_neg (by rw [hE]; simp)]
                have HE := hide hE
                have HG := hide hG
                clear hE hG Hst Hln Hup HRi HFn HRow Hsz 
                generalize stepE ab NM N g = E at *
                generalize stepG ab NM N g = g5 at *
                go_wp2_with fail
                go_meet
                case rel => exact ⟨by rw [HE.out]; rfl, by rw [HG.out]; exact Hs.out⟩
              · have hN0 : 0 ≤ N := by omega
                cases hnb : isNm NM with
                | false =>
                  have hE : stepE ab NM N g = 5 := by unfold stepE; rw [if_neg hN, if_pos hnb]
                  have hG : stepG ab NM N g = g := by unfold stepG; rw [if_neg (by rw [hE]; simp)]
                  have HE := hide hE
                  have HG := hide hG
                  clear hE hG Hst Hln Hup HRi HFn HRow Hsz hnb hN
                  generalize stepE ab NM N g = E at *
                  generalize stepG ab NM N g = g5 at *
                  go_wp2_with fail
                  go_meet
                  case rel => exact ⟨by rw [HE.out]; rfl, by rw [HG.out]; exact Hs.out⟩
                | true =>
                  cases hep : isEp N with
                  | false =>
                    have hN2 : N < 1 ∨ 1 ≤ N ∧ 2147483648 < N := by
                      have : ¬ isEp N = true := by rw [hep]; simp
                      rw [isEp_iff] at this
                      omega
                    rcases hN2 with hN2 | ⟨hN2, hN3⟩
                    · have hE : stepE ab NM N g = 2 := by unfold stepE; rw [if_neg hN, if_neg (show ¬ isNm NM = false by rw [hnb]; simp), if_pos hep]
                      have hG : stepG ab NM N g = g := by unfold stepG; rw [if_neg (by rw [hE]; simp)]
                      have HE := hide hE
                      have HG := hide hG
                      clear hE hG Hst Hln Hup HRi HFn HRow Hsz hnb hep hN
                      generalize stepE ab NM N g = E at *
                      generalize stepG ab NM N g = g5 at *
                      go_wp2_with fail
                      go_meet
                      case rel => exact ⟨by rw [HE.out]; rfl, by rw [HG.out]; exact Hs.out⟩
                    · have hE : stepE ab NM N g = 2 := by unfold stepE; rw [if_neg hN, if_neg (show ¬ isNm NM = false by rw [hnb]; simp), if_pos hep]
                      have hG : stepG ab NM N g = g := by unfold stepG; rw [if_neg (by rw [hE]; simp)]
                      have HE := hide hE
                      have HG := hide hG
                      clear hE hG Hst Hln Hup HRi HFn HRow Hsz hnb hep hN
                      generalize stepE ab NM N g = E at *
                      generalize stepG ab NM N g = g5 at *
                      go_wp2_with fail
                      go_meet
                      case rel => exact ⟨by rw [HE.out]; rfl, by rw [HG.out]; exact Hs.out⟩
                  | true =>
                    obtain ⟨hN1, hN2⟩ := isEp_iff.1 hep
                    cases hlt2 : lt ab NM with
                    | false =>
                      have hi1 : (0 : Int) < i := by
                        have : i ≠ 0 := fun e => by
                          rw [hi0 e, lt_empty hnb] at hlt2
                          cases hlt2
                        omega
                      by_cases hx2 : NM = ab
                      · have e1 : Op.bytesLess NM.toList ab.toList = false := by rw [hx2]; exact Go.Files.lt_irrefl ab
                        have e2 := same_bytes hx2
                        have hE : stepE ab NM N g = 9 := by unfold stepE; rw [if_neg hN, if_neg (show ¬ isNm NM = false by rw [hnb]; simp), if_neg (show ¬ isEp N = false by rw [hep]; simp), if_neg (show ¬ lt ab NM = true by rw [hlt2]; simp)]
                        have hG : stepG ab NM N g = g := by unfold stepG; rw [if_neg (by rw [hE]; simp)]
                        have HE := hide hE
                        have HG := hide hG
                        clear hE hG Hst Hln Hup HRi HFn HRow Hsz hx2 hlt2 hnb hep hi0 hN
                        generalize stepE ab NM N g = E at *
                        generalize stepG ab NM N g = g5 at *
                        go_wp2_with fail
                        go_meet
                        case rel => exact ⟨by rw [HE.out]; rfl, by rw [HG.out]; exact Hs.out⟩
                      · have e1 : Op.bytesLess NM.toList ab.toList = true := Go.Files.lt_of hlt2 (fun e => hx2 e.symm)
                        have hE : stepE ab NM N g = 9 := by unfold stepE; rw [if_neg hN, if_neg (show ¬ isNm NM = false by rw [hnb]; simp), if_neg (show ¬ isEp N = false by rw [hep]; simp), if_neg (show ¬ lt ab NM = true by rw [hlt2]; simp)]
                        have hG : stepG ab NM N g = g := by unfold stepG; rw [if_neg (by rw [hE]; simp)]
                        have HE := hide hE
                        have HG := hide hG
                        clear hE hG Hst Hln Hup HRi HFn HRow Hsz hx2 hlt2 hnb hep hi0 hN
                        generalize stepE ab NM N g = E at *
                        generalize stepG ab NM N g = g5 at *
                        go_wp2_with fail
                        go_meet
                        case rel => exact ⟨by rw [HE.out]; rfl, by rw [HG.out]; exact Hs.out⟩
                    | true =>
                      have e1 : Op.bytesLess NM.toList ab.toList = false := Go.Files.lt_asymm hlt2
                      have e2 : (NM.toList == ab.toList) = false := other_bytes (fun e => Go.Files.lt_ne hlt2 e.symm)
                      have HT := hide (fun W5 => rSet_ok (W.heap.size + 1) g NM N W5 Hup.out.fit hnm)
                      have hES : setE g NM N = stepE ab NM N g ∧ setT g NM N = stepG ab NM N g := by
                        unfold stepG stepE
                        rw [if_neg hN, if_neg (show ¬ isNm NM = false by rw [hnb]; simp), if_neg (show ¬ isEp N = false by rw [hep]; simp), if_pos hlt2]
                        by_cases hgl : g.length < 20
                        · obtain ⟨hu, hgn, hins⟩ := Hup.out.more hlt2 hnb hep hgl
                          have hse : setE g NM N = 0 := setE_zero.2 ⟨mayT_zero.2 ⟨hnb, fun _ => hgl⟩, hep⟩
                          rw [if_pos hgl, if_pos rfl]
                          refine ⟨hse, ?_⟩
                          unfold setT
                          rw [if_pos hse, ← hins]
                          have : lastT g NM = 0 := by unfold lastT; rw [hgn]; rfl
                          rw [this, Int.max_eq_right (by omega)]
                        · have hgn : getT g NM = none := getT_none.2 fun p hp => Go.Files.lt_ne (Hup.out.all hlt2 p hp)
                          have hm8 : mayT g NM = 8 := by unfold mayT; rw [if_neg (show ¬ isNm NM = false by rw [hnb]; simp), if_pos ⟨by rw [hgn]; rfl, by omega⟩]
                          have hse : setE g NM N = 8 := by unfold setE; rw [if_neg (by rw [hm8]; simp), hm8]
                          rw [if_neg hgl, if_neg (by simp)]
                          refine ⟨hse, ?_⟩
                          unfold setT
                          rw [if_neg (by rw [hse]; simp)]
                      rw [hES.1, hES.2] at HT
                      clear hES Hst Hln Hup HRi HFn HRow Hsz hnb hep hlt2 hN hi0
                      generalize stepE ab NM N g = E at *
                      generalize stepG ab NM N g = g5 at *
                      rcases Nat.eq_zero_or_pos i with hi9 | hi9
                      · have hi8 : ¬ (0 : Int) < i := by omega
                        have hi7 : ¬ 0 < i := by omega
                        clear hi9
                        go_wp2_with fail
                        refine (Sep.call (L0 := [_]) Hs.out.sw (HT.out _)).mono ?_
                        rintro r w4 ⟨_, ⟨rfl, rfl⟩, hs4⟩
                        have Hs4 := hide hs4.sw
                        clear hs4 HT Hs
                        go_wp2_with fail
                        go_meet
                        case rel => exact ⟨rfl, Hs4.out⟩
                      · have hi8 : (0 : Int) < i := by omega
                        go_wp2_with fail
                        refine (Sep.call (L0 := [_]) Hs.out.sw (HT.out _)).mono ?_
                        rintro r w4 ⟨_, ⟨rfl, rfl⟩, hs4⟩
                        have Hs4 := hide hs4.sw
                        clear hs4 HT Hs
                        go_wp2_with fail
                        go_meet
                        case rel => exact ⟨rfl, Hs4.out⟩
            case rest =>
              obtain ⟨rfl, Hs5⟩ := hcut
              by_cases hE : stepE ab NM N g = 0
              · obtain ⟨hN, hnb, hep, hlt2, hgl, hln⟩ := step_ok Hln.out hE
                have hR := Hst.out
                rw [hln, if_pos rfl, if_pos hgl] at hR
                have hG : stepG ab NM N g = g ++ [(NM, N)] := by unfold stepG; rw [if_pos hE]
                rw [hG] at Hs5
                obtain ⟨hu, -, -⟩ := Hup.out.more hlt2 hnb hep hgl
                have HR := hide hR.symm
                have Hu := hide hu
                clear hN hnb hep hlt2 hgl hln hR hG hu Hst Hln Hup HRi Hs
                generalize stepE ab NM N g = E at *
                subst hE
                go_wp2_with fail
                go_roundw
                case rel => exact ⟨i + 1, g ++ [(NM, N)], NM, by go_num, rfl, hlt, hnm, by omega, Hu.out, HR.out, Hs5.out⟩
                case measure => simp [intOf]; omega
              · obtain rfl := step_err Hln.out Hst.out hE
                have hG : stepG ab NM N g = g := by unfold stepG; rw [if_neg hE]
                rw [hG] at Hs5
                clear hG Hst Hln Hup HRi Hs HFn HRow Hsz
                have hE1 : (0 : Int) < (stepE ab NM N g : Nat) := by omega
                obtain ⟨⟨q0, q1, p0, p1⟩, x0, x1, hF⟩ := rdg_err Hs5.out (.int .i64 (stepE ab NM N g : Nat)) (.int .i64 i)
                have HF := hide hF
                clear hF Hs5
                go_wp2_with fail
                (try simp only [Exit.inBlock, Exit.then])
                refine bodyPost_ret (v := .tuple #[.pointer none, .agg #[.int .i64 (stepE ab NM N g : Nat), .int .i64 i]]) ?_ rfl (by first | exact ⟨rfl, HF.out⟩ | exact .inr ⟨hE, rfl, HF.out⟩)
                simp only [results, show Tryz.f20.results = #[.tmp 2, .cell 3 48] from rfl]
                go_simp
          · have Hn : Hid ((32 : UInt8) ∉ X.data.toList.take (k + 1)) := by
              rw [takeL X k hkl]
              simp only [Hid, List.mem_append, List.mem_singleton, not_or]
              exact ⟨H32.out, fun e => hb e.symm⟩
            have hb1 : ¬ (X[k].toNat : Int) = 32 := fun e => hb (UInt8.toNat_inj.1 (by rw [show (32 : UInt8).toNat = 32 from rfl]; omega))
            have hb2 : ¬ X[k].toNat = 32 := by omega
            clear hb H32 Hst Hs Hup HRi
            go_wp2_with fail
            go_round
            case rel => exact ⟨k + 1, by go_num, by omega, Hn.out⟩
            case measure => simp [intOf]; omega
        · have hkle : (X.size : Int) ≤ (k : Int) := by omega
          obtain rfl : k = X.size := by omega
          have h1 : (lineN ab X.data.toList).1 = 1 := rdLine_none (by have := H32.out; rwa [← lenL, List.take_length] at this)
          have hE := Hst.out
          rw [if_neg (by rw [h1]; simp), h1] at hE
          subst hE
          obtain ⟨⟨q0, q1, p0, p1⟩, x0, x1, hF⟩ := rdg_err Hs.out (.int .i64 1) (.int .i64 i)
          have HF := hide hF
          clear hF Hs H32 Hst Hup HRi HFn HRow Hsz h1
          go_wp2_with fail
          (try simp only [Exit.inBlock, Exit.then])
          refine bodyPost_ret (v := .tuple #[.pointer none, .agg #[.int .i64 1, .int .i64 i]]) ?_ rfl ⟨rfl, HF.out⟩
          simp only [results, show Tryz.f20.results = #[.tmp 2, .cell 3 48] from rfl]
          go_simp
    · have hiP : P.length = i + 1 := by omega
      have hle : (P.length : Int) - 1 ≤ (i : Int) := by omega
      have hj1 : (P.length : Int) - 1 = (i : Int) := by omega
      have hji : (i : Int) < P.length := by omega
      have hwi : IntKind.i64.wrap (i : Int) = (i : Int) := iwrap_id _ (by omega) (by omega)
      have di := HRow.out g wr Hs.out i hi
      have hst := readD_last hiP.symm g ab i
      rw [HR.out] at hst
      by_cases hz : P[i] = []
      · rw [if_pos hz] at hst
        subst hst
        have e2 : (str P[i]).toList.isEmpty = true := by
          have : ((str P[i]).toList == (⟨#[]⟩ : ByteArray).toList) = true := same_bytes (by rw [hz]; rfl)
          simpa using this
        generalize str P[i] = X at *
        have HFn2 := hide (HFn.out wr)
        clear hz HR HRow Hsz hiP HFn Hup
        go_wp2_with fail
        refine HFn2.out.mono ?_
        rintro r w4 ⟨rfl, hb4⟩
        obtain ⟨⟨q0, q1, p0, p1⟩, x0, x1, hF⟩ := rdg_fin (Hs.out.keep hb4) (.int .i64 0) (.int .i64 (-1))
        have HF := hide hF
        clear hF Hs hb4 HFn2
        go_wp2_with fail
        (try simp only [Exit.inBlock, Exit.then])
        refine bodyPost_ret (v := .tuple #[.pointer (some ⟨W.heap.size + 1, 0, none⟩), .agg #[.int .i64 0, .int .i64 (-1)]]) ?_ rfl ⟨_, rfl, HF.out⟩
        simp only [results, show Tryz.f20.results = #[.tmp 2, .cell 3 48] from rfl]
        go_simp
      · rw [if_neg hz] at hst
        subst hst
        have e2 : (str P[i]).toList.isEmpty = false := by
          have : ((str P[i]).toList == (⟨#[]⟩ : ByteArray).toList) = false := other_bytes (fun e => hz (by rw [← strL P[i], e]))
          simpa using this
        generalize str P[i] = X at *
        clear hz HR HRow Hsz hiP HFn Hup
        obtain ⟨⟨q0, q1, p0, p1⟩, x0, x1, hF⟩ := rdg_err Hs.out (.int .i64 1) (.int .i64 i)
        have HF := hide hF
        clear hF Hs 
        go_wp2_with fail
        (try simp only [Exit.inBlock, Exit.then])
        refine bodyPost_ret (v := .tuple #[.pointer none, .agg #[.int .i64 1, .int .i64 i]]) ?_ rfl ⟨rfl, HF.out⟩
        simp only [results, show Tryz.f20.results = #[.tmp 2, .cell 3 48] from rfl]
        go_simp
end Go.Proofs.YtogpjblikphpcaaGreatDoor
