/-
  Contracts of delta.writeOp, write, Text over this dump.
-/
import Derived.Test.YtgogjncamjbajacDoorOpsCheck
import Derived.Test.YtgogjncamjbajacDoorWText
namespace Go.Proofs.YtgogjncamjbajacDoor
open Go.RowKit
open Go.Delta (Opx copyOp dataOp kCopy kData)

theorem WrAt.belowD {p : Nat} {w w' : World} {bs : List UInt8} {v : Value} (h : WrAt p w bs v) (hb : Below w.heap.size w w') : WrAt p w' bs v :=
  ⟨(hb.cell (p := ⟨p, 0, none⟩) h.lt).trans h.c0, (hb.cell (p := ⟨p, 1, none⟩) h.lt).trans h.c1, (hb.frozen (p := ⟨p, 0, none⟩) h.lt).trans h.f0, (hb.frozen (p := ⟨p, 1, none⟩) h.lt).trans h.f1, Nat.lt_of_lt_of_le h.lt hb.size, own_below h.own hb⟩
/-- An op as an object of the memory. -/
def OpObj (q : Nat) (w : World) (o : Opx) : Prop := w.heap[q]? = some (.cells #[.string o.kind, .int .i64 o.at_, .int .i64 o.n, .string o.data] 48 (0, 0))
theorem OpObj.fresh (w : World) (o : Opx) : OpObj w.heap.size (w.alloc (.cells #[.string o.kind, .int .i64 o.at_, .int .i64 o.n, .string o.data] 48)) o := by
  unfold OpObj
  show (w.heap.push _)[w.heap.size]? = _
  simp
theorem OpObj.kept {q p : Nat} {w w' : World} {o : Opx} (h : OpObj q w o) (hk : KeptT p w w') (hq : q ≠ p) : OpObj q w' o := hk _ _ _ _ hq (by decide) h
theorem OpObj.cells {q : Nat} {w : World} {o : Opx} (h : OpObj q w o) : w.cell? ⟨q, 0, none⟩ = some (.string o.kind) ∧ w.cell? ⟨q, 1, none⟩ = some (.int .i64 o.at_) ∧ w.cell? ⟨q, 2, none⟩ = some (.int .i64 o.n) ∧ w.cell? ⟨q, 3, none⟩ = some (.string o.data) := by
  unfold OpObj at h
  simp [World.cell?, h]

set_option maxHeartbeats 2000000 in
set_option maxRecDepth 100000 in
theorem writeCopy_ok (p a n : Nat) (bs : List UInt8) (v : Value) (w : World) (ha : a ≤ 4000) (hn : n ≤ 4000) (hb : bs.length ≤ 800000) (h : WrAt p w bs v) :
    Calls Tryd.prog 34 #[.pointer (some ⟨p, 0, none⟩), oval (copyOp a n)] w fun r w' => r = .returned (.tuple #[]) ∧ (∃ v', WrAt p w' (bs ++ Go.Delta.encO (copyOp a n)) v') ∧ Below p w w' := by
  have hlp := h.lt
  have hq := OpObj.fresh w (copyOp a n)
  have hwa := h.belowD ((Below.refl w.heap.size w).alloc (Nat.le_refl _) (.cells #[.string (copyOp a n).kind, .int .i64 (copyOp a n).at_, .int .i64 (copyOp a n).n, .string (copyOp a n).data] 48))
  have hba : Below p w (w.alloc (.cells #[.string (copyOp a n).kind, .int .i64 (copyOp a n).at_, .int .i64 (copyOp a n).n, .string (copyOp a n).data] 48)) := (Below.refl p w).alloc (by omega) _
  have hqp : w.heap.size ≠ p := by omega
  rw [Go.Delta.encO_copy]
  unfold oval
  simp only [copyOp, kCopy, Go.Delta.noBytes] at hwa hba hq ⊢
  have Hq := hide hq
  have Hwa := hide hwa
  have Hba := hide hba
  have h0 := Go.Num.enc_length_le 0
  have h1 := Go.Num.enc_length_le a
  clear h hq hwa hba
  go_enter Tryd.func34, Tryd.ntmps34
  go_wp2_with fail
  refine (num_ok4 p 0 bs v _ (by omega) (by omega) Hwa.out).mono ?_
  rintro e w4 ⟨rfl, ⟨v4, h4⟩, hb4, hk4⟩
  have hq4 := Hq.out.kept hk4 hqp
  have Hq4 := hide hq4
  have Hb4 := hide (Hba.out.trans hb4)
  have H4 := hide h4
  obtain ⟨q0, q1, q2, q3⟩ := hq4.cells
  simp only at q0 q1 q2 q3
  clear hq4 h4 hb4 hk4 Hq Hba Hwa
  go_wp2_with fail
  refine (num_ok4 p a _ v4 _ (by omega) (by simp; omega) H4.out).mono ?_
  rintro e w5 ⟨rfl, ⟨v5, h5⟩, hb5, hk5⟩
  have hq5 := Hq4.out.kept hk5 hqp
  have Hb5 := hide (Hb4.out.trans hb5)
  have H5 := hide h5
  clear q0 q1 q2 q3
  obtain ⟨q0, q1, q2, q3⟩ := hq5.cells
  simp only at q0 q1 q2 q3
  clear hq5 h5 hb5 hk5 Hq4 Hb4 H4
  go_wp2_with fail
  refine (num_ok p n _ v5 _ (by omega) (by simp; omega) H5.out).mono ?_
  rintro e w6 ⟨rfl, ⟨v6, h6⟩, hb6⟩
  have Hb6 := hide (Hb5.out.trans hb6)
  have H6 := hide h6
  clear q0 q1 q2 q3 h6 hb6 Hb5 H5
  go_wp2_with fail
  go_end0
  exact ⟨rfl, ⟨v6, by simpa [List.append_assoc] using H6.out⟩, Hb6.out⟩

set_option maxHeartbeats 2000000 in
set_option maxRecDepth 100000 in
theorem writeData_ok (p : Nat) (d bs : List UInt8) (v : Value) (w : World) (hd : d.length ≤ 4000) (hb : bs.length ≤ 800000) (h : WrAt p w bs v) :
    Calls Tryd.prog 34 #[.pointer (some ⟨p, 0, none⟩), oval (dataOp d)] w fun r w' => r = .returned (.tuple #[]) ∧ (∃ v', WrAt p w' (bs ++ Go.Delta.encO (dataOp d)) v') ∧ Below p w w' := by
  have hlp := h.lt
  have hq := OpObj.fresh w (dataOp d)
  have hwa := h.belowD ((Below.refl w.heap.size w).alloc (Nat.le_refl _) (.cells #[.string (dataOp d).kind, .int .i64 (dataOp d).at_, .int .i64 (dataOp d).n, .string (dataOp d).data] 48))
  have hba : Below p w (w.alloc (.cells #[.string (dataOp d).kind, .int .i64 (dataOp d).at_, .int .i64 (dataOp d).n, .string (dataOp d).data] 48)) := (Below.refl p w).alloc (by omega) _
  have hqp : w.heap.size ≠ p := by omega
  rw [Go.Delta.encO_data]
  unfold oval
  simp only [dataOp, kData] at hwa hba hq ⊢
  have HT := hide (fun W bs v (k : bs.length ≤ 900000) (h : WrAt p W bs v) => text_ok p (str d) v bs W (by rw [str_len]; omega) k h)
  have ed : (str d).data.toList = d := strL d
  rw [ed, str_len] at HT
  generalize str d = D at *
  have Hq := hide hq
  have Hwa := hide hwa
  have Hba := hide hba
  have h0 := Go.Num.enc_length_le 1
  clear h hq hwa hba ed
  go_enter Tryd.func34, Tryd.ntmps34
  go_wp2_with fail
  refine (num_ok4 p 1 bs v _ (by omega) (by omega) Hwa.out).mono ?_
  rintro e w4 ⟨rfl, ⟨v4, h4⟩, hb4, hk4⟩
  have hq4 := Hq.out.kept hk4 hqp
  have Hb4 := hide (Hba.out.trans hb4)
  have H4 := hide h4
  obtain ⟨q0, q1, q2, q3⟩ := hq4.cells
  simp only at q0 q1 q2 q3
  clear hq4 h4 hb4 hk4 Hq Hba Hwa
  go_wp2_with fail
  refine (HT.out _ _ _ (by simp; omega) H4.out).mono ?_
  rintro e w5 ⟨rfl, ⟨v5, h5⟩, hb5⟩
  have Hb5 := hide (Hb4.out.trans hb5)
  have H5 := hide h5
  clear q0 q1 q2 q3 h5 hb5 H4 Hb4
  go_wp2_with fail
  refine bodyPost_ret (results_none rfl _ _ _) rfl ?_
  exact ⟨rfl, ⟨v5, by simpa [List.append_assoc] using H5.out⟩, Hb5.out⟩

theorem writeOp_ok (p : Nat) (o : Opx) (bs : List UInt8) (v : Value) (w : World) (ho : Go.Delta.opFault o = 0) (hb : bs.length ≤ 800000) (h : WrAt p w bs v) :
    Calls Tryd.prog 34 #[.pointer (some ⟨p, 0, none⟩), oval o] w fun r w' => r = .returned (.tuple #[]) ∧ (∃ v', WrAt p w' (bs ++ Go.Delta.encO o) v') ∧ Below p w w' := by
  rcases Go.Delta.op_right ho with ⟨a, n, rfl, h1, h2, h3⟩ | ⟨l, rfl, h1, h2⟩
  · exact writeCopy_ok p a n bs v w h1 h3 hb h
  · exact writeData_ok p l bs v w h2 hb h

set_option maxHeartbeats 2000000 in
set_option maxRecDepth 100000 in
theorem owrite_ok (v : Value) (l : List Opx) (w : World) (hv : ORow w v l) (hl : l.length ≤ 1000) (hw : ∀ o ∈ l, Go.Delta.opFault o = 0) (hc : Go.Delta.cost l ≤ 100000) (he : (Go.Delta.encD l).length ≤ 20000) :
    Calls Tryd.prog 23 #[v] w fun r w' => r = .returned (.tuple #[.string (str (Go.Delta.encD l)), .nilIface]) ∧ Below w.heap.size w w' := by
  obtain ⟨a, c, rfl, hv⟩ := hv
  have HV := hide hv
  have HW := hide hw
  have hl' : (l.length : Int) ≤ 1000 := by omega
  have hsz : ((str (Go.Delta.encD l)).size : Int) ≤ 20000 := by rw [str_len]; omega
  have Hsz := hide hsz
  clear hv hw hsz he
  have hlen2 := Go.Num.enc_length_le l.length
  have Hlt : Hid (∀ j, (Go.Delta.encOs (l.take j)).length ≤ 120000) := by
    intro j
    have h1 := Go.Delta.encOs_length (l.take j)
    have h2 : Go.Delta.cost (l.take j) ≤ Go.Delta.cost l := by
      conv => rhs; rw [← List.take_append_drop j l, Go.Delta.cost_append]
      omega
    have h3 : (l.take j).length ≤ l.length := by rw [List.length_take]; omega
    omega
  go_enter Tryd.func23, Tryd.ntmps23
  go_wp2_with fail
  refine (new_ok _).mono ?_
  rintro e w1 ⟨rfl, h1⟩
  have hf := WrAt.fresh w
  have hb : Below w.heap.size w (w.alloc (.cells #[.slice none 0 0, .nilIface] 91)) := (Below.refl _ _).alloc (Nat.le_refl _) _
  rw [h1] at hf hb
  have Hf := hide hf
  have Hb := hide hb
  clear hf hb h1
  go_wp2_with fail
  refine (num_ok w.heap.size l.length [] _ _ (by omega) (by simp) Hf.out).mono ?_
  rintro e w3 ⟨rfl, ⟨v3, h3⟩, hb3⟩
  have H3 := hide h3
  have Hb3 := hide (Hb.out.trans hb3)
  clear h3 hb3 Hf Hb
  go_wp2_with fail
  go_loopw [16] (fun t wr => ∃ j : Nat, t = .int .i64 j ∧ j ≤ l.length ∧ Hid (∃ v', WrAt w.heap.size wr (Go.Num.enc l.length ++ Go.Delta.encOs (l.take j)) v') ∧ Hid (Below w.heap.size w wr)) (fun t _ => l.length - (intOf t).toNat)
  case atStart => exact ⟨0, rfl, by omega, ⟨v3, by simpa [Go.Delta.encOs] using H3.out⟩, Hb3.out⟩
  case round =>
    clear H3 Hb3
    obtain ⟨j, rfl, hj, Hw, Hb⟩ := hrel
    by_cases hlt : j < l.length
    · have hlt' : (j : Int) < l.length := by omega
      obtain ⟨b, o, rfl, hc⟩ := HV.out (by omega)
      obtain ⟨c0, c1, c2, c3⟩ := hc j hlt
      have d0 := (Hb.out.cell (World.block_lt_of_cell? _ _ c0)).trans c0
      have d1 := (Hb.out.cell (World.block_lt_of_cell? _ _ c1)).trans c1
      have d2 := (Hb.out.cell (World.block_lt_of_cell? _ _ c2)).trans c2
      have d3 := (Hb.out.cell (World.block_lt_of_cell? _ _ c3)).trans c3
      clear hc c0 c1 c2 c3
      have hok := HW.out l[j] (List.getElem_mem hlt)
      have Hsn := hide (List.take_succ_eq_append_getElem hlt)
      have hbl := Hlt.out j
      generalize l[j] = op at *
      obtain ⟨v', hw4⟩ := Hw.out
      generalize hcur : Go.Num.enc l.length ++ Go.Delta.encOs (l.take j) = cur at hw4
      have hcl : cur.length ≤ 200000 := by rw [← hcur]; simp at hbl ⊢; omega
      have Hcur := hide hcur
      have HO := hide (fun W (k : WrAt w.heap.size W cur v') => writeOp_ok w.heap.size op cur v' W hok (by omega) k)
      unfold oval at HO
      have Hwa := hide (hw4.belowD ((Below.refl wr.heap.size wr).alloc (Nat.le_refl _) (.cells #[.string op.kind, .int .i64 op.at_, .int .i64 op.n, .string op.data] 48)))
      have Hba := hide (Hb.out.alloc Hb.out.size (.cells #[.string op.kind, .int .i64 op.at_, .int .i64 op.n, .string op.data] 48))
      clear hcur hw4 Hw Hb HV HW hbl hok Hlt
      go_wp2_with fail
      refine (HO.out _ Hwa.out).mono ?_
      rintro e w6 ⟨rfl, ⟨v6, h6⟩, hb6⟩
      have Hb6 := hide (Hba.out.trans hb6)
      have H6 := hide h6
      clear h6 hb6 Hba Hwa
      go_wp2_with fail
      go_roundw
      case rel =>
        refine ⟨j + 1, by go_num, by omega, ⟨v6, ?_⟩, Hb6.out⟩
        have h := H6.out
        rw [← Hcur.out] at h
        rw [Hsn.out, Go.Delta.encOs_snoc]
        simpa [List.append_assoc] using h
      case measure => simp [intOf]; omega
    · have hle : (l.length : Int) ≤ (j : Int) := by omega
      obtain ⟨v', hw'⟩ := Hw.out
      rw [List.take_of_length_le (by omega)] at hw'
      have Hw' := hide hw'
      have hE : str (Go.Num.enc l.length ++ Go.Delta.encOs l) = str (Go.Delta.encD l) := rfl
      have HD := hide (done_ok _ _ _ wr Hw'.out)
      rw [hE] at HD
      have hsz := Hsz.out
      clear hw' hE
      generalize hE2 : str (Go.Delta.encD l) = E at HD hsz
      have HE := hide hE2
      clear hE2
      go_wp2_with fail
      refine (HD.out).mono ?_
      rintro e w4 ⟨rfl, rfl⟩
      go_wp2
      go_ret2
      exact ⟨by rw [HE.out]; rfl, Hb.out⟩

section
variable (a : Option Addr) (n c : Nat) (w : World)
set_option maxHeartbeats 1000000 in
set_option maxRecDepth 100000 in
theorem otext_err (P : TypeId → Value → World → Prop) (h : Calls Tryd.prog 11 #[.slice a n c] w fun r w' => (∃ t x, r = .returned (.iface t x) ∧ P t x w') ∧ Below w.heap.size w w') :
    Calls Tryd.prog 13 #[.slice a n c] w fun r w' => (∃ t x, r = .returned (.tuple #[.string ByteArray.empty, .iface t x]) ∧ P t x w') ∧ Below w.heap.size w w' := by
  have HW := hide h
  clear h
  go_enter Tryd.func13, Tryd.ntmps13
  go_wp2_with fail
  refine HW.out.mono ?_
  rintro e1 w1 ⟨⟨t, x, rfl, hp⟩, hb1⟩
  have Hp := hide hp
  have Hb1 := hide hb1
  clear hb1 hp
  go_wp2
  go_ret2
  exact ⟨⟨t, x, rfl, Hp.out⟩, Hb1.out⟩
set_option maxHeartbeats 1000000 in
set_option maxRecDepth 100000 in
theorem otext_fine (E : ByteArray) (h : Calls Tryd.prog 11 #[.slice a n c] w fun r w' => r = .returned .nilIface ∧ Below w.heap.size w w')
    (h2 : ∀ W, Below w.heap.size w W → Calls Tryd.prog 23 #[.slice a n c] W fun r w' => r = .returned (.tuple #[.string E, .nilIface]) ∧ Below W.heap.size W w') :
    Calls Tryd.prog 13 #[.slice a n c] w fun r w' => r = .returned (.tuple #[.string E, .nilIface]) ∧ Below w.heap.size w w' := by
  have HW := hide h
  have H2 := hide h2
  clear h h2
  go_enter Tryd.func13, Tryd.ntmps13
  go_wp2_with fail
  refine HW.out.mono ?_
  rintro e1 w1 ⟨rfl, hb1⟩
  have Hb1 := hide hb1
  clear hb1
  go_wp2_with fail
  refine (H2.out _ Hb1.out).mono ?_
  rintro e2 w2 ⟨rfl, hb2⟩
  have Hb2 := hide (bthen Hb1.out hb2)
  clear hb2 Hb1
  go_wp2
  go_ret2
  exact ⟨rfl, Hb2.out⟩
end

/-- Text of right ops. -/
theorem otext_ok (v : Value) (l : List Opx) (e : OV) (w : World) (hv : ORow w v l) (hl : l.length ≤ 1000) (hw : ∀ o ∈ l, Go.Delta.opFault o = 0) (hs : Short l) (hc : Go.Delta.cost l ≤ 100000) (he : (Go.Delta.encD l).length ≤ 20000) (hE : OEr e w) :
    Calls Tryd.prog 13 #[v] w fun r w' => r = .returned (.tuple #[.string (str (Go.Delta.encD l)), .nilIface]) ∧ Below w.heap.size w w' := by
  have HC := ocheck_ok v l e w hv (by omega) hs hE
  rw [Go.Delta.faultO_of hw] at HC
  have hv' := hv
  obtain ⟨a, cap, rfl, _⟩ := hv'
  refine otext_fine _ _ _ _ _ (HC.mono ?_) fun W hb => owrite_ok _ l W (hv.below hb) hl hw hc he
  rintro r w' ⟨hr, hb⟩
  rw [OCheckRes, if_pos rfl] at hr
  exact ⟨hr, hb⟩
end Go.Proofs.YtgogjncamjbajacDoor
