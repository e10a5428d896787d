/-
  Contract of the writer's Text over this dump.
  Contracts of delta.writeOp, write, Text over this dump.
  Contracts of the reader's methods over this dump.
  Contracts of the reader's Num and Text, of Get and GetText, over this dump: every text.
  Contracts of the reader's Num, End in whatever state it is, over this dump.
-/
import Derived.Test.YtcenohaadggdiacDoorJoin12
import Derived.Test.YtcenohaadggdiacDoorJoin04
import Derived.Test.YtcenohaadggdiacDoorJoin10
namespace Go.Proofs.YtcenohaadggdiacDoor
open Go.RowKit

theorem WrAt.moreStr {p : Nat} {wr w2 : World} {cur : List UInt8} {v v2 : Value} (h : WrAt p wr cur v) (s : ByteArray) (hb2 : Below (p + 1) wr w2)
    (hown : w2.ownsRow (p + 1) 5 1 v2 (cur.length + s.size) (cur.map cellOf ++ Go.Lib.strCells s)) : WrAt p (w2.setCell ⟨p, 0, none⟩ v2) (cur ++ s.data.toList) v2 := by
  have k0 := (hb2.cell (p := ⟨p, 0, none⟩) (by simp)).trans h.c0
  have k1 := (hb2.cell (p := ⟨p, 1, none⟩) (by simp)).trans h.c1
  have e0 := (hb2.frozen (p := ⟨p, 0, none⟩) (by simp)).trans h.f0
  have e1 := (hb2.frozen (p := ⟨p, 1, none⟩) (by simp)).trans h.f1
  have hz := hb2.size
  have hl := h.lt
  refine ⟨World.cell?_setCell_same _ _ _ k0, by rw [World.cell?_setCell_other _ _ _ _ (by simp)]; exact k1, by simpa using e0, by simpa using e1, by simp; omega, ?_⟩
  have := ownsRow_setCell_below hown (a := ⟨p, 0, none⟩) (by simp) v2
  have e : (cur ++ s.data.toList).length = cur.length + s.size := by rw [List.length_append, Array.length_toList]; rfl
  rw [e, List.map_append]
  exact this

set_option maxHeartbeats 400000 in
set_option maxRecDepth 100000 in
theorem text_ok (p : Nat) (s : ByteArray) (v : Value) (bs : List UInt8) (w : World) (hs : s.size ≤ 20000) (hb : bs.length ≤ 900000) (h : WrAt p w bs v) :
    Calls Tryd.prog 82 #[.pointer (some ⟨p, 0, none⟩), .string s] w fun e w' => e = .returned (.tuple #[]) ∧ (∃ v', WrAt p w' (bs ++ Go.Num.enc s.size ++ s.data.toList) v') ∧ Below p w w' := by
  obtain ⟨i0, hi, hz0, hz1, hz2⟩ := info_parts Tryd.info5
  have H := hide h
  clear h
  have hs' : (s.size : Int) ≤ 20000 := by omega
  have hlen := Go.Num.enc_length_le s.size
  go_enter Tryd.func82, Tryd.ntmps82
  go_wp2_with fail
  refine (num_ok p s.size bs v _ (by omega) (by omega) H.out).mono ?_
  rintro e w1 ⟨rfl, ⟨v1, h1⟩, hb1⟩
  have H1 := hide h1
  have Hb1 := hide hb1
  generalize hcur : bs ++ Go.Num.enc s.size = cur at h1 H1
  have hcl : cur.length ≤ 900006 := by rw [← hcur]; simp; omega
  have Hcur := hide hcur
  clear hcur H hb1
  obtain ⟨c0, c1, f0, f1, lt, own⟩ := h1
  go_wp2_with (at_builtin; refine Go.Lib.wpList_append_own_string _ rfl (.tmp 23) (.tmp 24) 70 9 rfl (p + 1) 5 i0 Tryd.underlying70 Tryd.underlying9 hi hz0 hz1 hz2 v1 cur.length (cur.map cellOf) rfl ?own s rfl ?b1 ?b2 ?b3 ?next)
  case own => exact own
  case b1 => unfold maxLen; omega
  case b2 => omega
  case b3 => omega
  case next =>
    intro v2 w2 hown hgrow _
    have hb2 : Below (p + 1) w1 w2 := (Below.refl _ _).grown hgrow (by omega) (fun k hk => (own.lt k hk).1)
    have hfin := H1.out.moreStr s hb2 hown
    have k0 := (hb2.cell (p := ⟨p, 0, none⟩) (by simp)).trans c0
    have e0 := (hb2.frozen (p := ⟨p, 0, none⟩) (by simp)).trans f0
    rcases own_forms hown with ⟨rfl, _⟩ | ⟨g, c', rfl⟩
    all_goals
      have Hfin := hide hfin
      have Hb2 := hide hb2
      clear hfin hb2 hown hgrow
      go_wp2
      go_end0
      refine ⟨rfl, ?_, (Hb1.out.trans (Hb2.out.mono (by omega))).setCell (by simp) _⟩
      first | rw [← List.append_assoc, Hcur.out] | rw [Hcur.out]
      exact ⟨_, Hfin.out⟩

end Go.Proofs.YtcenohaadggdiacDoor

namespace Go.Proofs.YtcenohaadggdiacDoor
open Go.RowKit
open Go.Delta (Opx copyOp dataOp kCopy kData)

theorem WrAt.belowD {p : Nat} {w w' : World} {bs : List UInt8} {v : Value} (h : WrAt p w bs v) (hb : Below w.heap.size w w') : WrAt p w' bs v :=
  ⟨(hb.cell (p := ⟨p, 0, none⟩) h.lt).trans h.c0, (hb.cell (p := ⟨p, 1, none⟩) h.lt).trans h.c1, (hb.frozen (p := ⟨p, 0, none⟩) h.lt).trans h.f0, (hb.frozen (p := ⟨p, 1, none⟩) h.lt).trans h.f1, Nat.lt_of_lt_of_le h.lt hb.size, own_below h.own hb⟩
/-- An op as an object of the memory. -/
def OpObj (q : Nat) (w : World) (o : Opx) : Prop := w.heap[q]? = some (.cells #[.string o.kind, .int .i64 o.at_, .int .i64 o.n, .string o.data] 61 (0, 0))
theorem OpObj.fresh (w : World) (o : Opx) : OpObj w.heap.size (w.alloc (.cells #[.string o.kind, .int .i64 o.at_, .int .i64 o.n, .string o.data] 61)) o := by
  unfold OpObj
  show (w.heap.push _)[w.heap.size]? = _
  simp
theorem OpObj.kept {q p : Nat} {w w' : World} {o : Opx} (h : OpObj q w o) (hk : KeptT p w w') (hq : q ≠ p) : OpObj q w' o := hk _ _ _ _ hq (by decide) h
theorem OpObj.cells {q : Nat} {w : World} {o : Opx} (h : OpObj q w o) : w.cell? ⟨q, 0, none⟩ = some (.string o.kind) ∧ w.cell? ⟨q, 1, none⟩ = some (.int .i64 o.at_) ∧ w.cell? ⟨q, 2, none⟩ = some (.int .i64 o.n) ∧ w.cell? ⟨q, 3, none⟩ = some (.string o.data) := by
  unfold OpObj at h
  simp [World.cell?, h]

set_option maxHeartbeats 2000000 in
set_option maxRecDepth 100000 in
theorem writeCopy_ok (p a n : Nat) (bs : List UInt8) (v : Value) (w : World) (ha : a ≤ 4000) (hn : n ≤ 4000) (hb : bs.length ≤ 800000) (h : WrAt p w bs v) :
    Calls Tryd.prog 55 #[.pointer (some ⟨p, 0, none⟩), oval (copyOp a n)] w fun r w' => r = .returned (.tuple #[]) ∧ (∃ v', WrAt p w' (bs ++ Go.Delta.encO (copyOp a n)) v') ∧ Below p w w' := by
  have hlp := h.lt
  have hq := OpObj.fresh w (copyOp a n)
  have hwa := h.belowD ((Below.refl w.heap.size w).alloc (Nat.le_refl _) (.cells #[.string (copyOp a n).kind, .int .i64 (copyOp a n).at_, .int .i64 (copyOp a n).n, .string (copyOp a n).data] 61))
  have hba : Below p w (w.alloc (.cells #[.string (copyOp a n).kind, .int .i64 (copyOp a n).at_, .int .i64 (copyOp a n).n, .string (copyOp a n).data] 61)) := (Below.refl p w).alloc (by omega) _
  have hqp : w.heap.size ≠ p := by omega
  rw [Go.Delta.encO_copy]
  unfold oval
  simp only [copyOp, kCopy, Go.Delta.noBytes] at hwa hba hq ⊢
  have Hq := hide hq
  have Hwa := hide hwa
  have Hba := hide hba
  have h0 := Go.Num.enc_length_le 0
  have h1 := Go.Num.enc_length_le a
  clear h hq hwa hba
  go_enter Tryd.func55, Tryd.ntmps55
  go_wp2_with fail
  refine (num_ok4 p 0 bs v _ (by omega) (by omega) Hwa.out).mono ?_
  rintro e w4 ⟨rfl, ⟨v4, h4⟩, hb4, hk4⟩
  have hq4 := Hq.out.kept hk4 hqp
  have Hq4 := hide hq4
  have Hb4 := hide (Hba.out.trans hb4)
  have H4 := hide h4
  obtain ⟨q0, q1, q2, q3⟩ := hq4.cells
  simp only at q0 q1 q2 q3
  clear hq4 h4 hb4 hk4 Hq Hba Hwa
  go_wp2_with fail
  refine (num_ok4 p a _ v4 _ (by omega) (by simp; omega) H4.out).mono ?_
  rintro e w5 ⟨rfl, ⟨v5, h5⟩, hb5, hk5⟩
  have hq5 := Hq4.out.kept hk5 hqp
  have Hb5 := hide (Hb4.out.trans hb5)
  have H5 := hide h5
  clear q0 q1 q2 q3
  obtain ⟨q0, q1, q2, q3⟩ := hq5.cells
  simp only at q0 q1 q2 q3
  clear hq5 h5 hb5 hk5 Hq4 Hb4 H4
  go_wp2_with fail
  refine (num_ok p n _ v5 _ (by omega) (by simp; omega) H5.out).mono ?_
  rintro e w6 ⟨rfl, ⟨v6, h6⟩, hb6⟩
  have Hb6 := hide (Hb5.out.trans hb6)
  have H6 := hide h6
  clear q0 q1 q2 q3 h6 hb6 Hb5 H5
  go_wp2_with fail
  go_end0
  exact ⟨rfl, ⟨v6, by simpa [List.append_assoc] using H6.out⟩, Hb6.out⟩

set_option maxHeartbeats 2000000 in
set_option maxRecDepth 100000 in
theorem writeData_ok (p : Nat) (d bs : List UInt8) (v : Value) (w : World) (hd : d.length ≤ 4000) (hb : bs.length ≤ 800000) (h : WrAt p w bs v) :
    Calls Tryd.prog 55 #[.pointer (some ⟨p, 0, none⟩), oval (dataOp d)] w fun r w' => r = .returned (.tuple #[]) ∧ (∃ v', WrAt p w' (bs ++ Go.Delta.encO (dataOp d)) v') ∧ Below p w w' := by
  have hlp := h.lt
  have hq := OpObj.fresh w (dataOp d)
  have hwa := h.belowD ((Below.refl w.heap.size w).alloc (Nat.le_refl _) (.cells #[.string (dataOp d).kind, .int .i64 (dataOp d).at_, .int .i64 (dataOp d).n, .string (dataOp d).data] 61))
  have hba : Below p w (w.alloc (.cells #[.string (dataOp d).kind, .int .i64 (dataOp d).at_, .int .i64 (dataOp d).n, .string (dataOp d).data] 61)) := (Below.refl p w).alloc (by omega) _
  have hqp : w.heap.size ≠ p := by omega
  rw [Go.Delta.encO_data]
  unfold oval
  simp only [dataOp, kData] at hwa hba hq ⊢
  have HT := hide (fun W bs v (k : bs.length ≤ 900000) (h : WrAt p W bs v) => text_ok p (str d) v bs W (by rw [str_len]; omega) k h)
  have ed : (str d).data.toList = d := strL d
  rw [ed, str_len] at HT
  generalize str d = D at *
  have Hq := hide hq
  have Hwa := hide hwa
  have Hba := hide hba
  have h0 := Go.Num.enc_length_le 1
  clear h hq hwa hba ed
  go_enter Tryd.func55, Tryd.ntmps55
  go_wp2_with fail
  refine (num_ok4 p 1 bs v _ (by omega) (by omega) Hwa.out).mono ?_
  rintro e w4 ⟨rfl, ⟨v4, h4⟩, hb4, hk4⟩
  have hq4 := Hq.out.kept hk4 hqp
  have Hb4 := hide (Hba.out.trans hb4)
  have H4 := hide h4
  obtain ⟨q0, q1, q2, q3⟩ := hq4.cells
  simp only at q0 q1 q2 q3
  clear hq4 h4 hb4 hk4 Hq Hba Hwa
  go_wp2_with fail
  refine (HT.out _ _ _ (by simp; omega) H4.out).mono ?_
  rintro e w5 ⟨rfl, ⟨v5, h5⟩, hb5⟩
  have Hb5 := hide (Hb4.out.trans hb5)
  have H5 := hide h5
  clear q0 q1 q2 q3 h5 hb5 H4 Hb4
  go_wp2_with fail
  refine bodyPost_ret (results_none rfl _ _ _) rfl ?_
  exact ⟨rfl, ⟨v5, by simpa [List.append_assoc] using H5.out⟩, Hb5.out⟩

theorem writeOp_ok (p : Nat) (o : Opx) (bs : List UInt8) (v : Value) (w : World) (ho : Go.Delta.opFault o = 0) (hb : bs.length ≤ 800000) (h : WrAt p w bs v) :
    Calls Tryd.prog 55 #[.pointer (some ⟨p, 0, none⟩), oval o] w fun r w' => r = .returned (.tuple #[]) ∧ (∃ v', WrAt p w' (bs ++ Go.Delta.encO o) v') ∧ Below p w w' := by
  rcases Go.Delta.op_right ho with ⟨a, n, rfl, h1, h2, h3⟩ | ⟨l, rfl, h1, h2⟩
  · exact writeCopy_ok p a n bs v w h1 h3 hb h
  · exact writeData_ok p l bs v w h2 hb h

set_option maxHeartbeats 2000000 in
set_option maxRecDepth 100000 in
theorem owrite_ok (v : Value) (l : List Opx) (w : World) (hv : ORow w v l) (hl : l.length ≤ 1000) (hw : ∀ o ∈ l, Go.Delta.opFault o = 0) (hc : Go.Delta.cost l ≤ 100000) (he : (Go.Delta.encD l).length ≤ 20000) :
    Calls Tryd.prog 36 #[v] w fun r w' => r = .returned (.tuple #[.string (str (Go.Delta.encD l)), .nilIface]) ∧ Below w.heap.size w w' := by
  obtain ⟨a, c, rfl, hv⟩ := hv
  have HV := hide hv
  have HW := hide hw
  have hl' : (l.length : Int) ≤ 1000 := by omega
  have hsz : ((str (Go.Delta.encD l)).size : Int) ≤ 20000 := by rw [str_len]; omega
  have Hsz := hide hsz
  clear hv hw hsz he
  have hlen2 := Go.Num.enc_length_le l.length
  have Hlt : Hid (∀ j, (Go.Delta.encOs (l.take j)).length ≤ 120000) := by
    intro j
    have h1 := Go.Delta.encOs_length (l.take j)
    have h2 : Go.Delta.cost (l.take j) ≤ Go.Delta.cost l := by
      conv => rhs; rw [← List.take_append_drop j l, Go.Delta.cost_append]
      omega
    have h3 : (l.take j).length ≤ l.length := by rw [List.length_take]; omega
    omega
  go_enter Tryd.func36, Tryd.ntmps36
  go_wp2_with fail
  refine (new_ok _).mono ?_
  rintro e w1 ⟨rfl, h1⟩
  have hf := WrAt.fresh w
  have hb : Below w.heap.size w (w.alloc (.cells #[.slice none 0 0, .nilIface] 124)) := (Below.refl _ _).alloc (Nat.le_refl _) _
  rw [h1] at hf hb
  have Hf := hide hf
  have Hb := hide hb
  clear hf hb h1
  go_wp2_with fail
  refine (num_ok w.heap.size l.length [] _ _ (by omega) (by simp) Hf.out).mono ?_
  rintro e w3 ⟨rfl, ⟨v3, h3⟩, hb3⟩
  have H3 := hide h3
  have Hb3 := hide (Hb.out.trans hb3)
  clear h3 hb3 Hf Hb
  go_wp2_with fail
  go_loopw [16] (fun t wr => ∃ j : Nat, t = .int .i64 j ∧ j ≤ l.length ∧ Hid (∃ v', WrAt w.heap.size wr (Go.Num.enc l.length ++ Go.Delta.encOs (l.take j)) v') ∧ Hid (Below w.heap.size w wr)) (fun t _ => l.length - (intOf t).toNat)
  case atStart => exact ⟨0, rfl, by omega, ⟨v3, by simpa [Go.Delta.encOs] using H3.out⟩, Hb3.out⟩
  case round =>
    clear H3 Hb3
    obtain ⟨j, rfl, hj, Hw, Hb⟩ := hrel
    by_cases hlt : j < l.length
    · have hlt' : (j : Int) < l.length := by omega
      obtain ⟨b, o, rfl, hc⟩ := HV.out (by omega)
      obtain ⟨c0, c1, c2, c3⟩ := hc j hlt
      have d0 := (Hb.out.cell (World.block_lt_of_cell? _ _ c0)).trans c0
      have d1 := (Hb.out.cell (World.block_lt_of_cell? _ _ c1)).trans c1
      have d2 := (Hb.out.cell (World.block_lt_of_cell? _ _ c2)).trans c2
      have d3 := (Hb.out.cell (World.block_lt_of_cell? _ _ c3)).trans c3
      clear hc c0 c1 c2 c3
      have hok := HW.out l[j] (List.getElem_mem hlt)
      have Hsn := hide (List.take_succ_eq_append_getElem hlt)
      have hbl := Hlt.out j
      generalize l[j] = op at *
      obtain ⟨v', hw4⟩ := Hw.out
      generalize hcur : Go.Num.enc l.length ++ Go.Delta.encOs (l.take j) = cur at hw4
      have hcl : cur.length ≤ 200000 := by rw [← hcur]; simp at hbl ⊢; omega
      have Hcur := hide hcur
      have HO := hide (fun W (k : WrAt w.heap.size W cur v') => writeOp_ok w.heap.size op cur v' W hok (by omega) k)
      unfold oval at HO
      have Hwa := hide (hw4.belowD ((Below.refl wr.heap.size wr).alloc (Nat.le_refl _) (.cells #[.string op.kind, .int .i64 op.at_, .int .i64 op.n, .string op.data] 61)))
      have Hba := hide (Hb.out.alloc Hb.out.size (.cells #[.string op.kind, .int .i64 op.at_, .int .i64 op.n, .string op.data] 61))
      clear hcur hw4 Hw Hb HV HW hbl hok Hlt
      go_wp2_with fail
      refine (HO.out _ Hwa.out).mono ?_
      rintro e w6 ⟨rfl, ⟨v6, h6⟩, hb6⟩
      have Hb6 := hide (Hba.out.trans hb6)
      have H6 := hide h6
      clear h6 hb6 Hba Hwa
      go_wp2_with fail
      go_roundw
      case rel =>
        refine ⟨j + 1, by go_num, by omega, ⟨v6, ?_⟩, Hb6.out⟩
        have h := H6.out
        rw [← Hcur.out] at h
        rw [Hsn.out, Go.Delta.encOs_snoc]
        simpa [List.append_assoc] using h
      case measure => simp [intOf]; omega
    · have hle : (l.length : Int) ≤ (j : Int) := by omega
      obtain ⟨v', hw'⟩ := Hw.out
      rw [List.take_of_length_le (by omega)] at hw'
      have Hw' := hide hw'
      have hE : str (Go.Num.enc l.length ++ Go.Delta.encOs l) = str (Go.Delta.encD l) := rfl
      have HD := hide (done_ok _ _ _ wr Hw'.out)
      rw [hE] at HD
      have hsz := Hsz.out
      clear hw' hE
      generalize hE2 : str (Go.Delta.encD l) = E at HD hsz
      have HE := hide hE2
      clear hE2
      go_wp2_with fail
      refine (HD.out).mono ?_
      rintro e w4 ⟨rfl, rfl⟩
      go_wp2
      go_ret2
      exact ⟨by rw [HE.out]; rfl, Hb.out⟩

section
variable (a : Option Addr) (n c : Nat) (w : World)
set_option maxHeartbeats 1000000 in
set_option maxRecDepth 100000 in
theorem otext_err (P : TypeId → Value → World → Prop) (h : Calls Tryd.prog 13 #[.slice a n c] w fun r w' => (∃ t x, r = .returned (.iface t x) ∧ P t x w') ∧ Below w.heap.size w w') :
    Calls Tryd.prog 15 #[.slice a n c] w fun r w' => (∃ t x, r = .returned (.tuple #[.string ByteArray.empty, .iface t x]) ∧ P t x w') ∧ Below w.heap.size w w' := by
  have HW := hide h
  clear h
  go_enter Tryd.func15, Tryd.ntmps15
  go_wp2_with fail
  refine HW.out.mono ?_
  rintro e1 w1 ⟨⟨t, x, rfl, hp⟩, hb1⟩
  have Hp := hide hp
  have Hb1 := hide hb1
  clear hb1 hp
  go_wp2
  go_ret2
  exact ⟨⟨t, x, rfl, Hp.out⟩, Hb1.out⟩
set_option maxHeartbeats 1000000 in
set_option maxRecDepth 100000 in
theorem otext_fine (E : ByteArray) (h : Calls Tryd.prog 13 #[.slice a n c] w fun r w' => r = .returned .nilIface ∧ Below w.heap.size w w')
    (h2 : ∀ W, Below w.heap.size w W → Calls Tryd.prog 36 #[.slice a n c] W fun r w' => r = .returned (.tuple #[.string E, .nilIface]) ∧ Below W.heap.size W w') :
    Calls Tryd.prog 15 #[.slice a n c] w fun r w' => r = .returned (.tuple #[.string E, .nilIface]) ∧ Below w.heap.size w w' := by
  have HW := hide h
  have H2 := hide h2
  clear h h2
  go_enter Tryd.func15, Tryd.ntmps15
  go_wp2_with fail
  refine HW.out.mono ?_
  rintro e1 w1 ⟨rfl, hb1⟩
  have Hb1 := hide hb1
  clear hb1
  go_wp2_with fail
  refine (H2.out _ Hb1.out).mono ?_
  rintro e2 w2 ⟨rfl, hb2⟩
  have Hb2 := hide (bthen Hb1.out hb2)
  clear hb2 Hb1
  go_wp2
  go_ret2
  exact ⟨rfl, Hb2.out⟩
end

/-- Text of right ops. -/
theorem otext_ok (v : Value) (l : List Opx) (e : OV) (w : World) (hv : ORow w v l) (hl : l.length ≤ 1000) (hw : ∀ o ∈ l, Go.Delta.opFault o = 0) (hs : Short l) (hc : Go.Delta.cost l ≤ 100000) (he : (Go.Delta.encD l).length ≤ 20000) (hE : OEr e w) :
    Calls Tryd.prog 15 #[v] w fun r w' => r = .returned (.tuple #[.string (str (Go.Delta.encD l)), .nilIface]) ∧ Below w.heap.size w w' := by
  have HC := ocheck_ok v l e w hv (by omega) hs hE
  rw [Go.Delta.faultO_of hw] at HC
  have hv' := hv
  obtain ⟨a, cap, rfl, _⟩ := hv'
  refine otext_fine _ _ _ _ _ (HC.mono ?_) fun W hb => owrite_ok _ l W (hv.below hb) hl hw hc he
  rintro r w' ⟨hr, hb⟩
  rw [OCheckRes, if_pos rfl] at hr
  exact ⟨hr, hb⟩
end Go.Proofs.YtcenohaadggdiacDoor

namespace Go.Proofs.YtcenohaadggdiacDoor
open Go.RowKit

/-- The reader at block p, with no error, has the text s left. -/
structure RdAt (p : Nat) (w : World) (s : ByteArray) (e : Value) : Prop where
  c0 : w.cell? ⟨p, 0, none⟩ = some (.string s)
  c1 : w.cell? ⟨p, 1, none⟩ = some e
  f0 : w.frozen? ⟨p, 0, none⟩ = false
  f1 : w.frozen? ⟨p, 1, none⟩ = false
  lt : p < w.heap.size

theorem newR_ok (s : ByteArray) (w : World) : Calls Tryd.prog 57 #[.string s] w fun e w' => e = .returned (.pointer (some ⟨w.heap.size, 0, none⟩)) ∧ w.alloc (.cells #[.string s, .nilIface] 127) = w' := by
  go_enter Tryd.func57, Tryd.ntmps57
  go_wp2
  go_ret
  exact ⟨rfl, rfl⟩

theorem RdAt.fresh (w : World) (s : ByteArray) : RdAt w.heap.size (w.alloc (.cells #[.string s, .nilIface] 127)) s .nilIface :=
  ⟨by simp, by simp, by simp, by simp, by simp⟩

theorem err_ok (p : Nat) (s : ByteArray) (e : Value) (w : World) (h : RdAt p w s e) : Calls Tryd.prog 59 #[.pointer (some ⟨p, 0, none⟩)] w fun r w' => r = .returned e ∧ w' = w := by
  obtain ⟨c0, c1, f0, f1, lt⟩ := h
  go_enter Tryd.func59, Tryd.ntmps59
  go_wp2
  go_ret
  exact ⟨rfl, rfl⟩

/-- Of what was there only block p has changed. -/
theorem grow_set {p i : Nat} {w w1 : World} (h : w.grownBy w1 (some p)) (v : Value) : w.grownBy (w1.setCell ⟨p, i, none⟩ v) (some p) :=
  ⟨h.os, h.tape, h.output, by rw [World.size_setCell]; exact h.size, fun k hk hn => (Below.heap_setCell _ _ _ _ (fun e => hn (by rw [e]))).trans (h.block k hk hn)⟩
theorem grow_trans {p : Nat} {w w1 w2 : World} (h : w.grownBy w1 (some p)) (k : w1.grownBy w2 (some p)) : w.grownBy w2 (some p) :=
  ⟨k.os.trans h.os, k.tape.trans h.tape, k.output.trans h.output, Nat.le_trans h.size k.size, fun i hi hn => (k.block i (Nat.lt_of_lt_of_le hi h.size) hn).trans (h.block i hi hn)⟩
theorem grow_below {p : Nat} {w w' : World} (h : w.grownBy w' (some p)) (hp : p < w.heap.size) : Below p w w' :=
  ⟨h.os, h.tape, h.output, h.size, fun k hk => h.block k (by omega) (fun e => by cases e; omega)⟩

theorem failR4 (p : Nat) (s : ByteArray) (t : TypeId) (x : Value) (w : World) (h : RdAt p w s .nilIface) :
    Calls Tryd.prog 84 #[.pointer (some ⟨p, 0, none⟩), .iface t x] w fun r w' => r = .returned (.tuple #[]) ∧ RdAt p w' ByteArray.empty (.iface t x) ∧ w.grownBy w' (some p) := by
  have H := hide h
  obtain ⟨c0, c1, f0, f1, lt⟩ := h
  go_enter Tryd.func84, Tryd.ntmps84
  go_wp2
  go_end0
  refine ⟨rfl, ⟨?_, ?_, by simpa using f0, by simpa using f1, by simpa using lt⟩, grow_set (grow_set (World.grownBy.refl _ _) _) _⟩
  · rw [World.cell?_setCell_other _ _ _ _ (by simp)]; exact World.cell?_setCell_same _ _ _ c0
  · exact World.cell?_setCell_same _ _ _ (by rw [World.cell?_setCell_other _ _ _ _ (by simp)]; exact c1)

set_option maxHeartbeats 400000 in
set_option maxRecDepth 100000 in
theorem whole_ok (p : Nat) (s : ByteArray) (n i : Nat) (w : World) (h : RdAt p w s .nilIface) (hn : n ≤ 1099511627776) (hi : i < s.size) (hs : s.size ≤ 1000000) (hz : 0 < i → (s[i]).toNat ≠ 0) :
    Calls Tryd.prog 83 #[.pointer (some ⟨p, 0, none⟩), .int .i64 n, .int .i64 i] w fun r w' => r = .returned (.int .i64 n) ∧ RdAt p w' (s.extract (i + 1) s.size) .nilIface ∧ w.grownBy w' (some p) := by
  obtain ⟨c0, c1, f0, f1, lt⟩ := h
  have hn' : (n : Int) ≤ 1099511627776 := by omega
  have hi' : (i : Int) < s.size := by omega
  have hs' : (s.size : Int) ≤ 1000000 := by omega
  by_cases h0 : 0 < i
  · have h0' : decide ((0 : Int) < i) = true := by simp; omega
    have hz' := hz h0
    clear hz
    go_enter Tryd.func83, Tryd.ntmps83
    go_wp2_with fail
    go_ret
    refine ⟨rfl, ⟨World.cell?_setCell_same _ _ _ c0, ?_, by simpa using f0, by simpa using f1, by simpa using lt⟩, grow_set (World.grownBy.refl _ _) _⟩
    rw [World.cell?_setCell_other _ _ _ _ (by simp)]; exact c1
  · have h0' : decide ((0 : Int) < i) = false := by simp; omega
    clear hz
    go_enter Tryd.func83, Tryd.ntmps83
    go_wp2_with fail
    go_ret
    refine ⟨rfl, ⟨World.cell?_setCell_same _ _ _ c0, ?_, by simpa using f0, by simpa using f1, by simpa using lt⟩, grow_set (World.grownBy.refl _ _) _⟩
    rw [World.cell?_setCell_other _ _ _ _ (by simp)]; exact c1

set_option maxHeartbeats 400000 in
set_option maxRecDepth 100000 in
/-- The last byte is 0, and not the only one. -/
theorem whole_zero (p : Nat) (s : ByteArray) (n : Int) (i : Nat) (t : TypeId) (x : Value) (w : World) (h : RdAt p w s .nilIface) (hT : w.cell? ⟨4, 0, none⟩ = some (.iface t x)) (hi : i < s.size) (hs : s.size ≤ 1000000) (h0 : 0 < i) (hz : (s[i]).toNat = 0) :
    Calls Tryd.prog 83 #[.pointer (some ⟨p, 0, none⟩), .int .i64 n, .int .i64 i] w fun r w' => r = .returned (.int .i64 0) ∧ RdAt p w' ByteArray.empty (.iface t x) ∧ w.grownBy w' (some p) := by
  have H := hide h
  obtain ⟨c0, c1, f0, f1, lt⟩ := h
  have hi' : (i : Int) < s.size := by omega
  have hs' : (s.size : Int) ≤ 1000000 := by omega
  have h0' : decide ((0 : Int) < i) = true := by simp; omega
  have hz' : ((s[i].toNat : Int) == 0) = true := by simp [hz]
  clear hz
  go_enter Tryd.func83, Tryd.ntmps83
  go_wp2_with fail
  refine (failR4 _ _ _ _ _ H.out).mono ?_
  rintro e w1 ⟨rfl, h1, hb1⟩
  have H1 := hide h1
  have Hb1 := hide hb1
  clear h1 hb1
  go_wp2
  go_ret
  exact ⟨rfl, H1.out, Hb1.out⟩

set_option maxHeartbeats 400000 in
set_option maxRecDepth 100000 in
/-- Above MaxNum. -/
theorem whole_big (p : Nat) (s : ByteArray) (n i : Nat) (t : TypeId) (x : Value) (w : World) (h : RdAt p w s .nilIface) (hT : w.cell? ⟨0, 0, none⟩ = some (.iface t x)) (hi : i < s.size) (hs : s.size ≤ 1000000) (hn : 1099511627776 < n) (hz : 0 < i → (s[i]).toNat ≠ 0) :
    Calls Tryd.prog 83 #[.pointer (some ⟨p, 0, none⟩), .int .i64 n, .int .i64 i] w fun r w' => r = .returned (.int .i64 0) ∧ RdAt p w' ByteArray.empty (.iface t x) ∧ w.grownBy w' (some p) := by
  have H := hide h
  obtain ⟨c0, c1, f0, f1, lt⟩ := h
  have hn' : (1099511627776 : Int) < n := by omega
  have hi' : (i : Int) < s.size := by omega
  have hs' : (s.size : Int) ≤ 1000000 := by omega
  by_cases h0 : 0 < i
  · have h0' : decide ((0 : Int) < i) = true := by simp; omega
    have hz' := hz h0
    clear hz
    go_enter Tryd.func83, Tryd.ntmps83
    go_wp2_with fail
    refine (failR4 _ _ _ _ _ H.out).mono ?_
    rintro e w1 ⟨rfl, h1, hb1⟩
    have H1 := hide h1
    have Hb1 := hide hb1
    clear h1 hb1
    go_wp2
    go_ret
    exact ⟨rfl, H1.out, Hb1.out⟩
  · have h0' : decide ((0 : Int) < i) = false := by simp; omega
    clear hz
    go_enter Tryd.func83, Tryd.ntmps83
    go_wp2_with fail
    refine (failR4 _ _ _ _ _ H.out).mono ?_
    rintro e w1 ⟨rfl, h1, hb1⟩
    have H1 := hide h1
    have Hb1 := hide hb1
    clear h1 hb1
    go_wp2
    go_ret
    exact ⟨rfl, H1.out, Hb1.out⟩

theorem failR_ok (p : Nat) (s : ByteArray) (t : TypeId) (x : Value) (w : World) (h : RdAt p w s .nilIface) :
    Calls Tryd.prog 84 #[.pointer (some ⟨p, 0, none⟩), .iface t x] w fun r w' => r = .returned (.tuple #[]) ∧ RdAt p w' ByteArray.empty (.iface t x) ∧ Below p w w' :=
  (failR4 p s t x w h).mono fun _ _ ⟨h1, h2, h3⟩ => ⟨h1, h2, grow_below h3 h.lt⟩
end Go.Proofs.YtcenohaadggdiacDoor

namespace Go.Proofs.YtcenohaadggdiacDoor
open Go.RowKit

/-- What the reader's Num leaves, by the plain function. -/
def NumRes (p : Nat) (s : ByteArray) (tT : TypeId) (xT : Value) (tB : TypeId) (xB : Value) (r : Ending) (w' : World) : Prop :=
  match Go.Num.dec s.data.toList with
  | .ok (n, k) => r = .returned (.int .i64 n) ∧ RdAt p w' (s.extract k s.size) .nilIface
  | .error 1 => r = .returned (.int .i64 0) ∧ RdAt p w' ByteArray.empty (.iface tT xT)
  | .error _ => r = .returned (.int .i64 0) ∧ RdAt p w' ByteArray.empty (.iface tB xB)

theorem byte_wrap (b : UInt8) : wrap64 (b.toNat : Int) = (b.toNat : Int) := by
  have := b.toNat_lt
  unfold wrap64
  omega

/-- One byte more: no bit is lost. -/
theorem step_val (acc j : Nat) (b : UInt8) (hj : j < 6) (ha : acc < 128 ^ j) : wrap64 ((acc : Int) + wrap64 ((b.toNat : Int) % 128 * 2 ^ (7 * j))) = ((acc + b.toNat % 128 * 128 ^ j : Nat) : Int) := by
  have hb := b.toNat_lt
  have ht : (b.toNat : Int) % 128 = ((b.toNat % 128 : Nat) : Int) := by omega
  rw [ht]
  generalize hm : b.toNat % 128 = m
  have hm' : m < 128 := by omega
  unfold wrap64
  match j, hj with
  | 0, _ => simp at ha ⊢; omega
  | 1, _ => simp at ha ⊢; omega
  | 2, _ => simp at ha ⊢; omega
  | 3, _ => simp at ha ⊢; omega
  | 4, _ => simp at ha ⊢; omega
  | 5, _ => simp at ha ⊢; omega

theorem step_lt (acc j m : Nat) (ha : acc < 128 ^ j) (hm : m < 128) : acc + m * 128 ^ j < 128 ^ (j + 1) := by
  rw [Nat.pow_succ, Nat.mul_comm (128 ^ j) 128]
  have : m * 128 ^ j ≤ 127 * 128 ^ j := Nat.mul_le_mul_right _ (by omega)
  omega

/-- The loop's end by a byte below 128. -/
theorem dec_of_scan (L : List UInt8) (n i : Nat) (h : Go.Num.scan 6 L 0 0 = some (n, i)) : Go.Num.dec L = if 0 < i ∧ L[i]? = some 0 then .error 1 else if 1099511627776 < n then .error 2 else .ok (n, i + 1) := by
  unfold Go.Num.dec; rw [h]
theorem dec_of_none (L : List UInt8) (h : Go.Num.scan 6 L 0 0 = none) : Go.Num.dec L = .error 1 := by
  unfold Go.Num.dec; rw [h]

theorem scan_end (k : Nat) (b : UInt8) (r : List UInt8) (acc i : Nat) (hb : b.toNat < 128) : Go.Num.scan (k + 1) (b :: r) acc i = some (acc + b.toNat % 128 * 128 ^ i, i) := by
  rw [Go.Num.scan, if_pos hb]
theorem scan_next (k : Nat) (b : UInt8) (r : List UInt8) (acc i : Nat) (hb : ¬ b.toNat < 128) : Go.Num.scan (k + 1) (b :: r) acc i = Go.Num.scan k r (acc + b.toNat % 128 * 128 ^ i) (i + 1) := by
  rw [Go.Num.scan, if_neg hb]

set_option maxHeartbeats 400000 in
set_option maxRecDepth 100000 in
theorem numR4 (p : Nat) (s : ByteArray) (tT : TypeId) (xT : Value) (tB : TypeId) (xB : Value) (w : World) (h : RdAt p w s .nilIface) (hs : s.size ≤ 1000000)
    (hT : w.cell? ⟨4, 0, none⟩ = some (.iface tT xT)) (hB : w.cell? ⟨0, 0, none⟩ = some (.iface tB xB)) :
    Calls Tryd.prog 58 #[.pointer (some ⟨p, 0, none⟩)] w fun r w' => NumRes p s tT xT tB xB r w' ∧ w.grownBy w' (some p) := by
  have H := hide h
  obtain ⟨c0, c1, f0, f1, lt⟩ := h
  have hs' : (s.size : Int) ≤ 1000000 := by omega
  go_enter Tryd.func58, Tryd.ntmps58
  go_wp2_with fail
  go_loop [3, 4] (fun a b => ∃ j acc : Nat, a = .int .i64 acc ∧ b = .int .i64 j ∧ j ≤ 6 ∧ j ≤ s.size ∧ acc < 128 ^ j ∧ Hid (Go.Num.scan 6 s.data.toList 0 0 = Go.Num.scan (6 - j) (s.data.toList.drop j) acc j)) (fun _ b => 6 - (intOf b).toNat)
  case atStart => exact ⟨0, 0, rfl, rfl, by omega, by omega, by simp, rfl⟩
  case round =>
    obtain ⟨j, acc, rfl, rfl, hj6, hjs, hacc, He⟩ := hrel
    by_cases hlt : j < s.size
    · have hlt' : decide ((j : Int) < s.size) = true := by simp; omega
      have hlt'' : (j : Int) < s.size := by omega
      by_cases h6 : j < 6
      · have h6' : (j : Int) < 6 := by omega
        have hw := byte_wrap s[j]
        have hsv := hide (step_val acc j s[j] h6 hacc)
        have he := He.out
        rw [dropL s j hlt, show 6 - j = (5 - j) + 1 by omega] at he
        by_cases hb : (s[j]).toNat < 128
        · have hb' : ((s[j]).toNat : Int) < 128 := by omega
          rw [scan_end _ _ _ _ _ hb] at he
          have hdec := dec_of_scan _ _ _ he
          rw [getL s j hlt] at hdec
          have Hdec := hide hdec
          clear he hdec He
          go_wp2_with fail
          rw [hsv.out]
          have HN := hide hacc
          clear hacc hw hsv
          generalize acc + (s[j]).toNat % 128 * 128 ^ j = N at *
          by_cases hz : 0 < j ∧ (s[j]).toNat = 0
          · refine (whole_zero p s _ j tT xT w H.out hT hlt hs hz.1 hz.2).mono ?_
            rintro e w1 ⟨rfl, h1, hb1⟩
            have H1 := hide h1
            have Hb1 := hide hb1
            clear h1 hb1
            have hfin : Go.Num.dec s.data.toList = .error 1 := by
              rw [Hdec.out, if_pos ⟨hz.1, congrArg some (UInt8.toNat_inj.1 (by simpa using hz.2))⟩]
            have Hfin := hide hfin
            clear hfin
            go_wp2
            go_ret
            refine ⟨?_, Hb1.out⟩
            unfold NumRes
            rw [Hfin.out]
            exact ⟨rfl, H1.out⟩
          · have hz' : ¬ (0 < j ∧ (some s[j]) = some (0 : UInt8)) := by
              rintro ⟨a1, a2⟩
              refine hz ⟨a1, ?_⟩
              rw [Option.some.inj a2]; rfl
            have hz2 : 0 < j → (s[j]).toNat ≠ 0 := fun a b => hz ⟨a, b⟩
            have hd := Hdec.out
            rw [if_neg hz'] at hd
            by_cases hN : 1099511627776 < N
            · rw [if_pos hN] at hd
              have Hfin := hide hd
              refine (whole_big p s N j tB xB w H.out hB hlt hs hN hz2).mono ?_
              rintro e w1 ⟨rfl, h1, hb1⟩
              have H1 := hide h1
              have Hb1 := hide hb1
              clear h1 hb1 hz hz' hz2 hd
              go_wp2
              go_ret
              refine ⟨?_, Hb1.out⟩
              unfold NumRes
              rw [Hfin.out]
              exact ⟨rfl, H1.out⟩
            · rw [if_neg hN] at hd
              have Hfin := hide hd
              refine (whole_ok p s N j w H.out (by omega) hlt hs hz2).mono ?_
              rintro e w1 ⟨rfl, h1, hb1⟩
              have H1 := hide h1
              have Hb1 := hide hb1
              clear h1 hb1 hz hz' hz2 hd
              go_wp2
              go_ret
              refine ⟨?_, Hb1.out⟩
              unfold NumRes
              rw [Hfin.out]
              exact ⟨rfl, H1.out⟩
        · have hb' : (128 : Int) ≤ ((s[j]).toNat : Int) := by omega
          rw [scan_next _ _ _ _ _ hb] at he
          have Hn := hide he
          have hl := step_lt acc j ((s[j]).toNat % 128) hacc (by omega)
          have Hl := hide hl
          clear he hl He
          go_wp2_with fail
          go_round
          case rel =>
            refine ⟨j + 1, acc + (s[j]).toNat % 128 * 128 ^ j, ?_, by go_num, by omega, by omega, Hl.out, ?_⟩
            · rw [hsv.out]
            · rw [show 6 - (j + 1) = 5 - j by omega]; exact Hn.out
          case measure => simp [intOf]; omega
      · have h6' : (6 : Int) ≤ j := by omega
        have hj : j = 6 := by omega
        have he := He.out
        rw [show 6 - j = 0 by omega, Go.Num.scan] at he
        have Hfin := hide (dec_of_none _ he)
        clear he He hj
        go_wp2_with fail
        refine (failR4 _ _ _ _ _ H.out).mono ?_
        rintro e w1 ⟨rfl, h1, hb1⟩
        have H1 := hide h1
        have Hb1 := hide hb1
        clear h1 hb1
        go_wp2
        go_ret
        refine ⟨?_, Hb1.out⟩
        unfold NumRes
        rw [Hfin.out]
        exact ⟨rfl, H1.out⟩
    · have hlt' : decide ((j : Int) < s.size) = false := by simp; omega
      have hlt'' : (s.size : Int) ≤ (j : Int) := by omega
      have he := He.out
      have hj : s.data.toList.drop j = [] := by rw [List.drop_eq_nil_iff, lenL]; omega
      have hk : Go.Num.scan (6 - j) [] acc j = none := by cases 6 - j <;> rfl
      rw [hj, hk] at he
      have Hfin := hide (dec_of_none _ he)
      clear he He hj hk
      go_wp2_with fail
      refine (failR4 _ _ _ _ _ H.out).mono ?_
      rintro e w1 ⟨rfl, h1, hb1⟩
      have H1 := hide h1
      have Hb1 := hide hb1
      clear h1 hb1
      go_wp2
      go_ret
      refine ⟨?_, Hb1.out⟩
      unfold NumRes
      rw [Hfin.out]
      exact ⟨rfl, H1.out⟩

theorem numR (p : Nat) (s : ByteArray) (tT : TypeId) (xT : Value) (tB : TypeId) (xB : Value) (w : World) (h : RdAt p w s .nilIface) (hs : s.size ≤ 1000000)
    (hT : w.cell? ⟨4, 0, none⟩ = some (.iface tT xT)) (hB : w.cell? ⟨0, 0, none⟩ = some (.iface tB xB)) :
    Calls Tryd.prog 58 #[.pointer (some ⟨p, 0, none⟩)] w fun r w' => NumRes p s tT xT tB xB r w' ∧ Below p w w' :=
  (numR4 p s tT xT tB xB w h hs hT hB).mono fun _ _ ⟨h1, h2⟩ => ⟨h1, grow_below h2 h.lt⟩
end Go.Proofs.YtcenohaadggdiacDoor

namespace Go.Proofs.YtcenohaadggdiacDoor
open Go.RowKit
open Go.Sign (Blk)

theorem dec_code {s : List UInt8} {c : Nat} (h : Go.Num.dec s = .error c) : c = 1 ∨ c = 2 := by
  unfold Go.Num.dec at h
  split at h
  · cases h; exact Or.inl rfl
  · split at h
    · cases h; exact Or.inl rfl
    · split at h
      · cases h; exact Or.inr rfl
      · cases h
theorem dec_num {s : List UInt8} {n k : Nat} (h : Go.Num.dec s = .ok (n, k)) : n ≤ 1099511627776 ∧ 1 ≤ k ∧ k ≤ s.length := by
  have hs : ∀ (f : Nat) (l : List UInt8) (acc i n j : Nat), Go.Num.scan f l acc i = some (n, j) → j < i + l.length := by
    intro f
    induction f with
    | zero => intro l acc i n j h; cases h
    | succ f ih =>
      intro l acc i n j h
      cases l with
      | nil => cases h
      | cons b r =>
        rw [Go.Num.scan] at h
        split at h
        · cases h; simp
        · have := ih _ _ _ _ _ h; simp; omega
  unfold Go.Num.dec at h
  split at h
  · cases h
  · rename_i n' i hsc
    split at h
    · cases h
    · split at h
      · cases h
      · cases h
        have := hs _ _ _ _ _ _ hsc
        omega

/-- A reader: what is left, or the number of its error. -/
abbrev St := Except Nat (List UInt8)
def RdSt (e : EV) (p : Nat) (w : World) : St → Prop
  | .ok l => ∃ s : ByteArray, s.data.toList = l ∧ RdAt p w s .nilIface
  | .error c => (c = 1 ∨ c = 2) ∧ RdAt p w ByteArray.empty (errV e c)
def numS : St → Nat × St
  | .error c => (0, .error c)
  | .ok l => match Go.Num.dec l with
    | .ok (n, k) => (n, .ok (l.drop k))
    | .error c => (0, .error c)
def lenS : St → Nat
  | .ok l => l.length
  | .error _ => 0
theorem numS_len (st : St) : lenS (numS st).2 ≤ lenS st := by
  cases st with
  | error c => exact Nat.le_refl _
  | ok l =>
    unfold numS
    simp only
    split
    · simp [lenS]
    · simp [lenS]
theorem numS_le (st : St) : (numS st).1 ≤ 1099511627776 := by
  cases st with
  | error c => simp [numS]
  | ok l =>
    unfold numS
    simp only
    split
    · rename_i n k h; exact (dec_num h).1
    · simp

theorem RdAt.below' {p : Nat} {w w' : World} {s : ByteArray} {x : Value} (h : RdAt p w s x) (hb : Below (p + 1) w w') : RdAt p w' s x :=
  ⟨(hb.cell (p := ⟨p, 0, none⟩) (by simp)).trans h.c0, (hb.cell (p := ⟨p, 1, none⟩) (by simp)).trans h.c1, (hb.frozen (p := ⟨p, 0, none⟩) (by simp)).trans h.f0, (hb.frozen (p := ⟨p, 1, none⟩) (by simp)).trans h.f1, Nat.lt_of_lt_of_le h.lt hb.size⟩
theorem RdSt.below' {e : EV} {p : Nat} {w w' : World} {st : St} (h : RdSt e p w st) (hb : Below (p + 1) w w') : RdSt e p w' st := by
  cases st with
  | ok l => obtain ⟨s, hs, h⟩ := h; exact ⟨s, hs, h.below' hb⟩
  | error c => exact ⟨h.1, h.2.below' hb⟩
theorem RdSt.lt {e : EV} {p : Nat} {w : World} {st : St} (h : RdSt e p w st) : p < w.heap.size := by
  cases st with
  | ok l => obtain ⟨s, hs, h⟩ := h; exact h.lt
  | error c => exact h.2.lt

/-- What only changes block p keeps the errors' variables. -/
theorem Er.grown {e : EV} {p : Nat} {w0 w w' : World} (h0 : Er e w0) (hp : w0.heap.size ≤ p) (h : Er e w) (hg : w.grownBy w' (some p)) : Er e w' := by
  have aux : ∀ (g : Nat) (v : Value), w0.cell? ⟨g, 0, none⟩ = some v → some (⟨g, 0, none⟩ : Addr).block ≠ some p := by
    intro g v hv q
    have hlt : g < w0.heap.size := World.block_lt_of_cell? _ _ hv
    have q' : g = p := Option.some.inj q
    omega
  exact ⟨hg.cell h.text (aux _ _ h0.text), hg.cell h.bound (aux _ _ h0.bound), hg.cell h.full (aux _ _ h0.full)⟩
theorem grow_alloc {p : Nat} {w w1 : World} (h : w.grownBy w1 (some p)) (o : Obj) : w.grownBy (w1.alloc o) (some p) :=
  ⟨h.os, h.tape, h.output, by have := h.size; simp; omega, fun k hk hn => (Below.heap_alloc _ _ _ (Nat.lt_of_lt_of_le hk h.size)).trans (h.block k hk hn)⟩
theorem grow_setNew {p q i : Nat} {w w1 : World} (h : w.grownBy w1 (some p)) (hq : w.heap.size ≤ q) (v : Value) : w.grownBy (w1.setCell ⟨q, i, none⟩ v) (some p) :=
  ⟨h.os, h.tape, h.output, by rw [World.size_setCell]; exact h.size, fun k hk hn => (Below.heap_setCell _ _ _ _ (by simp; omega)).trans (h.block k hk hn)⟩
theorem BkAt.grown {p q : Nat} {w w' : World} {b : Blk} (h : BkAt q w b) (hg : w.grownBy w' (some p)) (hq : q ≠ p) : BkAt q w' b := by
  have hb : w'.heap[q]? = w.heap[q]? := hg.block q h.lt (fun e => hq (by cases e; rfl))
  exact ⟨(World.cell?_of_block (a := ⟨q, 0, none⟩) hb).trans h.c0, (World.cell?_of_block (a := ⟨q, 1, none⟩) hb).trans h.c1, (World.cell?_of_block (a := ⟨q, 2, none⟩) hb).trans h.c2, (World.frozen?_of_block (a := ⟨q, 0, none⟩) hb).trans h.f0, (World.frozen?_of_block (a := ⟨q, 1, none⟩) hb).trans h.f1, (World.frozen?_of_block (a := ⟨q, 2, none⟩) hb).trans h.f2, Nat.lt_of_lt_of_le h.lt hg.size⟩
theorem own_grown {p n : Nat} {w w' : World} {e : TypeId} {size : Nat} {v : Value} {xs : List Value} (h : w.ownsRow (p + 1) e size v n xs) (hg : w.grownBy w' (some p)) : w'.ownsRow (p + 1) e size v n xs := by
  rcases h with ⟨h1, h2 | ⟨g, c, cur, e1, e2, e3, e4⟩⟩
  · exact ⟨h1, Or.inl h2⟩
  · refine ⟨h1, Or.inr ⟨g, c, cur, e1, e2, (hg.block g (Array.getElem?_eq_some_iff.1 e3).1 (fun q => by cases q; omega)).trans e3, e4⟩⟩

theorem failR_err (p : Nat) (s : ByteArray) (t t' : TypeId) (x x' : Value) (w : World) (h : RdAt p w s (.iface t x)) :
    Calls Tryd.prog 84 #[.pointer (some ⟨p, 0, none⟩), .iface t' x'] w fun r w' => r = .returned (.tuple #[]) ∧ w' = w := by
  obtain ⟨c0, c1, f0, f1, lt⟩ := h
  go_enter Tryd.func84, Tryd.ntmps84
  go_wp2
  go_end0
  exact ⟨rfl, rfl⟩

set_option maxHeartbeats 1000000 in
set_option maxRecDepth 100000 in
theorem numR_err (p : Nat) (t : TypeId) (x : Value) (tT : TypeId) (xT : Value) (w : World) (h : RdAt p w ByteArray.empty (.iface t x)) (hT : w.cell? ⟨4, 0, none⟩ = some (.iface tT xT)) :
    Calls Tryd.prog 58 #[.pointer (some ⟨p, 0, none⟩)] w fun r w' => r = .returned (.int .i64 0) ∧ w' = w := by
  have H := hide h
  obtain ⟨c0, c1, f0, f1, lt⟩ := h
  go_enter Tryd.func58, Tryd.ntmps58
  go_wp2_with fail
  go_loop [3, 4] (fun a b => a = .int .i64 0 ∧ b = .int .i64 0) (fun _ _ => 0)
  case atStart => exact ⟨rfl, rfl⟩
  case round =>
    obtain ⟨rfl, rfl⟩ := hrel
    go_wp2_with fail
    refine (failR_err _ _ _ _ _ _ _ H.out).mono ?_
    rintro e w1 ⟨rfl, rfl⟩
    go_wp2
    go_ret
    exact ⟨rfl, rfl⟩

theorem numSt (e : EV) (p : Nat) (st : St) (w : World) (h : RdSt e p w st) (hs : lenS st ≤ 1000000) (he : Er e w) :
    Calls Tryd.prog 58 #[.pointer (some ⟨p, 0, none⟩)] w fun r w' => r = .returned (.int .i64 (numS st).1) ∧ RdSt e p w' (numS st).2 ∧ w.grownBy w' (some p) := by
  cases st with
  | error c =>
    obtain ⟨hc, h⟩ := h
    obtain ⟨t, x, ev⟩ := errV_form e c (by omega)
    have h' := h
    rw [ev] at h'
    refine (numR_err p t x _ _ w h' he.text).mono ?_
    rintro r w' ⟨rfl, rfl⟩
    exact ⟨rfl, ⟨hc, h⟩, World.grownBy.refl _ _⟩
  | ok l =>
    obtain ⟨s, rfl, h⟩ := h
    refine (numR4 p s _ _ _ _ w h (by rw [← lenL]; exact hs) he.text he.bound).mono ?_
    rintro r w' ⟨hr, hg⟩
    unfold NumRes at hr
    unfold numS
    simp only
    split at hr
    · rename_i n k hd
      rw [hd]
      obtain ⟨rfl, hr⟩ := hr
      refine ⟨rfl, ⟨_, ?_, hr⟩, hg⟩
      rw [extractL]
      exact List.take_of_length_le (by rw [List.length_drop, lenL]; omega)
    · rename_i hd
      rw [hd]
      obtain ⟨rfl, hr⟩ := hr
      exact ⟨rfl, ⟨Or.inl rfl, hr⟩, hg⟩
    · rename_i c hc hd
      rw [hd]
      obtain ⟨rfl, hr⟩ := hr
      rcases dec_code hd with rfl | rfl
      · exact absurd rfl hc
      · exact ⟨rfl, ⟨Or.inr rfl, hr⟩, hg⟩

def endC : St → Nat
  | .error c => c
  | .ok l => if l = [] then 0 else 1

set_option maxHeartbeats 1000000 in
set_option maxRecDepth 100000 in
theorem endR_err (p : Nat) (t : TypeId) (x : Value) (w : World) (h : RdAt p w ByteArray.empty (.iface t x)) :
    Calls Tryd.prog 61 #[.pointer (some ⟨p, 0, none⟩)] w fun r w' => r = .returned (.iface t x) ∧ w' = w := by
  obtain ⟨c0, c1, f0, f1, lt⟩ := h
  go_enter Tryd.func61, Tryd.ntmps61
  go_wp2
  go_ret
  exact ⟨rfl, rfl⟩

set_option maxHeartbeats 1000000 in
set_option maxRecDepth 100000 in
theorem endR_ok (p : Nat) (w : World) (h : RdAt p w ByteArray.empty .nilIface) :
    Calls Tryd.prog 61 #[.pointer (some ⟨p, 0, none⟩)] w fun r w' => r = .returned .nilIface ∧ w' = w := by
  obtain ⟨c0, c1, f0, f1, lt⟩ := h
  go_enter Tryd.func61, Tryd.ntmps61
  go_wp2
  go_ret
  exact ⟨rfl, rfl⟩

set_option maxHeartbeats 1000000 in
set_option maxRecDepth 100000 in
theorem endR_left (p : Nat) (s : ByteArray) (t : TypeId) (x : Value) (w : World) (h : RdAt p w s .nilIface) (hs : s.data.toList ≠ []) (hT : w.cell? ⟨4, 0, none⟩ = some (.iface t x)) :
    Calls Tryd.prog 61 #[.pointer (some ⟨p, 0, none⟩)] w fun r w' => r = .returned (.iface t x) ∧ w.grownBy w' (some p) := by
  have H := hide h
  obtain ⟨c0, c1, f0, f1, lt⟩ := h
  have hne : s.toList.isEmpty = false := by
    rw [ByteArray.toList_eq]
    simpa using hs
  clear hs
  go_enter Tryd.func61, Tryd.ntmps61
  go_wp2_with fail
  refine (failR4 _ _ _ _ _ H.out).mono ?_
  rintro e w1 ⟨rfl, h1, hg1⟩
  have Hg1 := hide hg1
  clear hg1 c0 c1 f0 f1 lt
  obtain ⟨c0, c1, f0, f1, lt⟩ := h1
  go_wp2
  go_ret
  exact ⟨rfl, Hg1.out⟩

theorem endSt (e : EV) (p : Nat) (st : St) (w : World) (h : RdSt e p w st) (he : Er e w) :
    Calls Tryd.prog 61 #[.pointer (some ⟨p, 0, none⟩)] w fun r w' => r = .returned (errV e (endC st)) ∧ w.grownBy w' (some p) := by
  cases st with
  | error c =>
    obtain ⟨hc, h⟩ := h
    obtain ⟨t, x, ev⟩ := errV_form e c (by omega)
    rw [ev] at h
    refine (endR_err p t x w h).mono ?_
    rintro r w' ⟨rfl, rfl⟩
    exact ⟨by rw [endC, ev], World.grownBy.refl _ _⟩
  | ok l =>
    obtain ⟨s, rfl, h⟩ := h
    by_cases hl : s.data.toList = []
    · have hs : s = ByteArray.empty := ext_of_list (by rw [hl]; rfl)
      subst hs
      refine (endR_ok p w h).mono ?_
      rintro r w' ⟨rfl, rfl⟩
      exact ⟨by rw [endC, if_pos hl]; rfl, World.grownBy.refl _ _⟩
    · refine (endR_left p s _ _ w h hl he.text).mono ?_
      rintro r w' ⟨rfl, hg⟩
      exact ⟨by rw [endC, if_neg hl]; rfl, hg⟩

end Go.Proofs.YtcenohaadggdiacDoor
