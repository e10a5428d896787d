/-
  Contracts of sign.write, Text over this dump.
-/
import Derived.Test.YtgcpljgdeoeppabDoorCheck
import Derived.Test.YtgcpljgdeoeppabDoorDone
namespace Go.Proofs.YtgcpljgdeoeppabDoor
open Go.RowKit
open Go.Sign (Blk)

theorem WrAt.below {p : Nat} {w w' : World} {bs : List UInt8} {v : Value} (h : WrAt p w bs v) (hb : Below w.heap.size w w') : WrAt p w' bs v :=
  ⟨(hb.cell (p := ⟨p, 0, none⟩) h.lt).trans h.c0, (hb.cell (p := ⟨p, 1, none⟩) h.lt).trans h.c1, (hb.frozen (p := ⟨p, 0, none⟩) h.lt).trans h.f0, (hb.frozen (p := ⟨p, 1, none⟩) h.lt).trans h.f1, Nat.lt_of_lt_of_le h.lt hb.size, own_below h.own hb⟩

/-- A block as an object of the memory. -/
def BkObj (q : Nat) (w : World) (b : Blk) : Prop := w.heap[q]? = some (.cells #[.int .i64 b.n, .int .i64 b.weak, .int .u32 b.strong] 60 (0, 0))
theorem BkObj.fresh (w : World) (b : Blk) : BkObj w.heap.size (w.alloc (.cells #[.int .i64 b.n, .int .i64 b.weak, .int .u32 b.strong] 60)) b := by
  unfold BkObj
  show (w.heap.push _)[w.heap.size]? = _
  simp
theorem BkObj.kept {q p : Nat} {w w' : World} {b : Blk} (h : BkObj q w b) (hk : KeptT p w w') (hq : q ≠ p) : BkObj q w' b := hk _ _ _ _ hq (by decide) h
theorem BkObj.cells {q : Nat} {w : World} {b : Blk} (h : BkObj q w b) : w.cell? ⟨q, 0, none⟩ = some (.int .i64 b.n) ∧ w.cell? ⟨q, 1, none⟩ = some (.int .i64 b.weak) ∧ w.cell? ⟨q, 2, none⟩ = some (.int .u32 b.strong) := by
  unfold BkObj at h
  simp [World.cell?, h]

/-- The blocks may be written. -/
def WrOk (l : List Blk) : Prop := ∀ b ∈ l, (0 ≤ b.n ∧ b.n ≤ 64) ∧ (0 ≤ b.weak ∧ b.weak < 4294967296) ∧ b.strong < 4294967296

set_option maxHeartbeats 2000000 in
set_option maxRecDepth 100000 in
theorem write_ok (v : Value) (l : List Blk) (size : Nat) (w : World) (hv : RowIn w v l) (hs : size ≤ 64) (hl : l.length ≤ 10000) (hw : WrOk l) :
    Calls Tryd.prog 43 #[v, .int .i64 size] w fun r w' => r = .returned (.tuple #[.string (str (Go.Sign.encS l size)), .nilIface]) ∧ Below w.heap.size w w' := by
  obtain ⟨a, c, rfl, hv⟩ := hv
  have HV := hide hv
  have HW := hide hw
  have hl' : (l.length : Int) ≤ 10000 := by omega
  clear hv hw
  have hlen1 := Go.Num.enc_length_le size
  have hlen2 := Go.Num.enc_length_le l.length
  go_enter Tryd.func43, Tryd.ntmps43
  go_wp2_with fail
  refine (new_ok _).mono ?_
  rintro e w1 ⟨rfl, h1⟩
  have hf := WrAt.fresh w
  have hb : Below w.heap.size w (w.alloc (.cells #[.slice none 0 0, .nilIface] 116)) := (Below.refl _ _).alloc (Nat.le_refl _) _
  rw [h1] at hf hb
  have Hf := hide hf
  have Hb := hide hb
  clear hf hb h1
  go_wp2_with fail
  refine (num_ok w.heap.size size [] _ _ (by omega) (by simp) Hf.out).mono ?_
  rintro e w2 ⟨rfl, ⟨v2, h2⟩, hb2⟩
  have H2 := hide h2
  have Hb2 := hide (Hb.out.trans hb2)
  clear h2 hb2 Hf Hb
  go_wp2_with fail
  refine (num_ok w.heap.size l.length _ _ _ (by omega) (by simp; omega) H2.out).mono ?_
  rintro e w3 ⟨rfl, ⟨v3, h3⟩, hb3⟩
  have H3 := hide h3
  have Hb3 := hide (Hb2.out.trans hb3)
  clear h3 hb3 H2 Hb2
  go_wp2_with fail
  go_loopw [19] (fun t wr => ∃ j : Nat, t = .int .i64 j ∧ j ≤ l.length ∧ Hid (∃ v', WrAt w.heap.size wr (Go.Num.enc size ++ Go.Num.enc l.length ++ Go.Sign.encBs (l.take j)) v') ∧ Hid (Below w.heap.size w wr)) (fun t _ => l.length - (intOf t).toNat)
  case atStart => exact ⟨0, rfl, by omega, ⟨v3, by simpa [Go.Sign.encBs] using H3.out⟩, Hb3.out⟩
  case round =>
    clear H3 Hb3
    obtain ⟨j, rfl, hj, Hw, Hb⟩ := hrel
    by_cases hlt : j < l.length
    · have hlt' : (j : Int) < l.length := by omega
      obtain ⟨b, o, rfl, hc⟩ := HV.out (by omega)
      obtain ⟨c0, c1, c2⟩ := hc j hlt
      have d0 := (Hb.out.cell (World.block_lt_of_cell? _ _ c0)).trans c0
      have d1 := (Hb.out.cell (World.block_lt_of_cell? _ _ c1)).trans c1
      have d2 := (Hb.out.cell (World.block_lt_of_cell? _ _ c2)).trans c2
      clear hc c0 c1 c2
      have hok := HW.out l[j] (List.getElem_mem hlt)
      have Hsn := hide (List.take_succ_eq_append_getElem hlt)
      have hbl := Go.Sign.encBs_length (l.take j)
      generalize l[j] = bk at *
      obtain ⟨⟨n0, n1⟩, ⟨k0, k1⟩, s1⟩ := hok
      obtain ⟨bn, bw, bs⟩ := bk
      simp only at n0 n1 k0 k1 s1 d0 d1 d2
      obtain ⟨n, rfl⟩ := Int.eq_ofNat_of_zero_le n0
      obtain ⟨k, rfl⟩ := Int.eq_ofNat_of_zero_le k0
      have Henc : Hid (Go.Sign.encB ⟨(n : Int), (k : Int), bs⟩ = Go.Num.enc n ++ Go.Num.enc k ++ Go.Num.enc bs) := by simp [Hid, Go.Sign.encB]
      have hln := Go.Num.enc_length_le n
      have hlk := Go.Num.enc_length_le k
      have hbq : (bs : Int) < 4294967296 := by omega
      obtain ⟨v', hw4⟩ := Hw.out
      generalize hcur : Go.Num.enc size ++ Go.Num.enc l.length ++ Go.Sign.encBs (l.take j) = cur at hw4
      have hcl : cur.length ≤ 200000 := by rw [← hcur]; simp at hbl ⊢; omega
      have Hcur := hide hcur
      have hq := BkObj.fresh wr ⟨n, k, bs⟩
      have hwa := hw4.below ((Below.refl wr.heap.size wr).alloc (Nat.le_refl _) (.cells #[.int .i64 (n : Int), .int .i64 (k : Int), .int .u32 (bs : Int)] 60))
      have hba := Hb.out.alloc Hb.out.size (.cells #[.int .i64 (n : Int), .int .i64 (k : Int), .int .u32 (bs : Int)] 60)
      have hqp : wr.heap.size ≠ w.heap.size := by have := hw4.lt; omega
      have Hq := hide hq
      have Hwa := hide hwa
      have Hba := hide hba
      clear hcur hw4 hq hwa hba Hw Hb HV HW hbl
      go_wp2_with fail
      refine (num_ok4 w.heap.size n cur v' _ (by omega) (by omega) Hwa.out).mono ?_
      rintro e w4 ⟨rfl, ⟨v4, h4⟩, hb4, hk4⟩
      have hq4 := Hq.out.kept hk4 hqp
      have Hq4 := hide hq4
      have Hb4 := hide (Hba.out.trans hb4)
      have H4 := hide h4
      obtain ⟨q0, q1, q2⟩ := hq4.cells
      clear hq4 h4 hb4 hk4 Hq Hba Hwa d0 d1 d2
      go_wp2_with fail
      refine (num_ok4 w.heap.size k _ v4 _ (by omega) (by simp; omega) H4.out).mono ?_
      rintro e w5 ⟨rfl, ⟨v5, h5⟩, hb5, hk5⟩
      have hq5 := Hq4.out.kept hk5 hqp
      have Hb5 := hide (Hb4.out.trans hb5)
      have H5 := hide h5
      clear q0 q1 q2
      obtain ⟨q0, q1, q2⟩ := hq5.cells
      clear hq5 h5 hb5 hk5 Hq4 Hb4 H4
      go_wp2_with fail
      refine (num_ok w.heap.size bs _ v5 _ (by omega) (by simp; omega) H5.out).mono ?_
      rintro e w6 ⟨rfl, ⟨v6, h6⟩, hb6⟩
      have Hb6 := hide (Hb5.out.trans hb6)
      have H6 := hide h6
      clear q0 q1 q2 h6 hb6 Hb5 H5
      go_wp2_with fail
      go_roundw
      case rel =>
        refine ⟨j + 1, by go_num, by omega, ⟨v6, ?_⟩, Hb6.out⟩
        have h := H6.out
        rw [← Hcur.out] at h
        rw [Hsn.out, Go.Sign.encBs_snoc, Henc.out]
        simpa [List.append_assoc] using h
      case measure => simp [intOf]; omega
    · have hle : (l.length : Int) ≤ (j : Int) := by omega
      obtain ⟨v', hw'⟩ := Hw.out
      rw [List.take_of_length_le (by omega)] at hw'
      have Hw' := hide hw'
      clear hw'
      go_wp2_with fail
      refine (done_ok _ _ _ _ Hw'.out).mono ?_
      rintro e w4 ⟨rfl, rfl⟩
      generalize hE : str (Go.Num.enc size ++ Go.Num.enc l.length ++ Go.Sign.encBs l) = E
      have HE := hide hE
      clear hE
      go_wp2
      go_ret2
      exact ⟨by rw [← HE.out]; rfl, Hb.out⟩

set_option maxHeartbeats 1000000 in
set_option maxRecDepth 100000 in
theorem stext_err (a : Option Addr) (n c : Nat) (size at_ : Int) (t : TypeId) (x : Value) (w : World) (h : Calls Tryd.prog 42 #[.slice a n c, .int .i64 size] w fun r w' => r = .returned (.tuple #[.int .i64 at_, .iface t x]) ∧ Below w.heap.size w w') :
    Calls Tryd.prog 22 #[.slice a n c, .int .i64 size] w fun r w' => r = .returned (.tuple #[.string ByteArray.empty, .iface t x]) ∧ Below w.heap.size w w' := by
  have HW := hide h
  clear h
  go_enter Tryd.func22, Tryd.ntmps22
  go_wp2_with fail
  refine HW.out.mono ?_
  rintro e1 w1 ⟨rfl, hb1⟩
  have Hb1 := hide hb1
  clear hb1
  go_wp2
  go_ret2
  exact ⟨rfl, Hb1.out⟩

set_option maxHeartbeats 1000000 in
set_option maxRecDepth 100000 in
theorem stext_fine (a : Option Addr) (n c : Nat) (size at_ : Int) (E : ByteArray) (w : World) (h : Calls Tryd.prog 42 #[.slice a n c, .int .i64 size] w fun r w' => r = .returned (.tuple #[.int .i64 at_, .nilIface]) ∧ Below w.heap.size w w')
    (h2 : ∀ W, Below w.heap.size w W → Calls Tryd.prog 43 #[.slice a n c, .int .i64 size] W fun r w' => r = .returned (.tuple #[.string E, .nilIface]) ∧ Below W.heap.size W w') :
    Calls Tryd.prog 22 #[.slice a n c, .int .i64 size] w fun r w' => r = .returned (.tuple #[.string E, .nilIface]) ∧ Below w.heap.size w w' := by
  have HW := hide h
  have H2 := hide h2
  clear h h2
  go_enter Tryd.func22, Tryd.ntmps22
  go_wp2_with fail
  refine HW.out.mono ?_
  rintro e1 w1 ⟨rfl, hb1⟩
  have Hb1 := hide hb1
  clear hb1
  go_wp2_with fail
  refine (H2.out _ Hb1.out).mono ?_
  rintro e2 w2 ⟨rfl, hb2⟩
  have Hb2 := hide (bthen Hb1.out hb2)
  clear hb2 Hb1
  go_wp2
  go_ret2
  exact ⟨rfl, Hb2.out⟩

/-- What Text answers. -/
def stextOut (l : List Blk) (size : Int) : ByteArray := if (Go.Sign.fault l size).1 = 0 then str (Go.Sign.encS l size.toNat) else ByteArray.empty

theorem stext_ok (v : Value) (l : List Blk) (size : Int) (e : EV) (w : World) (hv : RowIn w v l) (hl : l.length ≤ 10000) (hst : ∀ b ∈ l, b.strong < 4294967296) (he : Er e w) :
    Calls Tryd.prog 22 #[v, .int .i64 size] w fun r w' => r = .returned (.tuple #[.string (stextOut l size), errV e (Go.Sign.fault l size).1]) ∧ Below w.heap.size w w' := by
  have HW := wrong_ok v l size e w hv (by omega) he
  have hv' := hv
  obtain ⟨a, cap, rfl, _⟩ := hv'
  unfold stextOut
  by_cases hc : (Go.Sign.fault l size).1 = 0
  · rw [if_pos hc, hc]
    rw [hc] at HW
    obtain ⟨⟨s1, s2⟩, hn⟩ := Go.Sign.fault_zero hc
    have ⟨h1, _⟩ := Go.Sign.scanW_none s1 l 0 0 hn
    obtain ⟨m, rfl⟩ := Int.eq_ofNat_of_zero_le (show 0 ≤ size by omega)
    refine stext_fine _ _ _ _ _ _ _ HW fun W hb => ?_
    exact write_ok _ l m W (hv.below hb) (by omega) hl fun b hb => ⟨⟨by have := h1 b hb; omega, by have := h1 b hb; omega⟩, ⟨(h1 b hb).2.2.1, (h1 b hb).2.2.2⟩, hst b hb⟩
  · rw [if_neg hc]
    obtain ⟨t, x, ev⟩ := errV_form e _ hc
    rw [ev]
    rw [ev] at HW
    exact stext_err _ _ _ _ _ _ _ _ HW
end Go.Proofs.YtgcpljgdeoeppabDoor
