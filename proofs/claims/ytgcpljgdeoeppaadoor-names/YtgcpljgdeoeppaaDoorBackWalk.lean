/-
  The walk of the law NumBack over the contracts.
-/
import Derived.Test.YtgcpljgdeoeppaaDoorTexts
namespace Go.Proofs.YtgcpljgdeoeppaaDoor
open Go.RowKit

theorem put_int (n : Int) (w : World) (h0 : 0 ≤ n) (hn : n ≤ 1099511627776) :
    Calls Tryd.prog 12 #[.int .i64 n] w fun e w' => e = .returned (.tuple #[.string (str (Go.Num.enc n.toNat)), .nilIface]) ∧ Below w.heap.size w w' := by
  obtain ⟨m, rfl⟩ := Int.eq_ofNat_of_zero_le h0
  rw [Int.toNat_natCast]
  exact put_ok m w (by omega)

/-- The two errors' variables hold errors. -/
structure Errs (w : World) (tT : TypeId) (xT : Value) (tB : TypeId) (xB : Value) : Prop where
  text : w.cell? ⟨0, 0, none⟩ = some (.iface tT xT)
  bound : w.cell? ⟨1, 0, none⟩ = some (.iface tB xB)

theorem Errs.below {w w' : World} {tT : TypeId} {xT : Value} {tB : TypeId} {xB : Value} (h : Errs w tT xT tB xB) (hb : Below w.heap.size w w') : Errs w' tT xT tB xB :=
  ⟨(hb.cell (p := ⟨0, 0, none⟩) (World.block_lt_of_cell? _ _ h.text)).trans h.text, (hb.cell (p := ⟨1, 0, none⟩) (World.block_lt_of_cell? _ _ h.bound)).trans h.bound⟩


/-- Get of a text that a number begins. -/
theorem get_enc (n : Nat) (s more : ByteArray) (tT : TypeId) (xT : Value) (tB : TypeId) (xB : Value) (w : World) (hn : n ≤ 1099511627776) (hs : s.size ≤ 1000000) (hd : s.data.toList = Go.Num.enc n ++ more.data.toList) (h : Errs w tT xT tB xB) :
    Calls Tryd.prog 16 #[.string s] w fun r w' => r = .returned (.tuple #[.int .i64 n, .string more, .nilIface]) ∧ Below w.heap.size w w' := by
  refine (get_any s tT xT tB xB w hs h.text h.bound).mono ?_
  rintro r w' ⟨hr, hb⟩
  refine ⟨?_, hb⟩
  unfold GetRes at hr
  rw [hd, Go.Num.dec_enc n hn] at hr
  rw [hr]
  have : s.extract (Go.Num.enc n).length s.size = more := by
    apply ByteArray.ext
    apply Array.ext'
    rw [ByteArray.data_extract, Array.toList_extract, hd, List.extract_eq_take_drop]
    simp
    apply List.take_of_length_le
    have := congrArg List.length hd
    rw [lenL] at this
    simp at this
    simp; omega
  rw [this]

set_option maxHeartbeats 400000 in
set_option maxRecDepth 100000 in
theorem numbered_ok (tT : TypeId) (xT : Value) (tB : TypeId) (xB : Value) (w : World) (h : Errs w tT xT tB xB) :
    Calls Tryd.prog 11 #[] w fun r w' => r = .returned (.bool true) ∧ Below w.heap.size w w' := by
  have H := hide h
  clear h
  go_enter Tryd.func11, Tryd.ntmps11
  go_wp2_with fail
  refine (put_int 300 _ (by omega) (by omega)).mono ?_
  rintro e w1 ⟨rfl, hb1⟩
  have H1 := hide (H.out.below hb1)
  have Hb1 := hide hb1
  clear hb1
  rw [show str (Go.Num.enc (300 : Int).toNat) = ⟨#[172, 2]⟩ from rfl]
  go_wp2_with fail
  refine (get_enc 300 _ ⟨#[120, 121]⟩ tT xT tB xB _ (by omega) (by decide) (by decide) H1.out).mono ?_
  rintro e w2 ⟨rfl, hb2⟩
  have Hb2 := hide hb2
  clear hb2
  go_wp2
  go_ret
  exact ⟨rfl, bthen Hb1.out Hb2.out⟩

/-- GetText of a text that a counted text begins. -/
theorem getText_enc (t s more : ByteArray) (tT : TypeId) (xT : Value) (tB : TypeId) (xB : Value) (w : World) (ht : t.size ≤ 20000) (hs : s.size ≤ 1000000) (hd : s.data.toList = Go.Num.enc t.size ++ t.data.toList ++ more.data.toList) (h : Errs w tT xT tB xB) :
    Calls Tryd.prog 18 #[.string s] w fun r w' => r = .returned (.tuple #[.string t, .string more, .nilIface]) ∧ Below w.heap.size w w' := by
  refine (getText_any s tT xT tB xB w hs h.text h.bound).mono ?_
  rintro r w' ⟨⟨n, r1, e, hr, rfl⟩, hb⟩
  refine ⟨?_, hb⟩
  have hdec := Go.Num.dec_enc t.size (by omega) (t.data.toList ++ more.data.toList)
  rw [← List.append_assoc, ← hd] at hdec
  have hls := congrArg List.length hd
  rw [lenL] at hls
  simp only [List.length_append, lenL] at hls
  rcases hr with ⟨k, h1, rfl, rfl⟩ | ⟨h1, _⟩ | ⟨⟨c, _, h1⟩, _⟩
  · rw [hdec] at h1
    simp only [Except.ok.injEq, Prod.mk.injEq] at h1
    obtain ⟨rfl, rfl⟩ := h1
    have hL : (s.extract (Go.Num.enc t.size).length s.size).data.toList = t.data.toList ++ more.data.toList := by
      rw [ByteArray.data_extract, Array.toList_extract, hd, List.extract_eq_take_drop, List.append_assoc, List.drop_left]
      apply List.take_of_length_le
      simp only [List.length_append, lenL]
      omega
    generalize hR : s.extract (Go.Num.enc t.size).length s.size = R at hL ⊢
    have hRs : R.size = t.size + more.size := by
      have := congrArg List.length hL
      rw [lenL] at this
      simpa [lenL] using this
    unfold TextOut
    rw [if_neg (by omega), if_neg (by omega)]
    have e1 : R.extract 0 t.size = t := by
      apply ByteArray.ext
      apply Array.ext'
      rw [ByteArray.data_extract, Array.toList_extract, hL, List.extract_eq_take_drop, List.drop_zero, Nat.sub_zero, ← lenL t, List.take_left]
    have e2 : R.extract t.size R.size = more := by
      apply ByteArray.ext
      apply Array.ext'
      rw [ByteArray.data_extract, Array.toList_extract, hL, List.extract_eq_take_drop, ← lenL t, List.drop_left]
      apply List.take_of_length_le
      rw [lenL, lenL]; omega
    rw [e1, e2]
  · rw [hdec] at h1; cases h1
  · rw [hdec] at h1; cases h1

theorem dataAppend (l : List UInt8) (t : ByteArray) : (str l ++ t).data.toList = l ++ t.data.toList := by
  rw [ByteArray.data_append, Array.toList_append]; rfl
theorem str_size (l : List UInt8) : (str l).size = l.length := by
  rw [← lenL]; rfl

theorem begins_eq (n m : Nat) (hn : n ≤ 1099511627776) (hm : m ≤ 1099511627776) (h : (str (Go.Num.enc m)).extract 0 (str (Go.Num.enc n)).size = str (Go.Num.enc n)) : n = m := by
  apply Go.Num.enc_prefix n m hn hm
  have : ((str (Go.Num.enc m)).extract 0 (str (Go.Num.enc n)).size).data.toList = (str (Go.Num.enc n)).data.toList := by rw [h]
  rw [ByteArray.data_extract, Array.toList_extract, List.extract_eq_take_drop, List.drop_zero, Nat.sub_zero, str_size] at this
  exact this

set_option maxHeartbeats 1000000 in
set_option maxRecDepth 100000 in
theorem back_main (n m : Nat) (s more : ByteArray) (tT : TypeId) (xT : Value) (tB : TypeId) (xB : Value) (w : World) (h : Errs w tT xT tB xB)
    (hn1 : (n : Int) ≤ 1099511627776) (hm1 : (m : Int) ≤ 1099511627776) (hs : (s.size : Int) ≤ 300) (hmore : (more.size : Int) ≤ 300) :
    Calls Tryd.prog 5 #[.int .i64 n, .int .i64 m, .string s, .string more] w fun r w' => r = .returned (.bool true) ∧ Below w.heap.size w w' := by
  have H := hide h
  clear h
  have b1 : decide ((n : Int) < 0) = false := by simp
  have b2 : decide ((1099511627776 : Int) < n) = false := by simp; omega
  have b3 : decide ((m : Int) < 0) = false := by simp
  have b4 : decide ((1099511627776 : Int) < m) = false := by simp; omega
  have b5 : decide ((300 : Int) < s.size) = false := by simp; omega
  have b6 : decide ((300 : Int) < more.size) = false := by simp; omega
  go_enter Tryd.func5, Tryd.ntmps5
  go_wp2_with fail
  refine (numbered_ok tT xT tB xB _ H.out).mono ?_
  rintro e w1 ⟨rfl, hb1⟩
  have H1 := hide (H.out.below hb1)
  have Hb1 := hide hb1
  clear hb1 H
  go_wp2_with fail
  refine (put_ok n _ (by omega)).mono ?_
  rintro e w2 ⟨rfl, hb2⟩
  have H2 := hide (H1.out.below hb2)
  have Hb2 := hide (bthen Hb1.out hb2)
  clear hb2 H1 Hb1
  go_wp2_with fail
  refine (put_ok m _ (by omega)).mono ?_
  rintro e w3 ⟨rfl, hb3⟩
  have H3 := hide (H2.out.below hb3)
  have Hb3 := hide (bthen Hb2.out hb3)
  clear hb3 H2 Hb2
  go_wp2_with fail
  refine (putText_ok s _ (by omega)).mono ?_
  rintro e w4 ⟨rfl, hb4⟩
  have H4 := hide (H3.out.below hb4)
  have Hb4 := hide (bthen Hb3.out hb4)
  clear hb4 H3 Hb3
  have dA := dataAppend (Go.Num.enc n) more
  have dS := dataAppend (Go.Num.enc s.size ++ s.data.toList) more
  have hbg := begins_eq n m (by omega) (by omega)
  have hsame : n = m → str (Go.Num.enc m) = str (Go.Num.enc n) := fun e => by rw [e]
  have hAs : (str (Go.Num.enc n)).size ≤ 6 := by rw [str_size]; exact Go.Num.enc_length_le n
  have hMs : (str (Go.Num.enc m)).size ≤ 6 := by rw [str_size]; exact Go.Num.enc_length_le m
  have hSs : (str (Go.Num.enc s.size ++ s.data.toList)).size ≤ 306 := by
    rw [str_size, List.length_append, lenL]; have := Go.Num.enc_length_le s.size; omega
  generalize str (Go.Num.enc n) = A at *
  generalize str (Go.Num.enc m) = M at *
  generalize str (Go.Num.enc s.size ++ s.data.toList) = S at *
  have DA := hide dA
  have DS := hide dS
  have HBG := hide hbg
  have HSM := hide hsame
  clear dA dS hbg hsame
  have hmoreN : more.size ≤ 300 := by omega
  go_wp2_with fail
  refine (get_enc n _ more tT xT tB xB _ (by omega) (by rw [ByteArray.size_append]; omega) DA.out H4.out).mono ?_
  rintro e w5 ⟨rfl, hb5⟩
  have H5 := hide (H4.out.below hb5)
  have Hb5 := hide (bthen Hb4.out hb5)
  clear hb5 H4 Hb4
  go_wp2_with fail
  refine (getText_enc s _ more tT xT tB xB _ (by omega) (by rw [ByteArray.size_append]; omega) DS.out H5.out).mono ?_
  rintro e w6 ⟨rfl, hb6⟩
  have Hb6 := hide (bthen Hb5.out hb6)
  clear hb6 H5 Hb5
  go_wp2_with fail
  all_goals go_ret
  · refine ⟨ret_bool (a := ((M.extract 0 A.size).toList == A.toList) == ((n : Int) == (m : Int))) ?_, Hb6.out⟩
    by_cases e : n = m
    · have hMA := HSM.out e
      subst e
      subst hMA
      rw [show M.extract 0 M.size = M from ByteArray.extract_zero_size]
      simp
    · have h1 : ((n : Int) == (m : Int)) = false := by simp; omega
      have h2 : ((M.extract 0 A.size).toList == A.toList) = false := by
        rw [beq_eq_false_iff_ne]
        intro h
        exact e (HBG.out (bytes_ext h))
      rw [h1, h2]; rfl
  · refine ⟨ret_bool (a := !((n : Int) == (m : Int))) ?_, Hb6.out⟩
    have h1 : ((n : Int) == (m : Int)) = false := by
      rw [beq_eq_false_iff_ne]
      intro h
      have e : n = m := by omega
      have hMA := HSM.out e
      subst hMA
      omega
    rw [h1]; rfl

set_option maxHeartbeats 1000000 in
set_option maxRecDepth 100000 in
/-- Where the law asks nothing. -/
theorem back_out (n m : Int) (s more : ByteArray) (tT : TypeId) (xT : Value) (tB : TypeId) (xB : Value) (w : World) (h : Errs w tT xT tB xB)
    (hout : n < 0 ∨ 1099511627776 < n ∨ m < 0 ∨ 1099511627776 < m ∨ (300 : Int) < s.size ∨ (300 : Int) < more.size) :
    Calls Tryd.prog 5 #[.int .i64 n, .int .i64 m, .string s, .string more] w fun r w' => r = .returned (.bool true) ∧ Below w.heap.size w w' := by
  have H := hide h
  have HO := hide hout
  clear h hout
  go_enter Tryd.func5, Tryd.ntmps5
  go_wp2_with fail
  refine (numbered_ok tT xT tB xB _ H.out).mono ?_
  rintro e w1 ⟨rfl, hb1⟩
  have Hb1 := hide hb1
  clear hb1 H
  by_cases a1 : n < 0
  · have b1 : decide (n < 0) = true := by simp; omega
    clear HO
    go_wp2_with fail
    go_ret
    exact ⟨rfl, Hb1.out⟩
  have b1 : decide (n < 0) = false := by simp; omega
  by_cases a2 : 1099511627776 < n
  · have b2 : decide (1099511627776 < n) = true := by simp; omega
    clear HO a1
    go_wp2_with fail
    go_ret
    exact ⟨rfl, Hb1.out⟩
  have b2 : decide (1099511627776 < n) = false := by simp; omega
  by_cases a3 : m < 0
  · have b3 : decide (m < 0) = true := by simp; omega
    clear HO a1 a2
    go_wp2_with fail
    go_ret
    exact ⟨rfl, Hb1.out⟩
  have b3 : decide (m < 0) = false := by simp; omega
  by_cases a4 : 1099511627776 < m
  · have b4 : decide (1099511627776 < m) = true := by simp; omega
    clear HO a1 a2 a3
    go_wp2_with fail
    go_ret
    exact ⟨rfl, Hb1.out⟩
  have b4 : decide (1099511627776 < m) = false := by simp; omega
  by_cases a5 : (300 : Int) < s.size
  · have b5 : decide ((300 : Int) < s.size) = true := by simp; omega
    clear HO a1 a2 a3 a4
    go_wp2_with fail
    go_ret
    exact ⟨rfl, Hb1.out⟩
  have b5 : decide ((300 : Int) < s.size) = false := by simp; omega
  have a6 : (300 : Int) < more.size := by
    have := HO.out; omega
  have b6 : decide ((300 : Int) < more.size) = true := by simp; omega
  clear HO a1 a2 a3 a4 a5
  go_wp2_with fail
  go_ret
  exact ⟨rfl, Hb1.out⟩

theorem back_any (n m : Int) (s more : ByteArray) (tT : TypeId) (xT : Value) (tB : TypeId) (xB : Value) (w : World) (h : Errs w tT xT tB xB) :
    Calls Tryd.prog 5 #[.int .i64 n, .int .i64 m, .string s, .string more] w fun r w' => r = .returned (.bool true) ∧ Below w.heap.size w w' := by
  by_cases hout : n < 0 ∨ 1099511627776 < n ∨ m < 0 ∨ 1099511627776 < m ∨ (300 : Int) < s.size ∨ (300 : Int) < more.size
  · exact back_out n m s more tT xT tB xB w h hout
  · obtain ⟨n', rfl⟩ := Int.eq_ofNat_of_zero_le (show 0 ≤ n by omega)
    obtain ⟨m', rfl⟩ := Int.eq_ofNat_of_zero_le (show 0 ≤ m by omega)
    exact back_main n' m' s more tT xT tB xB w h (by omega) (by omega) (by omega) (by omega)
end Go.Proofs.YtgcpljgdeoeppaaDoor
