/-
  Contract of the document's ReadOps over this dump: every text.
-/
import Derived.Test.YtcenohaadggdiacGreatDoorRefOFault
import Derived.Test.YtcenohaadggdiacGreatDoorJoin20
import Derived.Test.YtcenohaadggdiacGreatDoorJoin16
namespace Go.Proofs.YtcenohaadggdiacGreatDoor
open Go.RowKit
open Go.Delta (Opx copyOp dataOp rdO rdOs rdA rdD txt aheadO kCopy kData noBytes)

theorem num_dropD {L : List UInt8} {x n k : Nat} (h : Go.Num.dec (L.drop x) = .ok (n, k)) : Go.Sign.num (L.drop x) = .ok (n, L.drop (x + k)) := by
  rw [Go.Sign.num, h]
  simp [List.drop_drop]
theorem num_dropED {L : List UInt8} {x c : Nat} (h : Go.Num.dec (L.drop x) = .error c) : Go.Sign.num (L.drop x) = .error c := by
  rw [Go.Sign.num, h]
theorem numOf_errD (s : ByteArray) (x c : Nat) (w : World) (hs : s.size ≤ 1000000) (hx : x ≤ s.size) (h : Go.Num.dec (s.data.toList.drop x) = .error c) :
    Calls Tryz.prog 33 #[.string s, .int .i64 x] w fun r w' => r = .returned (.tuple #[.int .i64 0, .int .i64 x, .int .i64 c]) ∧ w' = w := by
  have := numOf_ok s x w hs hx
  rw [numOfOut, h] at this
  exact this
theorem numOf_numD (s : ByteArray) (x n k : Nat) (w : World) (hs : s.size ≤ 1000000) (hx : x ≤ s.size) (h : Go.Num.dec (s.data.toList.drop x) = .ok (n, k)) :
    Calls Tryz.prog 33 #[.string s, .int .i64 x] w fun r w' => r = .returned (.tuple #[.int .i64 n, .int .i64 ((x + k : Nat) : Int), .int .i64 0]) ∧ w' = w := by
  have := numOf_ok s x w hs hx
  rw [numOfOut, h] at this
  exact this
/-- What TextOf answers is the text at that place. -/
theorem txt_of (s : ByteArray) (x : Nat) (hx : x ≤ s.size) :
    (∃ d y, textOfOut s x = (d, y, 0) ∧ x < y ∧ y ≤ s.size ∧ d.size ≤ s.size ∧ txt (s.data.toList.drop x) = .ok (d.data.toList, s.data.toList.drop y)) ∨
    (∃ d y c, textOfOut s x = (d, y, c) ∧ (c = 1 ∨ c = 2) ∧ txt (s.data.toList.drop x) = .error c) := by
  unfold textOfOut numOfOut
  cases h : Go.Num.dec (s.data.toList.drop x) with
  | error c =>
    have hc := dec_err _ _ h
    right
    refine ⟨ByteArray.empty, x, c, ?_, hc, ?_⟩
    · simp only
      rw [if_pos (by omega)]
    · rw [txt, Go.Sign.num, h]
  | ok p =>
    obtain ⟨n, k⟩ := p
    have hd := dec_num h
    rw [List.length_drop, lenL] at hd
    have e : txt (s.data.toList.drop x) = if 20000 < n then .error 2 else if s.size - (x + k) < n then .error 1 else .ok ((s.data.toList.drop (x + k)).take n, s.data.toList.drop (x + k + n)) := by
      rw [txt, num_dropD h]
      simp only [List.length_drop, lenL, List.drop_drop]
    rw [e]
    simp only
    rw [if_neg (by omega)]
    by_cases h1 : 20000 < n
    · right
      rw [if_pos h1, if_pos h1]
      exact ⟨_, _, 2, rfl, Or.inr rfl, rfl⟩
    · rw [if_neg h1, if_neg h1]
      by_cases h2 : s.size - (x + k) < n
      · right
        rw [if_pos h2, if_pos h2]
        exact ⟨_, _, 1, rfl, Or.inl rfl, rfl⟩
      · left
        rw [if_neg h2, if_neg h2]
        refine ⟨_, _, rfl, by omega, by omega, by rw [ByteArray.size_extract]; omega, ?_⟩
        rw [extractL, show x + k + n - (x + k) = n by omega]

/-- What ReadOps answers. -/
def RORes (base : Nat) (w' : World) (r : Ending) : Except Nat (List Opx) → Prop
  | .ok l => ∃ v, r = .returned (.tuple #[v, .int .i64 0]) ∧ w'.ownsRow base 44 4 v l.length (ocs l)
  | .error c => r = .returned (.tuple #[.slice none 0 0, .int .i64 c])
/-- All behind the first number. -/
def behindO (R : Except Nat (List Opx × List UInt8)) : Except Nat (List Opx) :=
  match finO R with
  | .error c => .error c
  | .ok l => if (Go.Delta.faultO l).1 = 0 then .ok l else .error (Go.Delta.faultO l).1
theorem rdD_behind {L : List UInt8} {m k : Nat} (hl : L.length ≤ 20000) (h : Go.Num.dec (L.drop 0) = .ok (m, k)) : rdD L = behindO (rdOs m (L.drop k)) := by
  have e1 := num_dropD h
  rw [List.drop_zero, Nat.zero_add] at e1
  unfold rdD rdA behindO
  rw [if_neg (by omega), e1]
  simp only []
  cases rdOs m (L.drop k) with
  | error c => rfl
  | ok x => rfl
theorem rdD_err {L : List UInt8} {c : Nat} (hl : L.length ≤ 20000) (h : Go.Num.dec (L.drop 0) = .error c) : rdD L = .error c := by
  have e1 := num_dropED h
  rw [List.drop_zero] at e1
  rw [rdD, rdA, if_neg (by omega), e1]
theorem rdD_long {L : List UInt8} (hl : 20000 < L.length) : rdD L = .error 2 := by
  rw [rdD, rdA, if_pos hl]
theorem rdO_data {s s1 d r : List UInt8} (h1 : Go.Sign.num s = .ok (1, s1)) (h2 : txt s1 = .ok (d, r)) : rdO s = .ok (dataOp d, r) := by
  rw [rdO, h1]
  simp only []
  rw [if_pos trivial, h2]
theorem rdO_dataE {s s1 : List UInt8} {c : Nat} (h1 : Go.Sign.num s = .ok (1, s1)) (h2 : txt s1 = .error c) : rdO s = .error c := by
  rw [rdO, h1]
  simp only []
  rw [if_pos trivial, h2]
theorem rdO_kind {s s1 : List UInt8} {k : Nat} (h1 : Go.Sign.num s = .ok (k, s1)) (h : k ≠ 0) (h' : k ≠ 1) : rdO s = .error 1 := by
  rw [rdO, h1]
  simp only []
  rw [if_neg h', if_neg h]
theorem rdO_copy {s s1 s2 r : List UInt8} {a n : Nat} (h1 : Go.Sign.num s = .ok (0, s1)) (h2 : Go.Sign.num s1 = .ok (a, s2)) (h3 : Go.Sign.num s2 = .ok (n, r)) : rdO s = .ok (copyOp a n, r) := by
  rw [rdO, h1]
  simp only []
  rw [if_neg (by decide), if_pos trivial, h2]
  simp only []
  rw [h3]
theorem rdO_copyE1 {s s1 : List UInt8} {c : Nat} (h1 : Go.Sign.num s = .ok (0, s1)) (h2 : Go.Sign.num s1 = .error c) : rdO s = .error c := by
  rw [rdO, h1]
  simp only []
  rw [if_neg (by decide), if_pos trivial, h2]
theorem rdO_copyE2 {s s1 s2 : List UInt8} {a c : Nat} (h1 : Go.Sign.num s = .ok (0, s1)) (h2 : Go.Sign.num s1 = .ok (a, s2)) (h3 : Go.Sign.num s2 = .error c) : rdO s = .error c := by
  rw [rdO, h1]
  simp only []
  rw [if_neg (by decide), if_pos trivial, h2]
  simp only []
  rw [h3]
theorem rdO_err {s : List UInt8} {c : Nat} (h1 : Go.Sign.num s = .error c) : rdO s = .error c := by rw [rdO, h1]

set_option maxHeartbeats 1000000 in
set_option maxRecDepth 100000 in
theorem rops_long (s : ByteArray) (w : World) (hs : s.size ≤ 1000000) (hl : 20000 < s.size) :
    Calls Tryz.prog 17 #[.string s] w fun r w' => r = .returned (.tuple #[.slice none 0 0, .int .i64 2]) ∧ Below w.heap.size w w' := by
  have hl' : (20000 : Int) < s.size := by omega
  have hs' : (s.size : Int) ≤ 1000000 := by omega
  go_enter Tryz.func17, Tryz.ntmps17
  go_wp2_with fail
  go_ret2
  exact ⟨rfl, Below.refl _ _⟩

set_option maxHeartbeats 1000000 in
set_option maxRecDepth 100000 in
theorem rops_err (s : ByteArray) (c : Nat) (w : World) (hs : s.size ≤ 20000) (h1 : Go.Num.dec (s.data.toList.drop 0) = .error c) :
    Calls Tryz.prog 17 #[.string s] w fun r w' => r = .returned (.tuple #[.slice none 0 0, .int .i64 c]) ∧ Below w.heap.size w w' := by
  have hc := dec_err _ _ h1
  have H1 := hide (fun W => numOf_errD s 0 c W (by omega) (by omega) h1)
  have hc' : 0 < c := by omega
  have hs' : (s.size : Int) ≤ 20000 := by omega
  clear h1 hc
  go_enter Tryz.func17, Tryz.ntmps17
  go_wp2_with fail
  refine (H1.out _).mono ?_
  rintro r w1 ⟨rfl, rfl⟩
  go_wp2_with fail
  go_ret2
  exact ⟨rfl, Below.refl _ _⟩

set_option maxHeartbeats 4000000 in
set_option maxRecDepth 100000 in
theorem rops_main (s : ByteArray) (m k0 : Nat) (w : World) (hs : s.size ≤ 20000) (h1 : Go.Num.dec (s.data.toList.drop 0) = .ok (m, k0)) :
    Calls Tryz.prog 17 #[.string s] w fun r w' => RORes w.heap.size w' r (behindO (rdOs m (s.data.toList.drop k0))) ∧ Below w.heap.size w w' := by
  obtain ⟨i0, hi, hz0, hz1, hz2⟩ := info_parts Tryz.info44
  have hd1 := dec_num h1
  rw [List.drop_zero, lenL] at hd1
  have H1 := hide (fun W => numOf_numD s 0 m k0 W (by omega) (by omega) h1)
  rw [Nat.zero_add] at H1
  have hm : (m : Int) ≤ 1099511627776 := by omega
  have hs' : (s.size : Int) ≤ 20000 := by omega
  have hk : k0 ≤ s.size := by omega
  have hk' : (k0 : Int) ≤ s.size := by omega
  generalize hR : behindO (rdOs m (s.data.toList.drop k0)) = R
  have HR := hide hR
  clear h1 hR hd1
  go_enter Tryz.func17, Tryz.ntmps17
  go_wp2_with fail
  refine (H1.out _).mono ?_
  rintro r w2 ⟨rfl, rfl⟩
  go_wp2_with fail
  clear H1
  go_loopw [5, 7, 8] (fun t5 t7 t8 wr => ∃ (x i : Nat) (l : List Opx), t5 = .int .i64 x ∧ t8 = .int .i64 i ∧ x ≤ s.size ∧ i ≤ m ∧ Hid (i = l.length) ∧ i ≤ x ∧ Hid (∀ o ∈ l, o.data.size ≤ 1000000) ∧ Hid (wr.ownsRow w2.heap.size 44 4 t7 l.length (ocs l)) ∧ Hid (Below w2.heap.size w2 wr) ∧ Hid (behindO (aheadO l (rdOs (m - i) (s.data.toList.drop x))) = R)) (fun _ _ t8 _ => m - (intOf t8).toNat)
  case atStart => exact ⟨k0, 0, [], rfl, rfl, hk, by omega, rfl, by omega, (fun o ho => by cases ho), World.ownsRow_nil _ _ _ _, Below.refl _ _, by rw [Go.Delta.aheadO_nil, Nat.sub_zero]; exact HR.out⟩
  case round =>
    clear HR
    obtain ⟨x, i, l, rfl, rfl, hx, hin, Hil, hix, Hsh, Hown, Hb, HI⟩ := hrel
    by_cases hlt : i < m
    · have hlt' : (i : Int) < m := by omega
      have hA0 := HI.out
      rw [show m - i = (m - i - 1) + 1 by omega] at hA0
      have HA0 := hide hA0
      have Hnx : Hid (m - i - 1 = m - (i + 1)) := by simp only [Hid]; omega
      clear HI hA0
      cases hd : Go.Num.dec (s.data.toList.drop x) with
      | error e =>
        have HN := hide (fun W => numOf_errD s x e W (by omega) hx hd)
        have he := dec_err _ _ hd
        have hA := HA0.out
        rw [Go.Delta.aheadO_error (rdO_err (num_dropED hd))] at hA
        have hA' : R = .error e := hA.symm
        subst hA'
        have he' : 0 < e := by omega
        clear hd he hA HA0
        go_wp2_with fail
        refine (HN.out _).mono ?_
        rintro r w4 ⟨rfl, rfl⟩
        go_wp2_with fail
        go_ret2
        exact ⟨rfl, Hb.out⟩
      | ok pr =>
        obtain ⟨kd, j⟩ := pr
        have hnj := dec_num hd
        rw [List.length_drop, lenL] at hnj
        have HN := hide (fun W => numOf_numD s x kd j W (by omega) hx hd)
        have Hd := hide (num_dropD hd)
        have hkd : (kd : Int) ≤ 1099511627776 := by omega
        clear hd
        obtain ⟨x1, hx1⟩ : ∃ x1, x1 = x + j := ⟨_, rfl⟩
        rw [← hx1] at HN Hd
        have hx1s : x1 ≤ s.size := by omega
        have hx1x : x + 1 ≤ x1 := by omega
        clear hx1 hnj
        by_cases k1 : kd = 1
        · subst k1
          rcases txt_of s x1 hx1s with ⟨d, y, ht, hxy, hys, hds, htx⟩ | ⟨d, y, c, ht, hc, htx⟩
          · have HT := hide (fun W => textOf_ok s x1 W (by omega) hx1s)
            rw [ht] at HT
            simp only at HT
            have hA := HA0.out
            rw [Go.Delta.aheadO_ok (rdO_data Hd.out htx), Hnx.out] at hA
            have HA := hide hA
            have hst : str d.data.toList = d := ext_of_list (strL _)
            have Hop : Hid (dataOp d.data.toList = ⟨kData, 0, 0, d⟩) := by simp only [Hid, dataOp, hst]
            have hll : l.length ≤ 20000 := by have := Hil.out; omega
            clear ht htx hA HA0 hst Hd
            go_wp2_with fail
            refine (HN.out _).mono ?_
            rintro r w4 ⟨rfl, rfl⟩
            go_wp2_with fail
            refine (HT.out _).mono ?_
            rintro r w4 ⟨rfl, rfl⟩
            clear HN HT
            go_wp2_with (first | (at_builtin; refine wpList_append_own _ rfl (.tmp 59) (.tmp 62) 23 rfl w2.heap.size 44 i0 (.agg #[.string ⟨#[]⟩, .int .i64 0, .int .i64 0, .string ⟨#[]⟩]) 4 48 Tryz.underlying23 hi hz0 hz1 hz2 rfl (by decide) u7 l.length (ocs l) rfl ?own ⟨w4.heap.size, 0, none⟩ 1 1 [.string ⟨#[100, 97, 116, 97]⟩, .int .i64 0, .int .i64 0, .string d] rfl rfl ?c1 ?c2 ?b1 ?b2 ?b3 ?next))
            case own => exact Hown.out.alloc _
            case c1 => intro j u hj; match j, hj with | 0, hj | 1, hj | 2, hj | 3, hj => simp at hj; subst hj; simp [Addr.add]
            case c2 => intro u hu; simp at hu; rcases hu with rfl | rfl | rfl | rfl <;> rfl
            case b1 => unfold maxLen; omega
            case b2 => omega
            case b3 => have := Hb.out.size; simp; omega
            case next =>
              intro v5 w5 hown5 hgrow5 _
              have hb5 : Below w2.heap.size w4 w5 := ((Below.refl _ _).alloc Hb.out.size _).grown hgrow5 (by have := Hb.out.size; simp; omega) (fun k hk => (Hown.out.lt k hk).1)
              have Hb5 := hide (Hb.out.trans hb5)
              have Hown5 := hide hown5
              clear hb5 hown5 hgrow5 Hown Hb
              go_wp2_with fail
              go_roundw
              case rel =>
                refine ⟨y, i + 1, l ++ [dataOp d.data.toList], rfl, by go_num, hys, by omega, by have := Hil.out; simp [Hid]; omega, by omega, ?_, ?_, Hb5.out, HA⟩
                · intro o ho
                  rcases List.mem_append.1 ho with ho | ho
                  · exact Hsh.out o ho
                  · simp only [List.mem_singleton] at ho
                    rw [ho, Hop.out]
                    simp only
                    omega
                · have h := Hown5.out
                  rw [show [Value.string ⟨#[100, 97, 116, 97]⟩, .int .i64 0, .int .i64 0, .string d] = ocells ⟨kData, 0, 0, d⟩ from rfl, ← ocs_snoc] at h
                  rw [Hop.out]
                  simpa [Hid] using h
              case measure => simp [intOf]; omega
          · have HT := hide (fun W => textOf_ok s x1 W (by omega) hx1s)
            rw [ht] at HT
            simp only at HT
            have hA := HA0.out
            rw [Go.Delta.aheadO_error (rdO_dataE Hd.out htx)] at hA
            have hA' : R = .error c := hA.symm
            subst hA'
            have hc' : 0 < c := by omega
            clear ht htx hA HA0 hc Hd
            go_wp2_with fail
            refine (HN.out _).mono ?_
            rintro r w4 ⟨rfl, rfl⟩
            go_wp2_with fail
            refine (HT.out _).mono ?_
            rintro r w4 ⟨rfl, rfl⟩
            go_wp2_with fail
            go_ret2
            exact ⟨rfl, Hb.out⟩
        · have c1 : ((kd : Int) == 1) = false := by simp; omega
          by_cases k0 : kd = 0
          · subst k0
            clear k1 c1
            cases hd2 : Go.Num.dec (s.data.toList.drop x1) with
            | error e =>
              have HN2 := hide (fun W => numOf_errD s x1 e W (by omega) hx1s hd2)
              have he := dec_err _ _ hd2
              have hA := HA0.out
              rw [Go.Delta.aheadO_error (rdO_copyE1 Hd.out (num_dropED hd2))] at hA
              have hA' : R = .error e := hA.symm
              subst hA'
              have he' : 0 < e := by omega
              clear hd2 he hA HA0 Hd
              go_wp2_with fail
              refine (HN.out _).mono ?_
              rintro r w4 ⟨rfl, rfl⟩
              go_wp2_with fail
              refine (HN2.out _).mono ?_
              rintro r w4 ⟨rfl, rfl⟩
              go_wp2_with fail
              go_ret2
              exact ⟨rfl, Hb.out⟩
            | ok pr2 =>
              obtain ⟨at_, j2⟩ := pr2
              have hnj2 := dec_num hd2
              rw [List.length_drop, lenL] at hnj2
              have HN2 := hide (fun W => numOf_numD s x1 at_ j2 W (by omega) hx1s hd2)
              have Hd2 := hide (num_dropD hd2)
              clear hd2
              obtain ⟨x2, hx2⟩ : ∃ x2, x2 = x1 + j2 := ⟨_, rfl⟩
              rw [← hx2] at HN2 Hd2
              have hx2s : x2 ≤ s.size := by omega
              have hx2x : x1 ≤ x2 := by omega
              have hat : (at_ : Int) ≤ 1099511627776 := by omega
              clear hx2 hnj2
              cases hd3 : Go.Num.dec (s.data.toList.drop x2) with
              | error e =>
                have HN3 := hide (fun W => numOf_errD s x2 e W (by omega) hx2s hd3)
                have he := dec_err _ _ hd3
                have hA := HA0.out
                rw [Go.Delta.aheadO_error (rdO_copyE2 Hd.out Hd2.out (num_dropED hd3))] at hA
                have hA' : R = .error e := hA.symm
                subst hA'
                have he' : 0 < e := by omega
                clear hd3 he hA HA0 Hd Hd2
                go_wp2_with fail
                refine (HN.out _).mono ?_
                rintro r w4 ⟨rfl, rfl⟩
                go_wp2_with fail
                refine (HN2.out _).mono ?_
                rintro r w4 ⟨rfl, rfl⟩
                go_wp2_with fail
                refine (HN3.out _).mono ?_
                rintro r w4 ⟨rfl, rfl⟩
                go_wp2_with fail
                go_ret2
                exact ⟨rfl, Hb.out⟩
              | ok pr3 =>
                obtain ⟨n, j3⟩ := pr3
                have hnj3 := dec_num hd3
                rw [List.length_drop, lenL] at hnj3
                have HN3 := hide (fun W => numOf_numD s x2 n j3 W (by omega) hx2s hd3)
                have hA := HA0.out
                rw [Go.Delta.aheadO_ok (rdO_copy Hd.out Hd2.out (num_dropD hd3)), Hnx.out] at hA
                have HA := hide hA
                clear hd3 hA HA0 Hd Hd2
                obtain ⟨x3, hx3⟩ : ∃ x3, x3 = x2 + j3 := ⟨_, rfl⟩
                rw [← hx3] at HN3 HA
                have hx3s : x3 ≤ s.size := by omega
                have hx3x : x2 ≤ x3 := by omega
                have hnn : (n : Int) ≤ 1099511627776 := by omega
                have hll : l.length ≤ 20000 := by have := Hil.out; omega
                clear hx3 hnj3
                go_wp2_with fail
                refine (HN.out _).mono ?_
                rintro r w4 ⟨rfl, rfl⟩
                go_wp2_with fail
                refine (HN2.out _).mono ?_
                rintro r w4 ⟨rfl, rfl⟩
                go_wp2_with fail
                refine (HN3.out _).mono ?_
                rintro r w4 ⟨rfl, rfl⟩
                clear HN HN2 HN3
                go_wp2_with (first | (at_builtin; refine wpList_append_own _ rfl (.tmp 87) (.tmp 91) 23 rfl w2.heap.size 44 i0 (.agg #[.string ⟨#[]⟩, .int .i64 0, .int .i64 0, .string ⟨#[]⟩]) 4 48 Tryz.underlying23 hi hz0 hz1 hz2 rfl (by decide) u7 l.length (ocs l) rfl ?own ⟨w4.heap.size, 0, none⟩ 1 1 [.string ⟨#[99, 111, 112, 121]⟩, .int .i64 at_, .int .i64 n, .string ⟨#[]⟩] rfl rfl ?c1 ?c2 ?b1 ?b2 ?b3 ?next))
                case own => exact Hown.out.alloc _
                case c1 => intro j u hj; match j, hj with | 0, hj | 1, hj | 2, hj | 3, hj => simp at hj; subst hj; simp [Addr.add]
                case c2 => intro u hu; simp at hu; rcases hu with rfl | rfl | rfl | rfl <;> rfl
                case b1 => unfold maxLen; omega
                case b2 => omega
                case b3 => have := Hb.out.size; simp; omega
                case next =>
                  intro v5 w5 hown5 hgrow5 _
                  have hb5 : Below w2.heap.size w4 w5 := ((Below.refl _ _).alloc Hb.out.size _).grown hgrow5 (by have := Hb.out.size; simp; omega) (fun k hk => (Hown.out.lt k hk).1)
                  have Hb5 := hide (Hb.out.trans hb5)
                  have Hown5 := hide hown5
                  clear hb5 hown5 hgrow5 Hown Hb
                  go_wp2_with fail
                  go_roundw
                  case rel =>
                    refine ⟨x3, i + 1, l ++ [copyOp at_ n], rfl, by go_num, hx3s, by omega, by have := Hil.out; simp [Hid]; omega, by omega, ?_, ?_, Hb5.out, HA⟩
                    · intro o ho
                      rcases List.mem_append.1 ho with ho | ho
                      · exact Hsh.out o ho
                      · simp only [List.mem_singleton] at ho
                        rw [ho]
                        exact Nat.zero_le _
                    · have h := Hown5.out
                      rw [show [Value.string ⟨#[99, 111, 112, 121]⟩, .int .i64 at_, .int .i64 n, .string ⟨#[]⟩] = ocells (copyOp at_ n) from rfl, ← ocs_snoc] at h
                      simpa [Hid] using h
                  case measure => simp [intOf]; omega
          · have c0 : ((kd : Int) != 0) = true := by simp; omega
            have hA := HA0.out
            rw [Go.Delta.aheadO_error (rdO_kind Hd.out k0 k1)] at hA
            have hA' : R = .error 1 := hA.symm
            subst hA'
            clear hA HA0 Hd k0 k1
            go_wp2_with fail
            refine (HN.out _).mono ?_
            rintro r w4 ⟨rfl, rfl⟩
            go_wp2_with fail
            go_ret2
            exact ⟨rfl, Hb.out⟩
    · have hle : (m : Int) ≤ (i : Int) := by omega
      have hA := HI.out
      rw [show m - i = 0 by omega, rdOs, aheadO, List.append_nil, behindO, finO] at hA
      by_cases hxe : x = s.size
      · rw [if_pos (by rw [List.drop_eq_nil_iff, lenL]; omega)] at hA
        simp only at hA
        have HA := hide hA
        subst hxe
        have HF := hide (opsFault_ok u7 l wr (ORow.of_own Hown.out) (by have := Hil.out; omega) Hsh.out)
        rw [ofault_eq] at HF
        obtain ⟨a7, c7, rfl⟩ : ∃ a7 c7, u7 = .slice a7 l.length c7 := by
          rcases own_forms Hown.out with ⟨rfl, e⟩ | ⟨g, c, rfl⟩
          · exact ⟨none, 0, by rw [e]⟩
          · exact ⟨_, _, rfl⟩
        generalize Go.Delta.faultO l = f at *
        obtain ⟨fc, fa⟩ := f
        simp only at HA HF
        clear hA HI
        by_cases hfc : fc = 0
        · subst hfc
          have hR := HA.out
          rw [if_pos rfl] at hR
          subst hR
          clear HA
          go_wp2_with fail
          refine HF.out.mono ?_
          rintro r w4 ⟨rfl, hb4⟩
          have Hown4 := hide (own_below Hown.out hb4)
          have Hb4 := hide (bthen Hb.out hb4)
          clear hb4 HF Hown Hb
          go_wp2_with fail
          go_ret2
          exact ⟨⟨_, rfl, Hown4.out.alloc _⟩, Hb4.out.alloc Hb4.out.size _⟩
        · have hR := HA.out
          rw [if_neg hfc] at hR
          subst hR
          have hfc' : 0 < fc := by omega
          clear HA hfc
          go_wp2_with fail
          refine HF.out.mono ?_
          rintro r w4 ⟨rfl, hb4⟩
          have Hb4 := hide (bthen Hb.out hb4)
          clear hb4 HF Hown Hb
          go_wp2_with fail
          go_quiet (fail)
          go_wp2
          go_ret2
          exact ⟨rfl, (Hb4.out.alloc Hb4.out.size _).trans ⟨rfl, rfl, rfl, Nat.le_refl _, fun _ _ => rfl⟩⟩
      · rw [if_neg (by rw [List.drop_eq_nil_iff, lenL]; omega)] at hA
        have hA' : R = .error 1 := hA.symm
        subst hA'
        have hxe' : ((x : Int) == (s.size : Int)) = false := by simp; omega
        have hxn : (x : Int) < s.size := by omega
        clear hA HI hxe
        go_wp2_with fail
        go_ret2
        exact ⟨rfl, Hb.out⟩

theorem rops_ok (s : ByteArray) (w : World) (hs : s.size ≤ 100000) :
    Calls Tryz.prog 17 #[.string s] w fun r w' => RORes w.heap.size w' r (rdD s.data.toList) ∧ Below w.heap.size w w' := by
  by_cases hl : 20000 < s.size
  · rw [rdD_long (by rw [lenL]; exact hl)]
    exact rops_long s w (by omega) hl
  · cases h1 : Go.Num.dec (s.data.toList.drop 0) with
    | error c =>
      rw [rdD_err (by rw [lenL]; omega) h1]
      exact rops_err s c w (by omega) h1
    | ok p =>
      obtain ⟨m, k⟩ := p
      rw [rdD_behind (by rw [lenL]; omega) h1]
      exact rops_main s m k w (by omega) h1
end Go.Proofs.YtcenohaadggdiacGreatDoor
