/-
  Contract of the document's ReadLines over this dump: every text.
-/
import Derived.Test.YtbflmkjlpopeaadGreatDoorJoin11
import Derived.Test.YtbflmkjlpopeaadGreatDoorRefLines
namespace Go.Proofs.YtbflmkjlpopeaadGreatDoor
open Go.RowKit
open Go.Files (Ln rdN rdNs rdL behindN aheadN aheadN_ok aheadN_error faultF keyL)
open Go.Delta (txt)

/-- What ReadLines answers. -/
def RLRes (w' : World) (r : Ending) : Except Nat (List Ln) → Prop
  | .ok l => ∃ u, r = .returned (.tuple #[u, .int .i64 0]) ∧ MRow w' u l
  | .error c => r = .returned (.tuple #[.slice none 0 0, .int .i64 c])
theorem rdN_e1 {s : List UInt8} {c : Nat} (h : txt s = .error c) : rdN s = .error c := by rw [rdN, h]
theorem rdN_e2 {s d s1 : List UInt8} {c : Nat} (h : txt s = .ok (d, s1)) (h2 : Go.Sign.num s1 = .error c) : rdN s = .error c := by rw [rdN, h]; simp only []; rw [h2]
theorem rdN_e3 {s d s1 s2 : List UInt8} {n c : Nat} (h : txt s = .ok (d, s1)) (h2 : Go.Sign.num s1 = .ok (n, s2)) (h3 : Go.Sign.num s2 = .error c) : rdN s = .error c := by rw [rdN, h]; simp only []; rw [h2]; simp only []; rw [h3]
theorem rdN_e4 {s d s1 s2 s3 : List UInt8} {n k : Nat} (h : txt s = .ok (d, s1)) (h2 : Go.Sign.num s1 = .ok (n, s2)) (h3 : Go.Sign.num s2 = .ok (k, s3)) (hk : 4294967295 < k) : rdN s = .error 1 := by rw [rdN, h]; simp only []; rw [h2]; simp only []; rw [h3]; simp only []; rw [if_pos hk]
theorem rdN_ok {s d s1 s2 s3 : List UInt8} {n k : Nat} (h : txt s = .ok (d, s1)) (h2 : Go.Sign.num s1 = .ok (n, s2)) (h3 : Go.Sign.num s2 = .ok (k, s3)) (hk : ¬ 4294967295 < k) : rdN s = .ok (⟨str d, (n : Int), (k : Int)⟩, s3) := by rw [rdN, h]; simp only []; rw [h2]; simp only []; rw [h3]; simp only []; rw [if_neg hk]

set_option maxHeartbeats 1000000 in
set_option maxRecDepth 100000 in
theorem rlines_err (s : ByteArray) (c : Nat) (w : World) (hs : s.size ≤ 20000) (h1 : Go.Num.dec (s.data.toList.drop 0) = .error c) :
    Calls Tryz.prog 12 #[.string s] w fun r w' => r = .returned (.tuple #[.slice none 0 0, .int .i64 c]) ∧ Below w.heap.size w w' := by
  have hc := dec_err _ _ h1
  have H1 := hide (fun W => numOf_errD s 0 c W (by omega) (by omega) h1)
  have hc' : 0 < c := by omega
  have hs' : (s.size : Int) ≤ 20000 := by omega
  clear h1 hc
  go_enter Tryz.func12, Tryz.ntmps12
  go_wp2_with fail
  refine (H1.out _).mono ?_
  rintro r w1 ⟨rfl, rfl⟩
  go_wp2_with fail
  go_ret2
  exact ⟨rfl, Below.refl _ _⟩

set_option maxHeartbeats 4000000 in
set_option maxRecDepth 100000 in
theorem rlines_main (s : ByteArray) (m k0 : Nat) (w : World) (hs : s.size ≤ 20000) (h1 : Go.Num.dec (s.data.toList.drop 0) = .ok (m, k0)) :
    Calls Tryz.prog 12 #[.string s] w fun r w' => RLRes w' r (behindN (rdNs m (s.data.toList.drop k0))) ∧ Below w.heap.size w w' := by
  obtain ⟨i0, hi, hz0, hz1, hz2⟩ := info_parts Tryz.info62
  have hd1 := dec_num h1
  rw [List.drop_zero, lenL] at hd1
  have H1 := hide (fun W => numOf_numD s 0 m k0 W (by omega) (by omega) h1)
  rw [Nat.zero_add] at H1
  have hm : (m : Int) ≤ 1099511627776 := by omega
  have hs' : (s.size : Int) ≤ 20000 := by omega
  have hk : k0 ≤ s.size := by omega
  have hk' : (k0 : Int) ≤ s.size := by omega
  generalize hR : behindN (rdNs m (s.data.toList.drop k0)) = R
  have HR := hide hR
  clear h1 hR hd1
  go_enter Tryz.func12, Tryz.ntmps12
  go_wp2_with fail
  refine (H1.out _).mono ?_
  rintro r w2 ⟨rfl, rfl⟩
  go_wp2_with fail
  clear H1
  go_loopw [5, 7, 8] (fun t5 t7 t8 wr => ∃ (x i : Nat) (l : List Ln), t5 = .int .i64 x ∧ t8 = .int .i64 i ∧ x ≤ s.size ∧ i ≤ m ∧ Hid (i = l.length) ∧ i ≤ x ∧ Hid (∀ y ∈ l, y.name.size ≤ 1000000) ∧ Hid (wr.ownsRow w2.heap.size 62 3 t7 l.length (mcs l)) ∧ Hid (Below w2.heap.size w2 wr) ∧ Hid (behindN (aheadN l (rdNs (m - i) (s.data.toList.drop x))) = R)) (fun _ _ t8 _ => m - (intOf t8).toNat)
  case atStart => exact ⟨k0, 0, [], rfl, rfl, hk, by omega, rfl, by omega, (fun o ho => by cases ho), World.ownsRow_nil _ _ _ _, Below.refl _ _, by rw [Go.Files.aheadN_nil, Nat.sub_zero]; exact HR.out⟩
  case round =>
    clear HR
    obtain ⟨x, i, l, rfl, rfl, hx, hin, Hil, hix, Hsh, Hown, Hb, HI⟩ := hrel
    by_cases hlt : i < m
    · have hlt' : (i : Int) < m := by omega
      have hA0 := HI.out
      rw [show m - i = (m - i - 1) + 1 by omega] at hA0
      have HA0 := hide hA0
      have Hnx : Hid (m - i - 1 = m - (i + 1)) := by simp only [Hid]; omega
      clear HI hA0
      rcases txt_of s x hx with ⟨d, y, ht, hxy, hys, hds, htx⟩ | ⟨d, y, c, ht, hc, htx⟩
      · have HT := hide (fun W => textOf_ok s x W (by omega) hx)
        rw [ht] at HT
        simp only at HT
        clear ht
        cases hd : Go.Num.dec (s.data.toList.drop y) with
        | error e =>
          have HN := hide (fun W => numOf_errD s y e W (by omega) hys hd)
          have he := dec_err _ _ hd
          have hA := HA0.out
          rw [aheadN_error (rdN_e2 htx (num_dropED hd))] at hA
          have hA' : R = .error e := hA.symm
          subst hA'
          have he' : 0 < e := by omega
          clear hd he hA HA0 htx
          go_wp2_with fail
          refine (HT.out _).mono ?_
          rintro r w4 ⟨rfl, rfl⟩
          go_wp2_with fail
          refine (HN.out _).mono ?_
          rintro r w4 ⟨rfl, rfl⟩
          go_wp2_with fail
          go_ret2
          exact ⟨rfl, Hb.out⟩
        | ok pr =>
          obtain ⟨n, j⟩ := pr
          have hnj := dec_num hd
          rw [List.length_drop, lenL] at hnj
          have HN := hide (fun W => numOf_numD s y n j W (by omega) hys hd)
          have Hd := hide (num_dropD hd)
          have hn : (n : Int) ≤ 1099511627776 := by omega
          clear hd
          obtain ⟨y2, hy2⟩ : ∃ y2, y2 = y + j := ⟨_, rfl⟩
          rw [← hy2] at HN Hd
          have hy2s : y2 ≤ s.size := by omega
          have hy2x : y + 1 ≤ y2 := by omega
          clear hy2 hnj
          cases hd2 : Go.Num.dec (s.data.toList.drop y2) with
          | error e =>
            have HN2 := hide (fun W => numOf_errD s y2 e W (by omega) hy2s hd2)
            have he := dec_err _ _ hd2
            have hA := HA0.out
            rw [aheadN_error (rdN_e3 htx Hd.out (num_dropED hd2))] at hA
            have hA' : R = .error e := hA.symm
            subst hA'
            have he' : 0 < e := by omega
            clear hd2 he hA HA0 htx Hd
            go_wp2_with fail
            refine (HT.out _).mono ?_
            rintro r w4 ⟨rfl, rfl⟩
            go_wp2_with fail
            refine (HN.out _).mono ?_
            rintro r w4 ⟨rfl, rfl⟩
            go_wp2_with fail
            refine (HN2.out _).mono ?_
            rintro r w4 ⟨rfl, rfl⟩
            go_wp2_with fail
            go_ret2
            exact ⟨rfl, Hb.out⟩
          | ok pr2 =>
            obtain ⟨k, j2⟩ := pr2
            have hnj2 := dec_num hd2
            rw [List.length_drop, lenL] at hnj2
            have HN2 := hide (fun W => numOf_numD s y2 k j2 W (by omega) hy2s hd2)
            have Hd2 := hide (num_dropD hd2)
            have hkk : (k : Int) ≤ 1099511627776 := by omega
            clear hd2
            obtain ⟨y3, hy3⟩ : ∃ y3, y3 = y2 + j2 := ⟨_, rfl⟩
            rw [← hy3] at HN2 Hd2
            have hy3s : y3 ≤ s.size := by omega
            have hy3x : y2 + 1 ≤ y3 := by omega
            clear hy3 hnj2
            by_cases hbig : 4294967295 < k
            · have hA := HA0.out
              rw [aheadN_error (rdN_e4 htx Hd.out Hd2.out hbig)] at hA
              have hA' : R = .error 1 := hA.symm
              subst hA'
              have hbig' : (4294967295 : Int) < k := by omega
              clear hA HA0 htx Hd Hd2 hbig
              go_wp2_with fail
              refine (HT.out _).mono ?_
              rintro r w4 ⟨rfl, rfl⟩
              go_wp2_with fail
              refine (HN.out _).mono ?_
              rintro r w4 ⟨rfl, rfl⟩
              go_wp2_with fail
              refine (HN2.out _).mono ?_
              rintro r w4 ⟨rfl, rfl⟩
              go_wp2_with fail
              go_ret2
              exact ⟨rfl, Hb.out⟩
            · have hA := HA0.out
              rw [aheadN_ok (rdN_ok htx Hd.out Hd2.out hbig), Hnx.out] at hA
              have hst : str d.data.toList = d := ext_of_list (strL _)
              rw [hst] at hA
              have HA := hide hA
              have hbig' : (k : Int) ≤ 4294967295 := by omega
              have hll : l.length ≤ 20000 := by have := Hil.out; omega
              clear hA HA0 htx Hd Hd2 hbig hst
              go_wp2_with fail
              refine (HT.out _).mono ?_
              rintro r w4 ⟨rfl, rfl⟩
              go_wp2_with fail
              refine (HN.out _).mono ?_
              rintro r w4 ⟨rfl, rfl⟩
              go_wp2_with fail
              refine (HN2.out _).mono ?_
              rintro r w4 ⟨rfl, rfl⟩
              clear HT HN HN2
              go_wp2_with (first | (at_builtin; refine wpList_append_own _ rfl (.tmp 62) (.tmp 67) 22 rfl w2.heap.size 62 i0 (.agg #[.string ⟨#[]⟩, .int .i64 0, .int .i64 0]) 3 32 Tryz.underlying22 hi hz0 hz1 hz2 rfl (by decide) u7 l.length (mcs l) rfl ?own ⟨w4.heap.size, 0, none⟩ 1 1 [.string d, .int .i64 n, .int .i64 k] rfl rfl ?c1 ?c2 ?b1 ?b2 ?b3 ?next))
              case own => exact Hown.out.alloc _
              try case c1 => intro j u hj; match j, hj with | 0, hj | 1, hj | 2, hj => simp at hj; subst hj; simp [Addr.add]
              case c2 => first | (intro u hu; simp at hu; rcases hu with rfl | rfl | rfl <;> rfl) | exact ⟨rfl, rfl, rfl⟩
              case b1 => unfold maxLen; omega
              case b2 => omega
              case b3 => have := Hb.out.size; simp; omega
              case next =>
                intro v5 w5 hown5 hgrow5 _
                have hb5 : Below w2.heap.size w4 w5 := ((Below.refl _ _).alloc Hb.out.size _).grown hgrow5 (by have := Hb.out.size; simp; omega) (fun k hk => (Hown.out.lt k hk).1)
                have Hb5 := hide (Hb.out.trans hb5)
                have Hown5 : Hid (w5.ownsRow w2.heap.size 62 3 v5 (l ++ [(⟨d, (n : Int), (k : Int)⟩ : Ln)]).length (mcs (l ++ [(⟨d, (n : Int), (k : Int)⟩ : Ln)]))) := by
                  rw [mcs, cs3_snoc, List.length_append, List.length_singleton]
                  exact hown5
                clear hb5 hown5 hgrow5 Hown Hb
                go_wp2_with fail
                go_roundw
                case rel =>
                  refine ⟨y3, i + 1, l ++ [(⟨d, (n : Int), (k : Int)⟩ : Ln)], rfl, by go_num, hy3s, by omega, by have := Hil.out; simp [Hid]; omega, by omega, ?_, Hown5.out, Hb5.out, HA.out⟩
                  intro z hz
                  rcases List.mem_append.1 hz with hz | hz
                  · exact Hsh.out z hz
                  · rw [List.mem_singleton.1 hz]
                    simp only
                    omega
                case measure => simp [intOf]; omega
      · have HT := hide (fun W => textOf_ok s x W (by omega) hx)
        rw [ht] at HT
        simp only at HT
        have hA := HA0.out
        rw [aheadN_error (rdN_e1 htx)] at hA
        have hA' : R = .error c := hA.symm
        subst hA'
        have hc' : 0 < c := by omega
        clear ht htx hA HA0 hc
        go_wp2_with fail
        refine (HT.out _).mono ?_
        rintro r w4 ⟨rfl, rfl⟩
        go_wp2_with fail
        go_ret2
        exact ⟨rfl, Hb.out⟩
    · have hle : (m : Int) ≤ (i : Int) := by omega
      have hA := HI.out
      rw [show m - i = 0 by omega, rdNs, aheadN, List.append_nil, behindN] at hA
      by_cases hxe : x = s.size
      · subst hxe
        rw [if_pos (by rw [List.drop_eq_nil_of_le]; rw [lenL]; exact Nat.le_refl _)] at hA
        have hll : l.length ≤ 20000 := by have := Hil.out; omega
        have HL := hide (linesFault_ok u7 l wr (Row3.of_own Hown.out) (by omega) Hsh.out)
        have HRow := hide (fun W (h : Below wr.heap.size wr W) => own_below Hown.out h)
        generalize faultF (l.map keyL) = f at *
        obtain ⟨fc, fa⟩ := f
        simp only at HL hA
        clear HI Hil Hsh
        rcases own_forms Hown.out with ⟨rfl, h0⟩ | ⟨gg, cc, rfl⟩
        all_goals
          clear Hown
          go_wp2_with fail
          refine HL.out.mono ?_
          rintro r w4 ⟨rfl, hb4⟩
          have hb5 := hb4.alloc hb4.size (.cells #[.int .i64 (fc : Int), .int .i64 fa] 26)
          have Hrow5 := hide (HRow.out _ hb5)
          have Hb5 := hide (bthen Hb.out hb5)
          clear hb4 hb5 Hb HL HRow
          by_cases hfc : fc = 0
          · rw [if_pos hfc] at hA
            subst hA
            have hfc' : (fc : Int) ≤ 0 := by omega
            clear hfc
            go_wp2_with fail
            go_ret2
            exact ⟨⟨_, rfl, Row3.of_own Hrow5.out⟩, Hb5.out⟩
          · rw [if_neg hfc] at hA
            subst hA
            have hfc' : (0 : Int) < fc := by omega
            clear hfc
            go_wp2_with fail
            go_quiet (fail)
            go_wp2_with fail
            go_ret2
            exact ⟨rfl, Hb5.out.trans ⟨rfl, rfl, rfl, Nat.le_refl _, fun _ _ => rfl⟩⟩
      · rw [if_neg (fun h => hxe (by have := congrArg List.length h; rw [List.length_drop, lenL, List.length_nil] at this; omega))] at hA
        subst hA
        have hne : ((x : Int) != (s.size : Int)) = true := by simp; omega
        clear HI Hil Hsh hxe
        go_wp2_with fail
        go_ret2
        exact ⟨rfl, Hb.out⟩

theorem readLines_ok (s : ByteArray) (w : World) (hs : s.size ≤ 20000) :
    Calls Tryz.prog 12 #[.string s] w fun r w' => RLRes w' r (rdL s.data.toList) ∧ Below w.heap.size w w' := by
  unfold rdL
  cases h1 : Go.Num.dec (s.data.toList.drop 0) with
  | error c =>
    have e1 := num_dropED h1
    rw [List.drop_zero] at e1
    rw [e1]
    exact rlines_err s c w hs h1
  | ok p =>
    obtain ⟨m, k0⟩ := p
    have e1 := num_dropD h1
    rw [List.drop_zero, Nat.zero_add] at e1
    rw [e1]
    exact rlines_main s m k0 w hs h1
end Go.Proofs.YtbflmkjlpopeaadGreatDoor
