/-
  The walk of the law DeltaSame over the contracts.
-/
import Derived.Test.YtcenohaadggdiacDoorJoin11
import Derived.Test.YtcenohaadggdiacDoorJoin09
namespace Go.Proofs.YtcenohaadggdiacDoor
open Go.RowKit
open Go.Sign (Blk)
open Go.Delta (Opx)

/-- What the statement leaves out. -/
def dsOut (s more : ByteArray) (size : Int) : Prop := 150 < s.size ∨ 100 < more.size ∨ size < 1 ∨ 64 < size ∨ (s.size : Int) % size ≠ 0

set_option maxHeartbeats 1000000 in
set_option maxRecDepth 100000 in
theorem dsame_early (s more : ByteArray) (size : Int) (e : EV) (w : World) (he : Er2 e w) (h : dsOut s more size) : Calls Tryd.prog 5 #[.string s, .string more, .int .i64 size] w fun r w' => r = .returned (.bool true) ∧ Below w.heap.size w w' := by
  have HS := hide (madeFact_ok e w he)
  unfold dsOut at h
  clear he
  by_cases h1 : 150 < s.size
  · have h1' : decide ((150 : Int) < s.size) = true := by simp; omega
    clear h
    go_enter Tryd.func5, Tryd.ntmps5
    go_wp2_with fail
    refine HS.out.mono ?_
    rintro r w1 ⟨rfl, hb1⟩
    have Hb1 := hide hb1
    clear hb1
    go_wp2
    go_ret
    exact ⟨rfl, Hb1.out⟩
  · have h1' : decide ((150 : Int) < s.size) = false := by simp; omega
    by_cases h2 : 100 < more.size
    · have h2' : decide ((100 : Int) < more.size) = true := by simp; omega
      clear h
      go_enter Tryd.func5, Tryd.ntmps5
      go_wp2_with fail
      refine HS.out.mono ?_
      rintro r w1 ⟨rfl, hb1⟩
      have Hb1 := hide hb1
      clear hb1
      go_wp2
      go_ret
      exact ⟨rfl, Hb1.out⟩
    · have h2' : decide ((100 : Int) < more.size) = false := by simp; omega
      by_cases h3 : size < 1
      · have h3' : decide (size < 1) = true := by simp; omega
        clear h
        go_enter Tryd.func5, Tryd.ntmps5
        go_wp2_with fail
        refine HS.out.mono ?_
        rintro r w1 ⟨rfl, hb1⟩
        have Hb1 := hide hb1
        clear hb1
        go_wp2
        go_ret
        exact ⟨rfl, Hb1.out⟩
      · have h3' : decide (size < 1) = false := by simp; omega
        by_cases h4 : 64 < size
        · have h4' : decide (64 < size) = true := by simp; omega
          clear h
          go_enter Tryd.func5, Tryd.ntmps5
          go_wp2_with fail
          refine HS.out.mono ?_
          rintro r w1 ⟨rfl, hb1⟩
          have Hb1 := hide hb1
          clear hb1
          go_wp2
          go_ret
          exact ⟨rfl, Hb1.out⟩
        · have h4' : decide (64 < size) = false := by simp; omega
          have h5 : (s.size : Int) % size ≠ 0 := by
            rcases h with h | h | h | h | h
            · exact absurd h h1
            · exact absurd h h2
            · exact absurd h h3
            · exact absurd h h4
            · exact h
          have h5' : ((s.size : Int) % size != 0) = true := by simpa using h5
          have hz : ¬ size = 0 := by omega
          have hzb : (size == 0) = false := by simpa using hz
          clear h h5
          go_enter Tryd.func5, Tryd.ntmps5
          go_wp2_with fail
          refine HS.out.mono ?_
          rintro r w1 ⟨rfl, hb1⟩
          have Hb1 := hide hb1
          clear hb1
          go_wp2
          go_ret
          exact ⟨rfl, Hb1.out⟩

theorem own_slice {w : World} {base size n : Nat} {e : TypeId} {v : Value} {xs : List Value} (h : w.ownsRow base e size v n xs) : ∃ a c, v = .slice a n c := by
  rcases own_forms h with ⟨rfl, rfl⟩ | ⟨g, c, rfl⟩
  · exact ⟨_, _, rfl⟩
  · exact ⟨_, _, rfl⟩
theorem bcs_append (l m : List Blk) : bcs (l ++ m) = bcs l ++ bcs m := by simp [bcs]

set_option maxHeartbeats 8000000 in
set_option maxRecDepth 100000 in
theorem dsame_main (s more : ByteArray) (size : Nat) (e : EV) (w : World) (he : Er2 e w) (h1 : 1 ≤ size) (h2 : size ≤ 64) (hs : s.size ≤ 150) (hm : more.size ≤ 100) (hd : s.size % size = 0) :
    Calls Tryd.prog 5 #[.string s, .string more, .int .i64 size] w fun r w' => r = .returned (.bool true) ∧ Below w.heap.size w w' := by
  obtain ⟨i0, hi, hz0, hz1, hz2⟩ := info_parts Tryd.info55
  have HS := hide (madeFact_ok e w he)
  have HE := hide he
  have hs' : (s.size : Int) ≤ 150 := by omega
  have hm' : (more.size : Int) ≤ 100 := by omega
  have h1' : (1 : Int) ≤ size := by omega
  have h2' : (size : Int) ≤ 64 := by omega
  have hzb : ((size : Int) == 0) = false := by simp; omega
  have h5' : ((s.size : Int) % (size : Int) != 0) = false := by
    have : (s.size : Int) % (size : Int) = ((s.size % size : Nat) : Int) := rfl
    rw [this, hd]
    rfl
  have e1 : (s ++ more).data.toList = s.data.toList ++ more.data.toList := appendL s more
  have e2 : (s ++ more).size = s.size + more.size := ByteArray.size_append
  have hL : (sigL s.data.toList size).length ≤ 150 := by
    rw [sigL_length, lenL]
    have := many_le (len := s.size) h1
    omega
  have hf1 : (Go.Sign.fault (sigL s.data.toList size) size).1 = 0 := by rw [fault_sig _ size h1 h2 (by rw [lenL]; omega)]
  have hf2 : (Go.Sign.fault (sigL s.data.toList size ++ sigL s.data.toList size) size).1 = 0 := by rw [fault_twice _ size h1 h2 (by rw [lenL]; omega) (by rw [lenL]; exact hd)]
  have hcost := cost_own s.data.toList more.data.toList size h1 (Or.inr (by rw [lenL]; exact hd))
  rw [lenL] at hcost
  have HO := hide (fun W => of_ok s size W (by omega) h1 h2)
  have HM1 := hide (fun v W (h : RowIn W v (sigL s.data.toList size)) (k : Er2 e W) => make_right v _ size (s ++ more) e W h (by omega) (by omega) hf1 k)
  have HM2 := hide (fun v W (h : RowIn W v (sigL s.data.toList size ++ sigL s.data.toList size)) (k : Er2 e W) => make_right v _ size (s ++ more) e W h (by rw [List.length_append]; omega) (by omega) hf2 k)
  rw [dmake_twice] at HM2
  rw [e1] at HM1 HM2
  have hall := dmake_all (sigL s.data.toList size) size (s.data.toList ++ more.data.toList)
  rw [List.length_append, lenL, lenL] at hall
  obtain ⟨hc1, hc2, _⟩ := hall
  generalize dmake (sigL s.data.toList size) size (s.data.toList ++ more.data.toList) = D at *
  have HC := hide (fun u W (h : ORow W u D) => cost_ok u D W h (by omega) (fun o ho => by have := mem_cost ho; omega))
  have HSm := hide (fun u u' W (h : ORow W u D) (h' : ORow W u' D) => sameOps_ok u u' D W h h' (by omega))
  have HB := hide (fun v W (h : RowIn W v (sigL s.data.toList size)) => ownBlocks_own v _ W h (by omega))
  have hcn : decide ((more.size : Int) < (Go.Delta.cost D : Int)) = false := by simp; omega
  generalize Go.Delta.cost D = C at *
  generalize sigL s.data.toList size = L at *
  have hL' : (L.length : Int) ≤ 150 := by omega
  clear he hf1 hf2 e1 hd hc1
  go_enter Tryd.func5, Tryd.ntmps5
  go_wp2_with fail
  refine HS.out.mono ?_
  rintro r w1 ⟨rfl, hb1⟩
  have Hb1 := hide hb1
  clear hb1 HS
  go_wp2_with fail
  refine (HO.out _).mono ?_
  rintro r w2 ⟨v, rfl, hown2, hb2⟩
  have Hb2 := hide (bthen Hb1.out hb2)
  have Hr2 := hide (RowIn.of_own hown2)
  obtain ⟨a, c, rfl⟩ := own_slice hown2
  clear hb2 HO hown2 Hb1
  go_wp2_with fail
  refine (HM1.out _ _ Hr2.out (HE.out.below Hb2.out)).mono ?_
  rintro r w3 ⟨⟨u, rfl, hown3⟩, hb3⟩
  have Hb3 := hide (bthen Hb2.out hb3)
  have Hr3 := hide (Hr2.out.below hb3)
  have Hu3 := hide (ORow.of_own hown3)
  obtain ⟨a3, c3, rfl⟩ := own_slice hown3
  clear hb3 HM1 hown3 Hb2 Hr2
  go_wp2_with fail
  refine (HC.out _ _ Hu3.out).mono ?_
  rintro r w4 ⟨rfl, hb4⟩
  have Hb4 := hide (bthen Hb3.out hb4)
  have Hr4 := hide (Hr3.out.below hb4)
  have Hu4 := hide (Hu3.out.below hb4)
  clear hb4 HC Hb3 Hr3 Hu3
  go_wp2_with fail
  refine (HB.out _ _ Hr4.out).mono ?_
  rintro r w5 ⟨y, rfl, hown5, hb5⟩
  have hb45 := hide hb5
  have Hb5 := hide (bthen Hb4.out hb5)
  have hr5 := Hr4.out.below hb5
  have hml : many s.size size = L.length := by
    obtain ⟨a', c', e, _⟩ := hr5
    simp only [Value.slice.injEq] at e
    exact e.2.1
  rw [hml]
  rw [hml] at hr5
  have hsz := Hb4.out.size
  have hsz5 := hb5.size
  have Hown5 := hide hown5
  obtain ⟨ay, cy, rfl⟩ := own_slice hown5
  clear hb5 HB hown5 Hr4 hml
  by_cases hp : 0 < L.length
  · obtain ⟨b, o, rfl, hn⟩ := hr5.newsD hp
    have Hn := hide hn
    clear hn hr5 hp
    go_wp2_with (first | (at_builtin; refine wpList_append_own _ rfl (.tmp 69) (.tmp 70) 24 rfl w4.heap.size 55 i0 (.agg #[.int .i64 0, .int .i64 0, .int .u32 0]) 3 24 Tryd.underlying24 hi hz0 hz1 hz2 rfl (by decide) (.slice ay L.length cy) L.length (bcs L) rfl ?own ⟨b, o, none⟩ L.length c (bcs L) rfl ?c0 ?c1 ?c2 ?b1 ?b2 ?b3 ?next))
    case own => exact Hown5.out
    case c0 => exact bcs_length L
    case c1 => exact Hn.out
    case c2 => intro u hu; simp only [bcs, List.mem_flatMap, bcells] at hu; obtain ⟨x, _, hu⟩ := hu; simp at hu; rcases hu with rfl | rfl | rfl <;> rfl
    case b1 => unfold maxLen; omega
    case b2 => omega
    case b3 => omega
    case next =>
      intro v6 w6 hown6 hgrow6 _
      have hbg : Below w4.heap.size w5 w6 := (Below.refl _ _).grown hgrow6 hsz5 (fun k hk => (Hown5.out.lt k hk).1)
      clear hgrow6
      have Hb6 := hide (Hb5.out.trans (hbg.mono hsz))
      have Hu6 := hide (Hu4.out.below (hb45.out.trans hbg))
      have hrow : RowIn w6 v6 (L ++ L) := RowIn.of_own (n := _) (by rw [bcs_append]; exact hown6)
      have Hrow := hide hrow
      obtain ⟨a6, c6, rfl⟩ := own_slice hown6
      clear hbg hown6 hrow
      go_wp2_with fail
      refine (HM2.out _ _ Hrow.out (HE.out.below Hb6.out)).mono ?_
      rintro r w7 ⟨⟨u7, rfl, hown7⟩, hb7⟩
      have Hb7 := hide (bthen Hb6.out hb7)
      have Hu7 := hide (Hu6.out.below hb7)
      have Hv7 := hide (ORow.of_own hown7)
      obtain ⟨a7, c7, rfl⟩ := own_slice hown7
      clear hb7 HM2 hown7 Hb6 Hu6
      go_wp2_with fail
      refine (HSm.out _ _ _ Hu7.out Hv7.out).mono ?_
      rintro r w8 ⟨rfl, hb8⟩
      have Hb8 := hide (bthen Hb7.out hb8)
      clear hb8 HSm
      go_wp2_with fail
      go_ret
      exact ⟨rfl, Hb8.out⟩
  · have hL0 : L = [] := by cases L with
      | nil => rfl
      | cons x r => simp at hp
    subst hL0
    simp only [List.length_nil] at hr5 Hown5 ⊢
    clear hp
    cases a with
    | none =>
      rcases own_forms Hown5.out with ⟨e, _⟩ | ⟨g, cc, e⟩
      · obtain ⟨rfl, rfl⟩ : ay = none ∧ cy = 0 := by simp only [Value.slice.injEq] at e; exact ⟨e.1, e.2.2⟩
        clear e
        have Hrow : Hid (RowIn w5 (.slice none 0 0) ([] ++ [])) := ⟨_, _, rfl, fun h => by simp at h⟩
        have Hu6 := hide (Hu4.out.below hb45.out)
        go_wp2_with fail
        refine (HM2.out _ _ Hrow.out (HE.out.below Hb5.out)).mono ?_
        rintro r w7 ⟨⟨u7, rfl, hown7⟩, hb7⟩
        have Hb7 := hide (bthen Hb5.out hb7)
        have Hu7 := hide (Hu6.out.below hb7)
        have Hv7 := hide (ORow.of_own hown7)
        obtain ⟨a7, c7, rfl⟩ := own_slice hown7
        clear hb7 HM2 hown7 Hu6
        go_wp2_with fail
        refine (HSm.out _ _ _ Hu7.out Hv7.out).mono ?_
        rintro r w8 ⟨rfl, hb8⟩
        have Hb8 := hide (bthen Hb7.out hb8)
        clear hb8 HSm
        go_wp2_with fail
        go_ret
        exact ⟨rfl, Hb8.out⟩
      · obtain rfl : ay = some ⟨g, 0, none⟩ := by simp only [Value.slice.injEq] at e; exact e.1
        clear e
        have Hrow : Hid (RowIn w5 (.slice (some ⟨g, 0, none⟩) 0 cy) ([] ++ [])) := ⟨_, _, rfl, fun h => by simp at h⟩
        have Hu6 := hide (Hu4.out.below hb45.out)
        go_wp2_with fail
        refine (HM2.out _ _ Hrow.out (HE.out.below Hb5.out)).mono ?_
        rintro r w7 ⟨⟨u7, rfl, hown7⟩, hb7⟩
        have Hb7 := hide (bthen Hb5.out hb7)
        have Hu7 := hide (Hu6.out.below hb7)
        have Hv7 := hide (ORow.of_own hown7)
        obtain ⟨a7, c7, rfl⟩ := own_slice hown7
        clear hb7 HM2 hown7 Hu6
        go_wp2_with fail
        refine (HSm.out _ _ _ Hu7.out Hv7.out).mono ?_
        rintro r w8 ⟨rfl, hb8⟩
        have Hb8 := hide (bthen Hb7.out hb8)
        clear hb8 HSm
        go_wp2_with fail
        go_ret
        exact ⟨rfl, Hb8.out⟩
    | some ad =>
      go_wp2_with (first | (at_builtin; refine wpList_append_own _ rfl (.tmp 69) (.tmp 70) 24 rfl w4.heap.size 55 i0 (.agg #[.int .i64 0, .int .i64 0, .int .u32 0]) 3 24 Tryd.underlying24 hi hz0 hz1 hz2 rfl (by decide) (.slice ay 0 cy) 0 [] rfl ?own ad 0 c [] rfl rfl ?c1 ?c2 ?b1 ?b2 ?b3 ?next))
      case own => exact Hown5.out
      case c1 => intro j u hu; simp at hu
      case c2 => intro u hu; cases hu
      case b1 => unfold maxLen; omega
      case b2 => omega
      case b3 => omega
      case next =>
        intro v6 w6 hown6 hgrow6 _
        have hbg : Below w4.heap.size w5 w6 := (Below.refl _ _).grown hgrow6 hsz5 (fun k hk => (Hown5.out.lt k hk).1)
        clear hgrow6
        have Hb6 := hide (Hb5.out.trans (hbg.mono hsz))
        have Hu6 := hide (Hu4.out.below (hb45.out.trans hbg))
        have hrow : RowIn w6 v6 ([] ++ []) := RowIn.of_own (n := _) hown6
        have Hrow := hide hrow
        obtain ⟨a6, c6, rfl⟩ := own_slice hown6
        clear hbg hown6 hrow
        go_wp2_with fail
        refine (HM2.out _ _ Hrow.out (HE.out.below Hb6.out)).mono ?_
        rintro r w7 ⟨⟨u7, rfl, hown7⟩, hb7⟩
        have Hb7 := hide (bthen Hb6.out hb7)
        have Hu7 := hide (Hu6.out.below hb7)
        have Hv7 := hide (ORow.of_own hown7)
        obtain ⟨a7, c7, rfl⟩ := own_slice hown7
        clear hb7 HM2 hown7 Hb6 Hu6
        go_wp2_with fail
        refine (HSm.out _ _ _ Hu7.out Hv7.out).mono ?_
        rintro r w8 ⟨rfl, hb8⟩
        have Hb8 := hide (bthen Hb7.out hb8)
        clear hb8 HSm
        go_wp2_with fail
        go_ret
        exact ⟨rfl, Hb8.out⟩

theorem dsame_walk (s more : ByteArray) (size : Int) (e : EV) (w : World) (he : Er2 e w) : Calls Tryd.prog 5 #[.string s, .string more, .int .i64 size] w fun r w' => r = .returned (.bool true) ∧ Below w.heap.size w w' := by
  by_cases h : dsOut s more size
  · exact dsame_early s more size e w he h
  · unfold dsOut at h
    simp only [not_or, Classical.not_not] at h
    obtain ⟨h0, h1, h2, h3, h4⟩ := h
    obtain ⟨m, rfl⟩ := Int.eq_ofNat_of_zero_le (show 0 ≤ size by omega)
    have hm : ((s.size % m : Nat) : Int) = 0 := h4
    exact dsame_main s more m e w he (by omega) (by omega) (by omega) (by omega) (by omega)
end Go.Proofs.YtcenohaadggdiacDoor
