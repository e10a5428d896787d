/-
  The walk of the law FlowPlays.
-/
import Derived.Test.YtffcdampeehgcaaFlPlay
import Derived.Test.YtffcdampeehgcaaFlowRef
import Derived.Test.YtffcdampeehgcaaRefInts
import Derived.Deep.DeepCutAuto
import Derived.Deep.RegionHeld3
namespace Go.Proofs.Ytffcdampeehgcaa
open Go.RowKit
open Go.Flow (Fw fwNew Within new_within well_within bad_within run play run_within)

theorem Try.infoB : (Try.prog.info? 4).map (fun i => (i.zero, i.size, i.bytes)) = some (some (.bool false), 1, 1) := by kernel_rfl
/-- Where the law stands between two rounds. -/
abbrev fpL (v : Value) (xs : List Value) (n p q : Nat) (f : Fw) : List Fam := [OwnF 3 1 v n xs, FlF p f, CellsF q 29 (flC f)]

set_option maxHeartbeats 2000000 in
set_option maxRecDepth 100000 in
theorem fplays_main (la : Option Addr) (lc : Nat) (l : List Bool) (w : World) (hT : Row1 boolV w (.slice la l.length lc) l) (hc0 : la = none → lc = 0) (hl : l.length ≤ 400) :
    Calls Try.prog 4 #[.slice la l.length lc] w fun e w' => e = .returned (.bool true) ∧ Below w.heap.size w w' := by
  obtain ⟨i0, hi, hz0, hz1, hz2⟩ := info_parts Try.infoI
  obtain ⟨j0, hj, hy0, hy1, hy2⟩ := info_parts Try.infoB
  have HT := hide (fun W (k : Below w.heap.size w W) => hT.below k)
  have HM := hide (flowed_ok w)
  have H1 := hide (fun W => newFlow_ok W)
  have H2 := hide (fun W => rnewFlow_ok W)
  have HG := hide (fun p f W k => good_ok p f W k)
  have HB := hide (fun p f W k => fbad_ok p f W k)
  have HN := hide (fun f b W k => rnext_ok f b W k)
  have hl' : (l.length : Int) ≤ 400 := by omega
  have Hl := hide hl
  have Hc0 := hide hc0
  clear hT hl hc0
  go_enter Try.func4, Try.ntmps4
  go_wp2_with fail
  refine HM.out.mono ?_
  rintro e w1 ⟨rfl, hb1⟩
  have HS := hide ((Sep.start w).keep hb1)
  clear hb1 HM
  go_wp2_with fail
  refine (Sep.call (L0 := []) HS.out (H1.out _)).mono ?_
  rintro e w2 ⟨_, ⟨p, rfl, rfl⟩, hs2⟩
  simp only [List.cons_append, List.nil_append] at hs2
  have HS2 := hide hs2
  clear hs2 HS H1
  go_wp2_with fail
  refine (H2.out _).mono ?_
  rintro e w3 ⟨rfl, hb3⟩
  have hs3 := ((HS2.out.keep hb3).fresh 29 (flC fwNew)).nil 3 1
  have HS3 := hide hs3.sw2
  clear hs3 HS2 H2 hb3
  go_wp2_with fail
  go_loopw [6, 7] (fun t6 t7 wr => ∃ (i : Nat) (l1 l2 : List Bool), t7 = .int .i64 i ∧ Hid (l = l1 ++ l2) ∧ Hid (l1.length = i) ∧ Hid (∃ a c, t6 = .slice a i c) ∧ Hid (Sep Foot.none w (fpL t6 (((play fwNew l1).map Int.ofNat).map intV) i p w3.heap.size (run fwNew l1)) wr)) (fun _ t7 _ => l.length - (intOf t7).toNat)
  case atStart => exact ⟨0, [], l, rfl, rfl, rfl, ⟨_, _, rfl⟩, HS3.out⟩
  case round =>
    clear HS3
    obtain ⟨i, l1, l2, rfl, Hll, Hi, Hsh, Hs⟩ := hrel
    obtain ⟨a3, k3, rfl⟩ := Hsh.out
    clear Hsh
    generalize w3.heap.size = q at *
    cases l2 with
    | cons b l3 =>
      have hlen := congrArg List.length Hll.out
      rw [List.length_append, List.length_cons, Hi.out] at hlen
      have hlt' : (i : Int) < l.length := by omega
      have hi31 : i < 400 := by have := Hl.out; omega
      have hat : l[i]? = some b := by rw [Hll.out, List.getElem?_append_right (by rw [Hi.out]; exact Nat.le_refl _), Hi.out]; simp
      have HTc : Hid (∃ tb o, la = some ⟨tb, o, none⟩ ∧ ∀ W', Below w.heap.size w W' → W'.cell? ⟨tb, o + i, none⟩ = some (.bool b)) := by
        obtain ⟨_, _, e, hrow⟩ := HT.out w (Below.refl _ _)
        cases e
        obtain ⟨tb, o, rfl, hc⟩ := hrow (by omega)
        have hil : i < l.length := by omega
        have hb : l[i] = b := by rw [List.getElem?_eq_getElem hil] at hat; exact Option.some.inj hat
        exact ⟨tb, o, rfl, fun W' k => (k.cell (World.block_lt_of_cell? _ _ (hc i hil))).trans ((hc i hil).trans (by rw [hb]; rfl))⟩
      obtain ⟨tb, o, rfl, htc⟩ := HTc.out
      have HTd := hide htc
      have c0 := htc _ Hs.out.below
      have Hw := hide (run_within new_within l1)
      have Hnx : Hid (∀ x c, ∀ wq, Sep Foot.none w (fpL (.slice (some ⟨x, 0, none⟩) (i + 1) c) ((((play fwNew l1).map Int.ofNat).map intV) ++ [.int .i64 (((run fwNew l1).next b).window : Int)]) (i + 1) p q ((run fwNew l1).next b)) wq → Sep Foot.none w (fpL (.slice (some ⟨x, 0, none⟩) (i + 1) c) (((play fwNew (l1 ++ [b])).map Int.ofNat).map intV) (i + 1) p q (run fwNew (l1 ++ [b]))) wq) := by
        intro x c wq k
        rw [Go.Flow.play_snoc, Go.Flow.run_snoc]
        simpa [intV] using k
      have Hll2 := hide (show l = (l1 ++ [b]) ++ l3 by rw [Hll.out, List.append_assoc]; rfl)
      have Hi2 := hide (show (l1 ++ [b]).length = i + 1 by rw [List.length_append, Hi.out]; rfl)
      have Hlen := hide hlen
      clear HTc htc HT Hll Hi hat hlen Hl Hc0
      generalize ((play fwNew l1).map Int.ofNat).map intV = xs at *
      generalize run fwNew l1 = f at *
      cases b with
      | true =>
        have HC := hide (Sep.call (L0 := [_]) Hs.out.sw (HG.out _ _ _ Hw.out))
        have HNx := hide (fun W => HN.out f true W Hw.out)
        clear HG HB HN Hw
        have hg : Fw.next f true = f.well := rfl
        rw [hg] at HNx Hnx
        clear hg
        generalize hgg : f.well = g at *
        clear hgg
        go_wp2_with fail
        refine HC.out.mono ?_
        rintro e w5 ⟨_, ⟨rfl, rfl⟩, hs5⟩
        simp only [List.cons_append, List.nil_append] at hs5
        have hs6 := hs5.third
        have c1 := (hs6.cell 0).1
        have c2 := (hs6.cell 1).1
        have c3 := (hs6.cell 2).1
        have c4 := (hs6.cell 3).1
        simp only [List.getElem?_cons_zero, List.getElem?_cons_succ] at c1 c2 c3 c4
        have HS6 := hide hs6
        have c0 := HTd.out _ hs6.below
        clear hs5 hs6 HC Hs
        have Hset : Hid (∀ w6, Below w5.drew.heap.size w5.drew w6 → Sep Foot.none w [CellsF q 29 (flC g), FlF p g, OwnF 3 1 (.slice a3 i k3) i xs] ((((w6.setCell ⟨q, 0, none⟩ (.int .i64 (g.window : Int))).setCell ⟨q, 1, none⟩ (.int .i64 (g.limit : Int))).setCell ⟨q, 2, none⟩ (.int .i64 (g.wait : Int))).setCell ⟨q, 3, none⟩ (.int .i64 (g.good : Int)))) := by
          intro w6 k
          exact ((((HS6.out.drew.keep k).set 0 (.int .i64 (g.window : Int))).set 1 (.int .i64 (g.limit : Int))).set 2 (.int .i64 (g.wait : Int))).set 3 (.int .i64 (g.good : Int))
        have Hcells : Hid (∀ w6, Below w5.drew.heap.size w5.drew w6 → ∀ j x, (flC f)[j]? = some x → w6.cell? ⟨q, j, none⟩ = some x ∧ w6.frozen? ⟨q, j, none⟩ = false) := by
          intro w6 k j x hx
          have := (HS6.out.drew.keep k).cell j
          rw [hx] at this
          exact this
        go_upto_region 15 with fail
        go_cut [33] (fun _ wc => Hid (Sep Foot.none w [CellsF q 29 (flC g), FlF p g, OwnF 3 1 (.slice a3 i k3) i xs] wc))
        case first =>
          clear Hnx hi hz0 hz1 hz2 hj hy0 hy1 hy2
          go_region_with (go_at_call 13; refine (HNx.out _).mono ?_; rintro e w6 ⟨rfl, hb6⟩; have Hs6 := hide (Hset.out _ hb6); obtain ⟨k0, f0⟩ := Hcells.out _ hb6 0 _ rfl; obtain ⟨k1, f1⟩ := Hcells.out _ hb6 1 _ rfl; obtain ⟨k2, f2⟩ := Hcells.out _ hb6 2 _ rfl; obtain ⟨k3', f3⟩ := Hcells.out _ hb6 3 _ rfl; clear hb6)
          all_goals
            go_wp2_with fail
            go_meet
            case rel => exact Hs6.out
        case rest =>
          clear HNx Hset Hcells c1 c2 c3 c4 HS6 c0
          have Hs := hide (show Sep Foot.none w (CellsF q 29 (flC g) :: FlF p g :: OwnF 3 1 (.slice a3 i k3) i xs :: []) wc from hcut.out)
          clear hcut
          have hs := Hs.out
          have c1 := (hs.cell 0).1
          have c2 := (hs.cell 1).1
          have c3 := (hs.cell 2).1
          simp only [List.getElem?_cons_zero, List.getElem?_cons_succ] at c1 c2 c3
          have HW := hide (flWindow_ok hs.sw.drew)
          have HL := hide (flLimit_ok hs.sw.drew)
          have HTt := hide (flWait_ok hs.sw.drew)
          have n1 : ((g.window : Int) != (g.window : Int)) = false := by simp
          have n2 : ((g.limit : Int) != (g.limit : Int)) = false := by simp
          have n3 : ((g.wait : Int) != (g.wait : Int)) = false := by simp
          have HSd := hide hs.third.sw2.drew
          have HOd := hide hs.third.own
          clear hs Hs
          go_wp2_with fail
          go_region_held3 (fun w' => w'.cell? ⟨q, 0, none⟩ = some (.int .i64 (g.window : Int)) ∧ w'.cell? ⟨q, 1, none⟩ = some (.int .i64 (g.limit : Int)) ∧ w'.cell? ⟨q, 2, none⟩ = some (.int .i64 (g.wait : Int)))
            (go_keep)
            (first
              | (go_at_call 7; refine HW.out.mono ?_; rintro e w1 ⟨rfl, rfl⟩)
              | (go_at_call 11; refine HL.out.mono ?_; rintro e w1 ⟨rfl, rfl⟩)
              | (go_at_call 8; refine HTt.out.mono ?_; rintro e w1 ⟨rfl, rfl⟩))
          have c1 := (HSd.out.third.cell 0).1
          simp only [List.getElem?_cons_zero] at c1
          clear HW HL HTt HOd n1 n2 n3 c2 c3
          have HOd := hide HSd.out.own
          go_wp2_with (at_builtin; refine wpList_append_lies _ rfl (.tmp 61) (.tmp 64) 31 rfl 0 3 i0 (.int .i64 0) 1 8 Try.underlying31 hi hz0 hz1 hz2 rfl (by decide) _ i xs rfl (HOd.out.alloc _) ⟨wc.drew.heap.size, 0, none⟩ 1 1 [.int .i64 (g.window : Int)] rfl rfl ?c1 ?c2 (by decide) ?b1 ?b2 (Nat.zero_le _) _ rfl ?next)
          case c1 => exact news1 _ _ _ _ (by simp)
          case c2 => intro u hu; simp at hu; subst hu; rfl
          case b1 => unfold maxLen; omega
          case b2 => omega
          case next =>
            intro g1 k1 w7 own7 hg7 hat7 hlt7
            have hs7 := (HSd.out.alloc (.cells #[.int .i64 (g.window : Int)] 3)).lies own7 hg7 hat7 (by simp)
            have HS7 := hide (Hnx.out _ _ _ hs7)
            clear own7 hg7 hat7 hlt7 hs7 HSd HOd Hnx
            go_wp2_with fail
            go_roundw
            case rel => exact ⟨i + 1, _, l3, by go_num, Hll2.out, Hi2.out, ⟨_, _, rfl⟩, HS7.out⟩
            case measure => simp [intOf]; omega
      | false =>
        have HC := hide (Sep.call (L0 := [_]) Hs.out.sw (HB.out _ _ _ Hw.out))
        have HNx := hide (fun W => HN.out f false W Hw.out)
        clear HG HB HN Hw
        have hg : Fw.next f false = f.bad := rfl
        rw [hg] at HNx Hnx
        clear hg
        generalize hgg : f.bad = g at *
        clear hgg
        go_wp2_with fail
        refine HC.out.mono ?_
        rintro e w5 ⟨_, ⟨rfl, rfl⟩, hs5⟩
        simp only [List.cons_append, List.nil_append] at hs5
        have hs6 := hs5.third
        have c1 := (hs6.cell 0).1
        have c2 := (hs6.cell 1).1
        have c3 := (hs6.cell 2).1
        have c4 := (hs6.cell 3).1
        simp only [List.getElem?_cons_zero, List.getElem?_cons_succ] at c1 c2 c3 c4
        have HS6 := hide hs6
        have c0 := HTd.out _ hs6.below
        clear hs5 hs6 HC Hs
        have Hset : Hid (∀ w6, Below w5.drew.heap.size w5.drew w6 → Sep Foot.none w [CellsF q 29 (flC g), FlF p g, OwnF 3 1 (.slice a3 i k3) i xs] ((((w6.setCell ⟨q, 0, none⟩ (.int .i64 (g.window : Int))).setCell ⟨q, 1, none⟩ (.int .i64 (g.limit : Int))).setCell ⟨q, 2, none⟩ (.int .i64 (g.wait : Int))).setCell ⟨q, 3, none⟩ (.int .i64 (g.good : Int)))) := by
          intro w6 k
          exact ((((HS6.out.drew.keep k).set 0 (.int .i64 (g.window : Int))).set 1 (.int .i64 (g.limit : Int))).set 2 (.int .i64 (g.wait : Int))).set 3 (.int .i64 (g.good : Int))
        have Hcells : Hid (∀ w6, Below w5.drew.heap.size w5.drew w6 → ∀ j x, (flC f)[j]? = some x → w6.cell? ⟨q, j, none⟩ = some x ∧ w6.frozen? ⟨q, j, none⟩ = false) := by
          intro w6 k j x hx
          have := (HS6.out.drew.keep k).cell j
          rw [hx] at this
          exact this
        go_upto_region 15 with fail
        go_cut [33] (fun _ wc => Hid (Sep Foot.none w [CellsF q 29 (flC g), FlF p g, OwnF 3 1 (.slice a3 i k3) i xs] wc))
        case first =>
          clear Hnx hi hz0 hz1 hz2 hj hy0 hy1 hy2
          go_region_with (go_at_call 13; refine (HNx.out _).mono ?_; rintro e w6 ⟨rfl, hb6⟩; have Hs6 := hide (Hset.out _ hb6); obtain ⟨k0, f0⟩ := Hcells.out _ hb6 0 _ rfl; obtain ⟨k1, f1⟩ := Hcells.out _ hb6 1 _ rfl; obtain ⟨k2, f2⟩ := Hcells.out _ hb6 2 _ rfl; obtain ⟨k3', f3⟩ := Hcells.out _ hb6 3 _ rfl; clear hb6)
          all_goals
            go_wp2_with fail
            go_meet
            case rel => exact Hs6.out
        case rest =>
          clear HNx Hset Hcells c1 c2 c3 c4 HS6 c0
          have Hs := hide (show Sep Foot.none w (CellsF q 29 (flC g) :: FlF p g :: OwnF 3 1 (.slice a3 i k3) i xs :: []) wc from hcut.out)
          clear hcut
          have hs := Hs.out
          have c1 := (hs.cell 0).1
          have c2 := (hs.cell 1).1
          have c3 := (hs.cell 2).1
          simp only [List.getElem?_cons_zero, List.getElem?_cons_succ] at c1 c2 c3
          have HW := hide (flWindow_ok hs.sw.drew)
          have HL := hide (flLimit_ok hs.sw.drew)
          have HTt := hide (flWait_ok hs.sw.drew)
          have n1 : ((g.window : Int) != (g.window : Int)) = false := by simp
          have n2 : ((g.limit : Int) != (g.limit : Int)) = false := by simp
          have n3 : ((g.wait : Int) != (g.wait : Int)) = false := by simp
          have HSd := hide hs.third.sw2.drew
          have HOd := hide hs.third.own
          clear hs Hs
          go_wp2_with fail
          go_region_held3 (fun w' => w'.cell? ⟨q, 0, none⟩ = some (.int .i64 (g.window : Int)) ∧ w'.cell? ⟨q, 1, none⟩ = some (.int .i64 (g.limit : Int)) ∧ w'.cell? ⟨q, 2, none⟩ = some (.int .i64 (g.wait : Int)))
            (go_keep)
            (first
              | (go_at_call 7; refine HW.out.mono ?_; rintro e w1 ⟨rfl, rfl⟩)
              | (go_at_call 11; refine HL.out.mono ?_; rintro e w1 ⟨rfl, rfl⟩)
              | (go_at_call 8; refine HTt.out.mono ?_; rintro e w1 ⟨rfl, rfl⟩))
          have c1 := (HSd.out.third.cell 0).1
          simp only [List.getElem?_cons_zero] at c1
          clear HW HL HTt HOd n1 n2 n3 c2 c3
          have HOd := hide HSd.out.own
          go_wp2_with (at_builtin; refine wpList_append_lies _ rfl (.tmp 61) (.tmp 64) 31 rfl 0 3 i0 (.int .i64 0) 1 8 Try.underlying31 hi hz0 hz1 hz2 rfl (by decide) _ i xs rfl (HOd.out.alloc _) ⟨wc.drew.heap.size, 0, none⟩ 1 1 [.int .i64 (g.window : Int)] rfl rfl ?c1 ?c2 (by decide) ?b1 ?b2 (Nat.zero_le _) _ rfl ?next)
          case c1 => exact news1 _ _ _ _ (by simp)
          case c2 => intro u hu; simp at hu; subst hu; rfl
          case b1 => unfold maxLen; omega
          case b2 => omega
          case next =>
            intro g1 k1 w7 own7 hg7 hat7 hlt7
            have hs7 := (HSd.out.alloc (.cells #[.int .i64 (g.window : Int)] 3)).lies own7 hg7 hat7 (by simp)
            have HS7 := hide (Hnx.out _ _ _ hs7)
            clear own7 hg7 hat7 hlt7 hs7 HSd HOd Hnx
            go_wp2_with fail
            go_roundw
            case rel => exact ⟨i + 1, _, l3, by go_num, Hll2.out, Hi2.out, ⟨_, _, rfl⟩, HS7.out⟩
            case measure => simp [intOf]; omega
    | nil =>
      have e1 : l = l1 := by rw [Hll.out, List.append_nil]
      subst e1
      have e2 := Hi.out
      subst e2
      have Hrow := hide (Row1.of_own Hs.out.own)
      have Hb := hide Hs.out.below
      have HP := hide (fun u W (k : Row1 boolV W u l) => play_ok u l W k (by have := Hl.out; omega))
      have HX := hide (fun u v W (k1 : Row1 intV W u ((play fwNew l).map Int.ofNat)) (k2 : Row1 intV W v ((play fwNew l).map Int.ofNat)) => sameInts1 u v _ _ W k1 k2 (by rw [List.length_map, Go.Flow.play_length]; have := Hl.out; omega) (by rw [List.length_map, Go.Flow.play_length]; have := Hl.out; omega))
      rw [show decide ((play fwNew l).map Int.ofNat = (play fwNew l).map Int.ofNat) = true from by simp] at HX
      have HBc := hide (fun W' (k : Below wr.heap.size wr W') => Hrow.out.below k)
      have HRow := HT.out wr Hb.out
      have Hi0 : (l.length : Int) ≤ (l.length : Int) := Int.le_refl _
      clear HG HB HN Hll Hs Hrow Hi
      cases la with
      | none =>
        have hl0 : l.length = 0 := by
          obtain ⟨_, _, e, hrow⟩ := HRow
          cases e
          rcases Nat.eq_zero_or_pos l.length with h | h
          · exact h
          · obtain ⟨b, o, e, _⟩ := hrow h
            cases e
        obtain rfl : l = [] := List.length_eq_zero_iff.1 hl0
        obtain rfl := Hc0.out rfl
        have HPn := hide (HP.out (.slice none 0 0) wr (Row1.nil wr))
        clear HRow hl0 HT Hc0 Hl Hi0 HP
        go_wp2_with fail
        refine HPn.out.mono ?_
        rintro e w8 ⟨v, rfl, hv, hb8⟩
        have HXn := hide (HX.out _ _ _ hv (HBc.out _ hb8))
        have Hb8 := hide (bthen Hb.out hb8)
        clear hv hb8 HX HPn HBc
        go_wp2_with fail
        refine HXn.out.mono ?_
        rintro e w9 ⟨rfl, hb9⟩
        have Hb9 := hide (bthen Hb8.out hb9)
        clear hb9 HXn
        go_wp2_with fail
        go_ret
        exact ⟨rfl, Hb9.out⟩
      | some ad =>
        have HC : Hid (∀ j u, (l.map boolV)[j]? = some u → wr.cell? (ad.add j) = some u) := by
          intro j u hu
          obtain ⟨_, _, e, hrow⟩ := HRow
          cases e
          have hj' : j < l.length := by
            have := (List.getElem?_eq_some_iff.1 hu).1
            simpa using this
          obtain ⟨b, o, e, hc⟩ := hrow (by omega)
          cases e
          rw [List.getElem?_map, List.getElem?_eq_getElem hj'] at hu
          have h2 : u = boolV l[j] := (Option.some.inj hu).symm
          rw [h2, Go.WideShapes.add_plain]
          exact hc j hj'
        have hll := Hl.out
        clear HRow HT Hc0 Hl
        go_wp2_with (at_builtin; refine wpList_append_own_at _ rfl (.tmp 66) (.tmp 67) 22 rfl 0 4 j0 (.bool false) 1 1 Try.underlying22 hj hy0 hy1 hy2 rfl (by decide) (.slice none 0 0) 0 [] rfl (World.ownsRow_nil _ _ _ _) ad l.length lc (l.map boolV) rfl ?l1 ?c1 ?c2 ?b1 ?b2 (Nat.zero_le _) ?next)
        case l1 => simp
        case c1 => exact HC.out
        case c2 => intro u hu; obtain ⟨b, _, rfl⟩ := List.mem_map.1 hu; rfl
        case b1 => unfold maxLen; omega
        case b2 => omega
        case next =>
          intro v8 w8 hown8 hg8 _ _
          have hb8 : Below wr.heap.size wr w8 := (Below.refl _ _).grown hg8 (Nat.le_refl _) (fun k hk => by simp [Value.ownBlock] at hk)
          have HPn := hide (HP.out v8 w8 (Row1.of_own hown8))
          have Hb8 := hide (bthen Hb.out hb8)
          have HBd := hide (fun W' (k : Below w8.heap.size w8 W') => HBc.out W' (bthen hb8 k))
          clear hown8 hg8 hb8 HP HBc HC
          go_wp2_with fail
          refine HPn.out.mono ?_
          rintro e w9 ⟨v, rfl, hv, hb9⟩
          have HXn := hide (HX.out _ _ _ hv (HBd.out _ hb9))
          have Hb9 := hide (bthen Hb8.out hb9)
          clear hv hb9 HX HPn HBd
          go_wp2_with fail
          refine HXn.out.mono ?_
          rintro e w10 ⟨rfl, hb10⟩
          have Hb10 := hide (bthen Hb9.out hb10)
          clear hb10 HXn
          go_wp2_with fail
          go_ret
          exact ⟨rfl, Hb10.out⟩

set_option maxHeartbeats 1000000 in
set_option maxRecDepth 100000 in
theorem fplays_early (la : Option Addr) (lc : Nat) (l : List Bool) (w : World) (hl : 400 < l.length) :
    Calls Try.prog 4 #[.slice la l.length lc] w fun e w' => e = .returned (.bool true) ∧ Below w.heap.size w w' := by
  have HM := hide (flowed_ok w)
  have hl' : (400 : Int) < l.length := by omega
  clear hl
  go_enter Try.func4, Try.ntmps4
  go_wp2_with fail
  refine HM.out.mono ?_
  rintro e w1 ⟨rfl, hb1⟩
  have Hb1 := hide hb1
  clear hb1 HM
  go_wp2_with fail
  go_ret
  exact ⟨rfl, Hb1.out⟩
/-- FlowPlays, whole. -/
theorem fplays_walk (v : Value) (l : List Bool) (w : World) (hT : Row1 boolV w v l) (hc : ∀ n c, v = .slice none n c → c = 0) :
    Calls Try.prog 4 #[v] w fun e w' => e = .returned (.bool true) ∧ Below w.heap.size w w' := by
  have hT' := hT
  obtain ⟨ta, tc, rfl, -⟩ := hT'
  by_cases hl : 400 < l.length
  · exact fplays_early ta tc l w hl
  · exact fplays_main ta tc l w hT (fun e => hc _ _ (by rw [e])) (by omega)
end Go.Proofs.Ytffcdampeehgcaa
