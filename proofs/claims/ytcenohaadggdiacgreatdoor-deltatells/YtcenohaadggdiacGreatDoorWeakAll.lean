/-
  Contract of weak.All over this dump.
-/
import Derived.Test.YtcenohaadggdiacGreatDoorJoin07
import Derived.OwnWalk
import Derived.WideShapes
namespace Go.Proofs.YtcenohaadggdiacGreatDoor
open Go.RowKit

theorem Tryz.info3 : (Tryz.prog.info? 3).map (fun i => (i.zero, i.size, i.bytes)) = some (some (.int .i64 0), 1, 8) := by kernel_rfl

/-- The sums of the first k parts of n bytes, as cells. -/
def sums (l : List UInt8) (n k : Nat) : List Value := (List.range k).map fun j => .int .i64 (wk (Go.Weak.part l j n))
theorem sums_succ (l : List UInt8) (n k : Nat) : sums l n (k + 1) = sums l n k ++ [.int .i64 (wk (Go.Weak.part l k n))] := by
  simp [sums, List.range_succ]
theorem sums_length (l : List UInt8) (n k : Nat) : (sums l n k).length = k := by simp [sums]

set_option maxHeartbeats 1000000 in
set_option maxRecDepth 100000 in
theorem wAll_none (s : ByteArray) (n : Int) (w : World) (h : ¬ (1 ≤ n ∧ n ≤ 4000) ∨ (s.size : Int) < n) : Calls Tryz.prog 63 #[.string s, .int .i64 n] w fun r w' => r = .returned (.slice none 0 0) ∧ w' = w := by
  have I := hide (fun W => isLength_ok n W)
  by_cases hN : 1 ≤ n ∧ n ≤ 4000
  · have h' : (s.size : Int) < n := by rcases h with h | h; exact absurd hN h; exact h
    rw [show decide (1 ≤ n ∧ n ≤ 4000) = true from decide_eq_true hN] at I
    clear h hN
    go_enter Tryz.func63, Tryz.ntmps63
    go_wp2_with fail
    refine (I.out _).mono ?_
    rintro e w1 ⟨rfl, rfl⟩
    go_wp2_with fail
    go_ret
    exact ⟨rfl, rfl⟩
  · rw [show decide (1 ≤ n ∧ n ≤ 4000) = false from decide_eq_false hN] at I
    clear h hN
    go_enter Tryz.func63, Tryz.ntmps63
    go_wp2_with fail
    refine (I.out _).mono ?_
    rintro e w1 ⟨rfl, rfl⟩
    go_wp2_with fail
    go_ret
    exact ⟨rfl, rfl⟩

set_option maxHeartbeats 1000000 in
set_option maxRecDepth 100000 in
theorem wAll_ok (s : ByteArray) (n : Nat) (w : World) (hs : s.size ≤ 1000000) (n0 : 1 ≤ n) (n1 : n ≤ 4000) (hn : n ≤ s.size) : Calls Tryz.prog 63 #[.string s, .int .i64 n] w fun r w' =>
    ∃ v, r = .returned v ∧ w'.ownsRow w.heap.size 3 1 v (s.size - n + 1) (sums s.data.toList n (s.size - n + 1)) ∧ Below w.heap.size w w' := by
  obtain ⟨i0, hi, hz0, hz1, hz2⟩ := info_parts Tryz.info3
  have n0' : (1 : Int) ≤ n := by omega
  have n1' : (n : Int) ≤ 4000 := by omega
  have hn' : (n : Int) ≤ s.size := by omega
  have hs' : (s.size : Int) ≤ 1000000 := by omega
  have I := hide (fun W => isLength_ok n W)
  rw [show decide (1 ≤ (n : Int) ∧ (n : Int) ≤ 4000) = true from decide_eq_true ⟨n0', n1'⟩] at I
  have ez : (s.extract 0 n).data.toList = Go.Weak.part s.data.toList 0 n := by rw [extractL]; rfl
  have HS := hide (fun W => wsumOf_ok (s.extract 0 n) W (by rw [ByteArray.size_extract]; omega))
  rw [ez] at HS
  have H0 := hide (fun W => hwhole_ok (hA (Go.Weak.part s.data.toList 0 n)) (hB (Go.Weak.part s.data.toList 0 n)) W (hA_nonneg _) (hA_lt _) (hB_nonneg _) (hB_lt _))
  have E0 : Hid (hA (Go.Weak.part s.data.toList 0 n) + 65536 * hB (Go.Weak.part s.data.toList 0 n) = wk (Go.Weak.part s.data.toList 0 n)) := rfl
  unfold hv at HS H0
  clear ez
  generalize ha : hA (Go.Weak.part s.data.toList 0 n) = a at *
  generalize hb : hB (Go.Weak.part s.data.toList 0 n) = b at *
  have Ha := hide ha
  have Hb := hide hb
  clear ha hb
  go_enter Tryz.func63, Tryz.ntmps63
  go_wp2_with fail
  refine (I.out _).mono ?_
  rintro e w1 ⟨rfl, rfl⟩
  go_wp2_with fail
  refine (HS.out _).mono ?_
  rintro e w2 ⟨rfl, hb2⟩
  have Hb2 := hide hb2
  clear hb2
  go_wp2_with (first | (at_make; refine wpList_make_own _ rfl _ _ 104 rfl (w2.heap.size + 1) 3 i0 (.int .i64 0) 1 Tryz.underlying104 hi hz0 hz1 .i64 .i64 _ (s.size - n + 1) rfl rfl ?m1 ?m2 ?m3 ?m4 ?next))
  case m1 => omega
  case m2 => rw [hz2]; omega
  case m3 => unfold maxLen; omega
  case m4 => simp
  case next =>
    intro w3 hown3 hgrow3
    have hbg : Below (w2.heap.size + 1) (w2.alloc (.cells #[.int .i64 a, .int .i64 b] 134)) w3 := (Below.refl _ _).grown hgrow3 (by simp) (fun k hk => by cases hk)
    have hh3 : HvAt w2.heap.size w3 a b := (HvAt.fresh w2 a b 134).below hbg (by simp)
    have hb3 : Below w1.heap.size w1 w3 := (Hb2.out.alloc Hb2.out.size _).trans (hbg.mono (Nat.le_trans Hb2.out.size (by omega)))
    have Hown3 := hide hown3
    have Hh3 := hide hh3
    have Hb3 := hide hb3
    have Hp := hide Hb2.out.size
    clear hown3 hgrow3 hbg hb3 Hb2
    obtain ⟨c0, c1, f0, f1, lt⟩ := hh3
    generalize w2.heap.size = p at *
    go_wp2_with fail
    refine (H0.out _).mono ?_
    rintro e w4 ⟨rfl, hb4⟩
    have Hown4 := hide (own_below Hown3.out hb4)
    have Hh4 := hide (Hh3.out.below hb4 Hh3.out.lt)
    have Hb4 := hide (bthen Hb3.out hb4)
    clear hb4 c0 c1 f0 f1 lt Hown3 Hh3 Hb3
    rw [E0.out]
    generalize hv0 : wk (Go.Weak.part s.data.toList 0 n) = v0 at *
    have HV0 := hide hv0
    clear hv0
    go_wp2_with (first | (at_builtin; refine wpList_append_own _ rfl (.tmp 27) (.tmp 30) 104 rfl (p + 1) 3 i0 (.int .i64 0) 1 8 Tryz.underlying104 hi hz0 hz1 hz2 rfl (by decide) _ 0 [] rfl ?own ⟨w4.heap.size, 0, none⟩ 1 1 [.int .i64 v0] rfl rfl ?c1 ?c2 ?b1 ?b2 ?b3 ?next))
    case own => exact Hown4.out.alloc _
    case c1 => intro j u hj; match j, hj with | 0, hj => simp at hj; subst hj; simp [Addr.add]
    case c2 => intro u hu; simp at hu; subst hu; rfl
    case b1 => unfold maxLen; omega
    case b2 => omega
    case b3 => have := Hh4.out.lt; simp; omega
    case next =>
      intro v5 w5 hown5 hgrow5 _
      have hb5 : Below (p + 1) w4 w5 := ((Below.refl _ _).alloc (by have := Hh4.out.lt; omega) _).grown hgrow5 (by have := Hh4.out.lt; simp; omega) (fun k hk => (Hown4.out.lt k hk).1)
      have Hh5 := hide (Hh4.out.below hb5 (by omega))
      have Hb5 := hide (Hb4.out.trans (hb5.mono (Nat.le_trans Hp.out (by omega))))
      have Hown5 := hide hown5
      clear hb5 hown5 hgrow5 Hown4 Hh4 Hb4
      go_wp2_with fail
      go_loopw [6, 7] (fun t6 t7 wr => ∃ k : Nat, t7 = .int .i64 ((k : Int) + (n : Int)) ∧ k + n ≤ s.size ∧ Hid (wr.ownsRow (p + 1) 3 1 t6 (k + 1) (sums s.data.toList n (k + 1))) ∧ Hid (HvAt p wr (hA (Go.Weak.part s.data.toList k n)) (hB (Go.Weak.part s.data.toList k n))) ∧ Hid (Below w1.heap.size w1 wr)) (fun _ t7 _ => s.size - (intOf t7).toNat)
      case atStart =>
        refine ⟨0, by simp, by omega, ?_, ?_, Hb5.out⟩
        · have := Hown5.out
          rw [sums_succ, HV0.out]
          simpa [Hid, sums] using this
        · rw [Ha.out, Hb.out]; exact Hh5.out
      case round =>
        clear Hh5 Hb5 Hown5 HS H0 E0 HV0 Ha Hb I
        obtain ⟨k, rfl, hk, Hown, Hh, Hbb⟩ := hrel
        by_cases hlt : k + n < s.size
        · have hlt' : (k : Int) + (n : Int) < s.size := by omega
          have hk1 : k < s.size := by omega
          have hk1' : (k : Int) < s.size := by omega
          have hw1 : IntKind.i64.wrap ((k : Int) + (n : Int) - (n : Int)) = (k : Int) := by rw [iwrap_id _ (by omega) (by omega)]; omega
          have hw2 : IntKind.i64.wrap (k : Int) = (k : Int) := iwrap_id _ (by omega) (by omega)
          obtain ⟨e1, e2⟩ := slideAB s.data.toList k n (by omega) (by rw [lenL]; exact hlt)
          have HR := hide (fun W => hroll_ok (hA (Go.Weak.part s.data.toList k n)) (hB (Go.Weak.part s.data.toList k n)) n (s[k].toNat : Int) (s[k + n].toNat : Int) W (hA_nonneg _) (hA_lt _) (hB_nonneg _) (hB_lt _) (by omega) (by omega) (by omega) (by have := byte_lt s[k]; omega) (by omega) (by have := byte_lt s[k + n]; omega))
          rw [atL s k (by omega), atL s (k + n) (by omega)] at e1 e2
          rw [e1, e2] at HR
          have HW := hide (fun W => hwhole_ok (hA (Go.Weak.part s.data.toList (k + 1) n)) (hB (Go.Weak.part s.data.toList (k + 1) n)) W (hA_nonneg _) (hA_lt _) (hB_nonneg _) (hB_lt _))
          have EW : Hid (hA (Go.Weak.part s.data.toList (k + 1) n) + 65536 * hB (Go.Weak.part s.data.toList (k + 1) n) = wk (Go.Weak.part s.data.toList (k + 1) n)) := rfl
          unfold hv at HR HW
          clear e1 e2
          generalize hA (Go.Weak.part s.data.toList k n) = a0 at *
          generalize hB (Go.Weak.part s.data.toList k n) = b0 at *
          generalize ha1 : hA (Go.Weak.part s.data.toList (k + 1) n) = a1 at *
          generalize hb1 : hB (Go.Weak.part s.data.toList (k + 1) n) = b1 at *
          generalize hv1 : wk (Go.Weak.part s.data.toList (k + 1) n) = v1 at *
          have HH := hide (And.intro ha1 (And.intro hb1 hv1))
          clear ha1 hb1 hv1
          obtain ⟨c0, c1, f0, f1, lt⟩ := Hh.out
          go_wp2_with fail
          go_region_with (go_at_call 85; refine (HR.out _).mono ?_; rintro e w6 ⟨rfl, hb6⟩; have Hb6 := hide hb6; clear hb6; obtain ⟨k0, k1, g0, g1, klt⟩ := Hh.out.drew.below Hb6.out lt)
          all_goals
            have Hh7 := hide ((Hh.out.drew.below Hb6.out lt).set a1 b1)
            have Hown7 := hide (ownsRow_setCell_below (ownsRow_setCell_below (own_below (w := wr.drew) Hown.out Hb6.out) (a := ⟨p, 0, none⟩) (by simp) (.int .i64 a1)) (a := ⟨p, 1, none⟩) (by simp) (.int .i64 b1))
            have Hb7 := hide (((bthen Hbb.out.drew Hb6.out).setCell (p := ⟨p, 0, none⟩) Hp.out (.int .i64 a1)).setCell (p := ⟨p, 1, none⟩) Hp.out (.int .i64 b1))
            clear k0 k1 g0 g1 klt c0 c1 f0 f1 lt Hb6 HR hw1 hw2
            generalize (w6.setCell ⟨p, 0, none⟩ (.int .i64 a1)).setCell ⟨p, 1, none⟩ (.int .i64 b1) = w7 at *
            obtain ⟨c0, c1, f0, f1, lt⟩ := Hh7.out
            go_wp2_with fail
            refine (HW.out _).mono ?_
            rintro e w8 ⟨rfl, hb8⟩
            have Hown8 := hide (own_below Hown7.out hb8)
            have Hh8 := hide (Hh7.out.below hb8 Hh7.out.lt)
            have Hb8 := hide (bthen Hb7.out hb8)
            clear hb8 c0 c1 f0 f1 lt Hown7 Hh7 Hb7 HW
            rw [EW.out]
            go_wp2_with (first | (at_builtin; refine wpList_append_own _ rfl (.tmp 50) (.tmp 53) 104 rfl (p + 1) 3 i0 (.int .i64 0) 1 8 Tryz.underlying104 hi hz0 hz1 hz2 rfl (by decide) u6 (k + 1) (sums s.data.toList n (k + 1)) rfl ?own ⟨w8.heap.size, 0, none⟩ 1 1 [.int .i64 v1] rfl rfl ?c1 ?c2 ?b1 ?b2 ?b3 ?next))
            case own => exact Hown8.out.alloc _
            case c1 => intro j u hj; match j, hj with | 0, hj => simp at hj; subst hj; simp [Addr.add]
            case c2 => intro u hu; simp at hu; subst hu; rfl
            case b1 => unfold maxLen; omega
            case b2 => omega
            case b3 => have := Hh8.out.lt; simp; omega
            case next =>
              intro v9 w9 hown9 hgrow9 _
              have hb9 : Below (p + 1) w8 w9 := ((Below.refl _ _).alloc (by have := Hh8.out.lt; omega) _).grown hgrow9 (by have := Hh8.out.lt; simp; omega) (fun k hk => (Hown8.out.lt k hk).1)
              have Hh9 := hide (Hh8.out.below hb9 (by omega))
              have Hb9 := hide (Hb8.out.trans (hb9.mono (Nat.le_trans Hp.out (by omega))))
              have Hown9 := hide hown9
              clear hb9 hown9 hgrow9 Hown8 Hh8 Hb8
              go_wp2_with fail
              go_roundw
              case rel =>
                obtain ⟨ha1, hb1, hv1⟩ := HH.out
                refine ⟨k + 1, by go_num, by omega, ?_, ?_, Hb9.out⟩
                · rw [sums_succ, hv1]; exact Hown9.out
                · rw [ha1, hb1]; exact Hh9.out
              case measure => simp [intOf]; omega
        · have hle : (s.size : Int) ≤ (k : Int) + (n : Int) := by omega
          have hke : k + 1 = s.size - n + 1 := by omega
          go_wp2_with fail
          go_ret
          refine ⟨_, rfl, ?_, Hbb.out⟩
          have h := own_mono Hown.out (Nat.le_trans Hp.out (Nat.le_succ _))
          rw [hke] at h
          exact h

/-- The cells of the sums. -/
theorem sums_cell {w : World} {b g c k n m : Nat} {l : List UInt8} (h : w.ownsRow b 3 1 (.slice (some ⟨g, 0, none⟩) k c) k (sums l n m)) (j : Nat) (hj : j < m) : w.cell? ⟨g, j, none⟩ = some (.int .i64 (wk (Go.Weak.part l j n))) := by
  have hc := h.cells (g := g) rfl j (.int .i64 (wk (Go.Weak.part l j n))) (by simp [sums, hj])
  rw [Go.WideShapes.add_plain] at hc
  simpa using hc
end Go.Proofs.YtcenohaadggdiacGreatDoor
