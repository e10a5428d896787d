/-
  Contract of the document's Gate.set over this dump: a token's number is set, the tokens rise.
-/
import Derived.Test.YtogpjblikphpcaaGreatDoorRgDef
import Derived.Deep.AppendLies
import Derived.Deep.DeepCutAuto
import Derived.Laws.Cover1
namespace Go.Proofs.YtogpjblikphpcaaGreatDoor
open Go.RowKit
open Go.Gate
open Go.Files (lt)

theorem Tryz.infoTok : (Tryz.prog.info? 100).map (fun i => (i.zero, i.size, i.bytes)) = some (some (.agg #[.string ⟨#[]⟩, .int .i64 0]), 2, 24) := by kernel_rfl
/-- What is put together is the same, wherever one stands. -/
def setI (t : ByteArray) (n : Int) (l : Toks) (j : Nat) (out : Toks) (done : Bool) : Toks := if done then out ++ l.drop j else out ++ insT t n (l.drop j)
theorem setI_done (t : ByteArray) (n : Int) (l : Toks) (j : Nat) (out : Toks) (h : j < l.length) : setI t n l j out true = setI t n l (j + 1) (out ++ [l[j]]) true := by
  simp only [setI, if_true]
  rw [List.drop_eq_getElem_cons h, List.append_assoc]
  rfl
theorem setI_less (t : ByteArray) (n : Int) (l : Toks) (j : Nat) (out : Toks) (h : j < l.length) (hl : lt l[j].1 t = true) : setI t n l j out false = setI t n l (j + 1) (out ++ [l[j]]) false := by
  simp only [setI, Bool.false_eq_true, if_false]
  rw [List.drop_eq_getElem_cons h, insT, if_pos hl, List.append_assoc]
  rfl
theorem setI_same (t : ByteArray) (n : Int) (l : Toks) (j : Nat) (out : Toks) (h : j < l.length) (hl : lt l[j].1 t = false) (he : l[j].1 = t) : setI t n l j out false = setI t n l (j + 1) (out ++ [(t, n)]) true := by
  simp only [setI, Bool.false_eq_true, if_false, if_true]
  rw [List.drop_eq_getElem_cons h, insT, if_neg (by rw [hl]; simp), if_pos he, List.append_assoc]
  rfl
theorem setI_more (t : ByteArray) (n : Int) (l : Toks) (j : Nat) (out : Toks) (h : j < l.length) (hl : lt l[j].1 t = false) (he : l[j].1 ≠ t) : setI t n l j out false = setI t n l (j + 1) (out ++ [(t, n)] ++ [l[j]]) true := by
  simp only [setI, Bool.false_eq_true, if_false, if_true]
  rw [List.drop_eq_getElem_cons h, insT, if_neg (by rw [hl]; simp), if_neg he, List.append_assoc, List.append_assoc]
  rfl
theorem setI_end (t : ByteArray) (n : Int) (l : Toks) (out : Toks) : setI t n l l.length out false = out ++ [(t, n)] := by
  simp only [setI, Bool.false_eq_true, if_false]
  rw [List.drop_length, insT]
theorem setI_full (t : ByteArray) (n : Int) (l : Toks) (out : Toks) : setI t n l l.length out true = out := by
  simp only [setI, if_true]
  rw [List.drop_length, List.append_nil]

/-- The tokens put together so far, beside the gate. -/
abbrev setL (p : Nat) (l : Toks) (v u : Value) (out : Toks) : List Fam := [OwnF 100 2 u out.length (cs2 tokS tokN out), CellsF p 41 [v], OwnF 100 2 v l.length (cs2 tokS tokN l)]
theorem setL_next {M0 : Foot} {w0 wz : World} {p : Nat} {l out : Toks} {v u : Value} {x : ByteArray × Int} {n : Nat} {xs : List Value} (hx : xs = cs2 tokS tokN out) (hn : n = out.length + 1)
    (h : Sep M0 w0 [OwnF 100 2 u n (xs ++ [.string x.1, .int .i64 x.2]), CellsF p 41 [v], OwnF 100 2 v l.length (cs2 tokS tokN l)] wz) : Sep M0 w0 (setL p l v u (out ++ [x])) wz := by
  subst hx hn
  unfold setL
  rw [cs2_snoc, List.length_append, List.length_singleton]
  exact h

set_option maxHeartbeats 4000000 in
set_option maxRecDepth 100000 in
theorem rset_ok (p : Nat) (l : Toks) (t : ByteArray) (n : Int) (W : World) (hl : l.length ≤ 900) :
    Tri Tryz.prog 42 #[.pointer (some ⟨p, 0, none⟩), .string t, .int .i64 n] [RGt p l] (fun r L => r = .returned (.tuple #[]) ∧ L = [RGt p (insT t n l)]) W := by
  intro M hM
  obtain ⟨i0, hi, hz0, hz1, hz2⟩ := info_parts Tryz.infoTok
  obtain ⟨v, hS⟩ := RGt.open (Sep.of_star hM)
  obtain ⟨a, c, rfl, hcap⟩ := own_slice' hS.sw.own
  have H0 : Hid (Sep M W (setL p l (.slice a l.length c) (.slice none 0 0) []) W) := hS.nil 100 2
  have HR := hide (fun (u : Value) (out : Toks) wz (h : Sep M W (setL p l (.slice a l.length c) u out) wz) => show ∃ b, wz.cell? ⟨p, 0, none⟩ = some (.slice a l.length c) ∧ (0 < l.length → a = some ⟨b, 0, none⟩ ∧ ∀ j (hj : j < l.length), wz.cell? ⟨b, j * 2, none⟩ = some (.string l[j].1) ∧ wz.cell? ⟨b, j * 2 + 1, none⟩ = some (.int .i64 l[j].2)) by
    obtain ⟨a', c', e, hc⟩ := RGt.cells (RGt.shut (Sep.swap (L1 := [_]) h))
    have c0 := (h.sw.cell 0).1
    simp only [List.getElem?_cons_zero] at c0
    rw [c0] at e
    cases e
    by_cases hp : 0 < l.length
    · obtain ⟨b, rfl, hb⟩ := hc hp
      exact ⟨b, c0, fun _ => ⟨rfl, hb⟩⟩
    · exact ⟨0, c0, fun k => absurd k hp⟩)
  have HI0 : Hid (setI t n l 0 [] false = insT t n l) := by simp [Hid, setI]
  generalize insT t n l = R at *
  have hl' : (l.length : Int) ≤ 900 := by omega
  clear hS hM hcap
  go_enter Tryz.func42, Tryz.ntmps42
  go_wp2_with fail
  go_loopw [6, 7, 8] (fun t6 t7 t8 wr => ∃ (j : Nat) (out : Toks) (done : Bool), t8 = .int .i64 j ∧ t7 = .bool done ∧ j ≤ l.length ∧ out.length + (if done then 0 else 1) ≤ j + 1 ∧ Hid (setI t n l j out done = R) ∧ Hid (Sep M W (setL p l (.slice a l.length c) t6 out) wr)) (fun _ _ t8 _ => l.length - (intOf t8).toNat)
  case atStart => exact ⟨0, [], false, rfl, rfl, Nat.zero_le _, by simp, HI0.out, H0.out⟩
  case round =>
    clear H0 HI0
    obtain ⟨j, out, done, rfl, rfl, hj, hlen, HI, Hs⟩ := hrel
    obtain ⟨b, cp, hcc⟩ := HR.out _ _ _ Hs.out
    by_cases hlt : j < l.length
    · have hlt' : (j : Int) < l.length := by omega
      obtain ⟨rfl, hcd⟩ := hcc (by omega)
      obtain ⟨d0, d1⟩ := hcd j hlt
      have K1 := hide (setI_done t n l j out hlt)
      have K2 := hide (setI_less t n l j out hlt)
      have K3 := hide (setI_same t n l j out hlt)
      have K4 := hide (setI_more t n l j out hlt)
      have HX := hide (fun (u : Value) (out : Toks) wz (h : Sep M W (setL p l (.slice (some ⟨b, 0, none⟩) l.length c) u out) wz) => show wz.cell? ⟨p, 0, none⟩ = some (.slice (some ⟨b, 0, none⟩) l.length c) ∧ wz.cell? ⟨b, j * 2, none⟩ = some (.string l[j].1) ∧ wz.cell? ⟨b, j * 2 + 1, none⟩ = some (.int .i64 l[j].2) by
        obtain ⟨b', k0, hk⟩ := HR.out u out wz h
        obtain ⟨e, hk⟩ := hk (by omega)
        cases e
        exact ⟨k0, hk j hlt⟩)
      clear hcc hcd
      generalize l[j] = x at *
      obtain ⟨xn, xe⟩ := x
      simp only at d0 d1 K1 K2 K3 K4 HX
      have Ho := hide Hs.out.own
      cases done with
      | true =>
        simp only [if_true, Nat.add_zero] at hlen
        have HI1 := hide (K1.out.symm.trans HI.out)
        have HNx := hide (fun (u : Value) wz (h : Sep M W _ wz) => setL_next (M0 := M) (w0 := W) (p := p) (l := l) (v := .slice (some ⟨b, 0, none⟩) l.length c) (u := u) (x := (xn, xe)) rfl rfl (wz := wz) (out := out) h)
        clear K1 K2 K3 K4 HI HX HR
        generalize cs2 tokS tokN out = xs at *
        go_wp2_with (at_builtin; refine wpList_append_lies _ rfl (.tmp 48) (.tmp 56) 39 rfl 0 100 i0 _ 2 24 Tryz.underlying39 hi hz0 hz1 hz2 rfl (by decide) u6 (out.length) xs rfl (Ho.out.alloc _) ⟨wr.heap.size, 0, none⟩ 1 1 [.string xn, .int .i64 xe] rfl rfl ?c1_1 ?c2_1 (by decide) ?b1_1 ?b2_1 (Nat.zero_le _) _ rfl ?next_1)
        try case c1_1 => exact news2 _ _ _ _ _ rfl
        case c2_1 => first | exact ⟨rfl, rfl⟩ | (intro u hu; simp at hu; rcases hu with rfl | rfl <;> rfl)
        case b1_1 => unfold maxLen; omega
        case b2_1 => omega
        case next_1 =>
          intro g5 k5 w5 own5 hg5 hat5 hlt5
          have Hs5 := hide (HNx.out _ _ ((Hs.out.alloc (.cells #[.string xn, .int .i64 xe] 100)).lies own5 hg5 hat5 (by simp)))
          clear own5 hg5 hat5 hlt5 Hs Ho d0 d1 cp HNx
          go_wp2_with fail
          go_roundw
          case rel => exact ⟨j + 1, out ++ [(xn, xe)], true, by go_num, rfl, by omega, by simp; omega, HI1.out, Hs5.out⟩
          case measure => simp [intOf]; omega
      | false =>
        simp only [Bool.false_eq_true, if_false] at hlen
        cases hlx : lt xn t with
        | true =>
          have e : Op.bytesLess xn.toList t.toList = true := hlx
          have HI1 := hide ((K2.out hlx).symm.trans HI.out)
          have HNx := hide (fun (u : Value) wz (h : Sep M W _ wz) => setL_next (M0 := M) (w0 := W) (p := p) (l := l) (v := .slice (some ⟨b, 0, none⟩) l.length c) (u := u) (x := (xn, xe)) rfl rfl (wz := wz) (out := out) h)
          clear K1 K2 K3 K4 HI HX HR hlx
          generalize cs2 tokS tokN out = xs at *
          go_wp2_with (at_builtin; refine wpList_append_lies _ rfl (.tmp 48) (.tmp 56) 39 rfl 0 100 i0 _ 2 24 Tryz.underlying39 hi hz0 hz1 hz2 rfl (by decide) u6 (out.length) xs rfl (Ho.out.alloc _) ⟨wr.heap.size, 0, none⟩ 1 1 [.string xn, .int .i64 xe] rfl rfl ?c1_2 ?c2_2 (by decide) ?b1_2 ?b2_2 (Nat.zero_le _) _ rfl ?next_2)
          try case c1_2 => exact news2 _ _ _ _ _ rfl
          case c2_2 => first | exact ⟨rfl, rfl⟩ | (intro u hu; simp at hu; rcases hu with rfl | rfl <;> rfl)
          case b1_2 => unfold maxLen; omega
          case b2_2 => omega
          case next_2 =>
            intro g5 k5 w5 own5 hg5 hat5 hlt5
            have Hs5 := hide (HNx.out _ _ ((Hs.out.alloc (.cells #[.string xn, .int .i64 xe] 100)).lies own5 hg5 hat5 (by simp)))
            clear own5 hg5 hat5 hlt5 Hs Ho d0 d1 cp HNx
            go_wp2_with fail
            go_roundw
            case rel => exact ⟨j + 1, out ++ [(xn, xe)], false, by go_num, rfl, by omega, by simp; omega, HI1.out, Hs5.out⟩
            case measure => simp [intOf]; omega
        | false =>
          have e : Op.bytesLess xn.toList t.toList = false := hlx
          by_cases hx : xn = t
          · have e2 := same_bytes hx
            have HI1 := hide ((K3.out hlx hx).symm.trans HI.out)
            have HNx := hide (fun (u : Value) wz (h : Sep M W _ wz) => setL_next (M0 := M) (w0 := W) (p := p) (l := l) (v := .slice (some ⟨b, 0, none⟩) l.length c) (u := u) (x := (t, n)) rfl rfl (wz := wz) (out := out) h)
            clear K1 K2 K3 K4 HI HR hlx hx
            generalize cs2 tokS tokN out = xs at *
            go_wp2_with (at_builtin; refine wpList_append_lies _ rfl (.tmp 32) (.tmp 36) 39 rfl 0 100 i0 _ 2 24 Tryz.underlying39 hi hz0 hz1 hz2 rfl (by decide) u6 (out.length) xs rfl (Ho.out.alloc _) ⟨wr.heap.size, 0, none⟩ 1 1 [.string t, .int .i64 n] rfl rfl ?c1_3 ?c2_3 (by decide) ?b1_3 ?b2_3 (Nat.zero_le _) _ rfl ?next_3)
            try case c1_3 => exact news2 _ _ _ _ _ rfl
            case c2_3 => first | exact ⟨rfl, rfl⟩ | (intro u hu; simp at hu; rcases hu with rfl | rfl <;> rfl)
            case b1_3 => unfold maxLen; omega
            case b2_3 => omega
            case next_3 =>
              intro g5 k5 w5 own5 hg5 hat5 hlt5
              have Hs5 := hide (HNx.out _ _ ((Hs.out.alloc (.cells #[.string t, .int .i64 n] 100)).lies own5 hg5 hat5 (by simp)))
              obtain ⟨cp5, k0, _⟩ := HX.out _ _ _ Hs5.out
              clear own5 hg5 hat5 hlt5 Hs Ho d0 d1 cp HNx HX
              go_wp2_with fail
              go_roundw
              case rel => exact ⟨j + 1, out ++ [(t, n)], true, by go_num, rfl, by omega, by simp; omega, HI1.out, Hs5.out⟩
              case measure => simp [intOf]; omega
          · have e2 := other_bytes hx
            have HI1 := hide ((K4.out hlx hx).symm.trans HI.out)
            have HN1 := hide (fun (u : Value) wz (h : Sep M W _ wz) => setL_next (M0 := M) (w0 := W) (p := p) (l := l) (v := .slice (some ⟨b, 0, none⟩) l.length c) (u := u) (x := (t, n)) rfl rfl (wz := wz) (out := out) h)
            have HNx := hide (fun (u : Value) wz (h : Sep M W _ wz) => setL_next (M0 := M) (w0 := W) (p := p) (l := l) (v := .slice (some ⟨b, 0, none⟩) l.length c) (u := u) (x := (xn, xe)) rfl rfl (wz := wz) (out := out ++ [(t, n)]) h)
            clear K1 K2 K3 K4 HI HR hlx hx
            generalize cs2 tokS tokN out = xs at *
            go_wp2_with (at_builtin; refine wpList_append_lies _ rfl (.tmp 32) (.tmp 36) 39 rfl 0 100 i0 _ 2 24 Tryz.underlying39 hi hz0 hz1 hz2 rfl (by decide) u6 (out.length) xs rfl (Ho.out.alloc _) ⟨wr.heap.size, 0, none⟩ 1 1 [.string t, .int .i64 n] rfl rfl ?c1_4 ?c2_4 (by decide) ?b1_4 ?b2_4 (Nat.zero_le _) _ rfl ?next_4)
            try case c1_4 => exact news2 _ _ _ _ _ rfl
            case c2_4 => first | exact ⟨rfl, rfl⟩ | (intro u hu; simp at hu; rcases hu with rfl | rfl <;> rfl)
            case b1_4 => unfold maxLen; omega
            case b2_4 => omega
            case next_4 =>
              intro g5 k5 w5 own5 hg5 hat5 hlt5
              have Hs6 := hide (HN1.out _ _ ((Hs.out.alloc (.cells #[.string t, .int .i64 n] 100)).lies own5 hg5 hat5 (by simp)))
              obtain ⟨cp6, k0, k1⟩ := HX.out _ _ _ Hs6.out
              have Ho6 := hide Hs6.out.own
              clear own5 hg5 hat5 hlt5 Hs Ho d0 d1 cp HX HN1
              have hl6 : (out ++ [(t, n)]).length = out.length + 1 := by simp
              generalize cs2 tokS tokN (out ++ [(t, n)]) = ys at *
              go_wp2_with (at_builtin; refine wpList_append_lies _ rfl (.tmp 48) (.tmp 56) 39 rfl 0 100 i0 _ 2 24 Tryz.underlying39 hi hz0 hz1 hz2 rfl (by decide) (.slice (some ⟨g5, 0, none⟩) (out.length + 1) k5) (out ++ [(t, n)]).length ys rfl (Ho6.out.alloc _) ⟨w5.heap.size, 0, none⟩ 1 1 [.string xn, .int .i64 xe] rfl rfl ?c1_5 ?c2_5 (by decide) ?b1_5 ?b2_5 (Nat.zero_le _) _ rfl ?next_5)
              try case c1_5 => exact news2 _ _ _ _ _ rfl
              case c2_5 => first | exact ⟨rfl, rfl⟩ | (intro u hu; simp at hu; rcases hu with rfl | rfl <;> rfl)
              case b1_5 => unfold maxLen; omega
              case b2_5 => omega
              case next_5 =>
                intro g5 k5 w5 own5 hg5 hat5 hlt5
                rw [← hl6] at own5
                have Hs5 := hide (HNx.out _ _ ((Hs6.out.alloc (.cells #[.string xn, .int .i64 xe] 100)).lies own5 hg5 hat5 (by simp)))
                rw [hl6] at Hs5
                clear own5 hg5 hat5 hlt5 Hs6 Ho6 cp6 k0 k1 HNx
                go_wp2_with fail
                go_roundw
                case rel => exact ⟨j + 1, out ++ [(t, n)] ++ [(xn, xe)], true, by go_num, rfl, by omega, by simp; omega, HI1.out, Hs5.out⟩
                case measure => simp [intOf]; omega
    · have hle : (l.length : Int) ≤ (j : Int) := by omega
      obtain rfl : j = l.length := by omega
      have KE := hide (setI_end t n l out)
      have KF := hide (setI_full t n l out)
      clear hcc HR
      go_upto_if 59 with fail
      go_cut [6] (fun v6 wc => Hid (Sep M W (setL p l (.slice a l.length c) v6 R) wc))
      case first =>
        cases done with
        | true =>
          have hR : R = out := HI.out.symm.trans KF.out
          subst hR
          clear KE KF HI
          go_wp2_with fail
          go_meet
          case rel => exact Hs.out
        | false =>
          simp only [Bool.false_eq_true, if_false] at hlen
          have hR : R = out ++ [(t, n)] := HI.out.symm.trans KE.out
          subst hR
          have Ho := hide Hs.out.own
          have HNx := hide (fun (u : Value) wz (h : Sep M W _ wz) => setL_next (M0 := M) (w0 := W) (p := p) (l := l) (v := .slice a l.length c) (u := u) (x := (t, n)) rfl rfl (wz := wz) (out := out) h)
          clear KE KF HI
          generalize cs2 tokS tokN out = xs at *
          go_wp2_with (at_builtin; refine wpList_append_lies _ rfl (.tmp 60) (.tmp 64) 39 rfl 0 100 i0 _ 2 24 Tryz.underlying39 hi hz0 hz1 hz2 rfl (by decide) u6 (out.length) xs rfl (Ho.out.alloc _) ⟨wr.heap.size, 0, none⟩ 1 1 [.string t, .int .i64 n] rfl rfl ?c1_6 ?c2_6 (by decide) ?b1_6 ?b2_6 (Nat.zero_le _) _ rfl ?next_6)
          try case c1_6 => exact news2 _ _ _ _ _ rfl
          case c2_6 => first | exact ⟨rfl, rfl⟩ | (intro u hu; simp at hu; rcases hu with rfl | rfl <;> rfl)
          case b1_6 => unfold maxLen; omega
          case b2_6 => omega
          case next_6 =>
            intro g5 k5 w5 own5 hg5 hat5 hlt5
            have Hs5 := hide (HNx.out _ _ ((Hs.out.alloc (.cells #[.string t, .int .i64 n] 100)).lies own5 hg5 hat5 (by simp)))
            clear own5 hg5 hat5 hlt5 Hs Ho HNx
            go_wp2_with fail
            go_meet
            case rel => exact Hs5.out
      case rest =>
        have hs := hcut.out
        obtain ⟨a6, c6, rfl, _⟩ := own_slice' hs.own
        have cq := hs.sw.cell 0
        obtain ⟨cq, cf⟩ := cq
        simp only [List.getElem?_cons_zero] at cq
        have h2 := hs.sw.set 0 (.slice a6 R.length c6)
        simp only [List.set_cons_zero] at h2
        have HF := hide (RGt.shut (Sep.drop h2.third))
        clear hs h2 hcut Hs KE KF HI
        go_wp2_with fail
        go_end0
        exact ⟨_, ⟨rfl, rfl⟩, HF.out⟩
end Go.Proofs.YtogpjblikphpcaaGreatDoor
