/-
  Contract of the law's sameLines over this dump.
  Lines of package files as cells: what the program's table says of their type.
  Contracts of the laws' LongLines, AsLines over this dump.
  Contract of the document's answer over this dump: IsName.
  Contracts of the document's answer: Fine, Bare.
-/
import Derived.Test.YtbflmkjlpopeaadGreatDoorJoin03
import Derived.BigQuiet
import Derived.Deep.QuietTactic
import Derived.Laws.Cover1
import Derived.Deep.AppendLies
import Derived.Deep.RegionHeld3
import Derived.Test.YtbflmkjlpopeaadGreatDoorJoin02
import Derived.Deep.DeepCutAuto
import Derived.Test.YtbflmkjlpopeaadGreatDoorJoin01
namespace Go.Proofs.YtbflmkjlpopeaadGreatDoor
open Go.RowKit
open Go.Files (Ln)

set_option maxHeartbeats 2000000 in
set_option maxRecDepth 100000 in
theorem sameLines_ok (u v : Value) (l : List Ln) (w : World) (hu : LRow w u l) (hv : MRow w v l) (hl : l.length ≤ 1000000) (hs : ∀ x ∈ l, 0 ≤ x.sum ∧ x.sum < 4294967296) :
    Calls Tryz.prog 14 #[u, v] w fun r w' => r = .returned (.bool true) ∧ Below w.heap.size w w' := by
  obtain ⟨a1, c1, rfl, hu⟩ := hu
  obtain ⟨a2, c2, rfl, hv⟩ := hv
  have HU := hide hu
  have HV := hide hv
  have HS := hide hs
  have hl' : (l.length : Int) ≤ 1000000 := by omega
  clear hu hv hs
  go_enter Tryz.func14, Tryz.ntmps14
  go_wp2_with fail
  go_loopw [5] (fun t wr => ∃ j : Nat, t = .int .i64 j ∧ j ≤ l.length ∧ Hid (Below w.heap.size w wr)) (fun t _ => l.length - (intOf t).toNat)
  case atStart => exact ⟨0, rfl, by omega, Below.refl _ _⟩
  case round =>
    obtain ⟨j, rfl, hj, Hb⟩ := hrel
    by_cases hlt : j < l.length
    · have hlt' : (j : Int) < l.length := by omega
      obtain ⟨b, o, rfl, hc⟩ := HU.out (by omega)
      obtain ⟨b', o', rfl, hc'⟩ := HV.out (by omega)
      obtain ⟨c0, c1, c2⟩ := hc j hlt
      obtain ⟨c0', c1', c2'⟩ := hc' j hlt
      have d0 := (Hb.out.cell (World.block_lt_of_cell? _ _ c0)).trans c0
      have d1 := (Hb.out.cell (World.block_lt_of_cell? _ _ c1)).trans c1
      have d2 := (Hb.out.cell (World.block_lt_of_cell? _ _ c2)).trans c2
      have e0 := (Hb.out.cell (World.block_lt_of_cell? _ _ c0')).trans c0'
      have e1 := (Hb.out.cell (World.block_lt_of_cell? _ _ c1')).trans c1'
      have e2 := (Hb.out.cell (World.block_lt_of_cell? _ _ c2')).trans c2'
      obtain ⟨s0, s1⟩ := HS.out _ (List.getElem_mem hlt)
      clear hc hc' c0 c1 c0' c1' c2 c2'
      generalize l[j] = x at *
      have hwr : IntKind.i64.wrap x.sum = x.sum := iwrap_id _ (by omega) (by omega)
      go_wp2_with fail
      go_quiet (fail)
      go_wp2_with fail
      go_roundw
      case rel => exact ⟨j + 1, by go_num, by omega, Hb.out.trans ⟨rfl, rfl, rfl, Nat.le_refl _, fun _ _ => rfl⟩⟩
      case measure => simp [intOf]; omega
    · have hle : (l.length : Int) ≤ (j : Int) := by omega
      go_wp2_with fail
      go_ret
      exact ⟨rfl, Hb.out⟩

end Go.Proofs.YtbflmkjlpopeaadGreatDoor

namespace Go.Proofs.YtbflmkjlpopeaadGreatDoor
open Go.RowKit
open Go.Files (Ln)

theorem Tryz.info60 : (Tryz.prog.info? 60).map (fun i => (i.zero, i.size, i.bytes)) = some (some (.agg #[.string ⟨#[]⟩, .int .i64 0, .int .u32 0]), 3, 32) := by kernel_rfl
/-- Lines of package files as cells. -/
abbrev lcs (l : List Ln) : List Value := cs3 (fun x : Ln => .string x.name) (fun x => .int .i64 x.n) (fun x => .int .u32 x.sum) l
theorem uwrap_id (x : Int) (h0 : 0 ≤ x) (h1 : x < 4294967296) : IntKind.u32.wrap x = x := by rw [IntKind.wrap_u32]; omega
end Go.Proofs.YtbflmkjlpopeaadGreatDoor

namespace Go.Proofs.YtbflmkjlpopeaadGreatDoor
open Go.RowKit
open Go.Files (Ln)

/-- Is a line too long for a law? -/
def longN (x : Ln) : Bool := (decide (30 < x.name.size) || decide (x.sum < 0)) || decide (4294967295 < x.sum)
def longL (l : List Ln) : Bool := decide (25 < l.length) || l.any longN
theorem longL_false {l : List Ln} (h : longL l = false) : l.length ≤ 25 ∧ ∀ x ∈ l, x.name.size ≤ 30 ∧ 0 ≤ x.sum ∧ x.sum < 4294967296 := by
  simp only [longL, Bool.or_eq_false_iff, decide_eq_false_iff_not, List.any_eq_false] at h
  refine ⟨by omega, fun o ho => ?_⟩
  have := h.2 o ho
  simp only [longN, Bool.or_eq_true, decide_eq_true_eq] at this
  omega

set_option maxHeartbeats 2000000 in
set_option maxRecDepth 100000 in
theorem longLines_ok (v : Value) (l : List Ln) (w : World) (hv : MRow w v l) :
    Calls Tryz.prog 5 #[v] w fun r w' => r = .returned (.int .i64 (bit (longL l))) ∧ w' = w := by
  obtain ⟨a, c, rfl, hv⟩ := hv
  have HV := hide hv
  clear hv
  by_cases h25 : 25 < l.length
  · have h25' : (25 : Int) < l.length := by omega
    have HB : Hid (longL l = true) := by simp [Hid, longL, h25]
    go_enter Tryz.func5, Tryz.ntmps5
    go_wp2_with fail
    go_ret
    exact ⟨by rw [HB.out]; rfl, rfl⟩
  · have h25' : (l.length : Int) ≤ 25 := by omega
    have H0 : Hid ((l.drop 0).any longN = longL l) := by rw [List.drop_zero]; simp only [Hid, longL]; rw [decide_eq_false (by omega)]; rfl
    generalize longL l = B at *
    go_enter Tryz.func5, Tryz.ntmps5
    go_wp2_with fail
    go_loopw [3] (fun t wr => ∃ j : Nat, t = .int .i64 j ∧ j ≤ l.length ∧ Hid ((l.drop j).any longN = B) ∧ wr = w) (fun t _ => l.length - (intOf t).toNat)
    case atStart => exact ⟨0, rfl, by omega, H0.out, rfl⟩
    case round =>
      clear H0
      obtain ⟨j, rfl, hj, HI, rfl⟩ := hrel
      by_cases hlt : j < l.length
      · have hlt' : (j : Int) < l.length := by omega
        obtain ⟨b, o, rfl, hc⟩ := HV.out (by omega)
        obtain ⟨d0, _, d2⟩ := hc j hlt
        have hI := HI.out
        rw [List.drop_eq_getElem_cons hlt, List.any_cons] at hI
        have HI' := hide hI
        clear hc HV HI hI
        generalize l[j] = x at *
        obtain ⟨k, n, s⟩ := x
        simp only [longN] at d0 d2 HI'
        by_cases g1 : 30 < k.size
        · have c1 : decide ((30 : Int) < k.size) = true := by simp; omega
          have hI := HI'.out
          rw [decide_eq_true g1, Bool.true_or, Bool.true_or, Bool.true_or] at hI
          subst hI
          clear g1 HI'
          go_wp2_with fail
          go_ret
          exact ⟨rfl, rfl⟩
        · have c1 : decide ((30 : Int) < k.size) = false := by simp; omega
          by_cases g2 : s < 0
          · have c2 : decide (s < 0) = true := by simp; omega
            have hI := HI'.out
            rw [decide_eq_true g2, Bool.or_true, Bool.true_or, Bool.true_or] at hI
            subst hI
            clear g1 g2 HI'
            go_wp2_with fail
            go_ret
            exact ⟨rfl, rfl⟩
          · have c2 : decide (s < 0) = false := by simp; omega
            by_cases g3 : 4294967295 < s
            · have c3 : decide (4294967295 < s) = true := by simp; omega
              have hI := HI'.out
              rw [decide_eq_true g3, Bool.or_true, Bool.true_or] at hI
              subst hI
              clear g1 g2 g3 HI'
              go_wp2_with fail
              go_ret
              exact ⟨rfl, rfl⟩
            · have c3 : decide (4294967295 < s) = false := by simp; omega
              have hI := HI'.out
              rw [decide_eq_false g1, decide_eq_false g2, decide_eq_false g3, Bool.false_or, Bool.false_or, Bool.false_or] at hI
              have HI := hide hI
              clear g1 g2 g3 HI' hI
              go_wp2_with fail
              go_roundw
              case rel => exact ⟨j + 1, by go_num, by omega, HI.out, trivial⟩
              case measure => simp [intOf]; omega
      · have hle : (l.length : Int) ≤ (j : Int) := by omega
        have hI := HI.out
        rw [List.drop_eq_nil_of_le (by omega), List.any_nil] at hI
        subst hI
        clear HI
        go_wp2_with fail
        go_ret
        exact ⟨rfl, rfl⟩

set_option maxHeartbeats 4000000 in
set_option maxRecDepth 100000 in
theorem asLines_ok (v : Value) (l : List Ln) (w : World) (hv : MRow w v l) (hl : l.length ≤ 1000) (hs : ∀ x ∈ l, 0 ≤ x.sum ∧ x.sum < 4294967296) :
    Calls Tryz.prog 8 #[v] w fun r w' => (∃ u, r = .returned u ∧ LRow w' u l) ∧ Below w.heap.size w w' := by
  obtain ⟨i0, hi, hz0, hz1, hz2⟩ := info_parts Tryz.info60
  obtain ⟨q, c, rfl, hv⟩ := hv
  have HV := hide hv
  have HS := hide hs
  have hl' : (l.length : Int) ≤ 1000 := by omega
  clear hv hs
  go_enter Tryz.func8, Tryz.ntmps8
  go_wp2_with fail
  go_loopw [3, 4] (fun t3 t4 wr => ∃ (j : Nat), t4 = .int .i64 j ∧ j ≤ l.length ∧ Hid (wr.ownsRow w.heap.size 60 3 t3 j (lcs (l.take j))) ∧ Hid (Below w.heap.size w wr)) (fun _ t4 _ => l.length - (intOf t4).toNat)
  case atStart => exact ⟨0, rfl, by omega, World.ownsRow_nil _ _ _ _, Below.refl _ _⟩
  case round =>
    obtain ⟨j, rfl, hj, Hown, Hb⟩ := hrel
    by_cases hlt : j < l.length
    · have hlt' : (j : Int) < l.length := by omega
      obtain ⟨b, o, rfl, hc⟩ := HV.out (by omega)
      obtain ⟨c0, c1, c2⟩ := hc j hlt
      have l0 := World.block_lt_of_cell? _ _ c0
      have d0 := (Hb.out.cell l0).trans c0
      have d1 := (Hb.out.cell (p := ⟨b, o + j * 3 + 1, none⟩) l0).trans c1
      have d2 := (Hb.out.cell (p := ⟨b, o + j * 3 + 2, none⟩) l0).trans c2
      have hbw : b < w.heap.size := l0
      have hbs := Hb.out.size
      have Hsn := hide (List.take_succ_eq_append_getElem hlt)
      obtain ⟨s0, s1⟩ := HS.out _ (List.getElem_mem hlt)
      clear hc c0 c1 c2
      generalize l[j] = x at *
      have hwr : IntKind.u32.wrap x.sum = x.sum := uwrap_id _ s0 s1
      have C0z := hide (fun obj => (((Below.refl wr.heap.size wr).alloc (Nat.le_refl _) obj).drew.cell (p := ⟨b, o + j * 3, none⟩) (show b < wr.heap.size by omega)).trans d0)
      have C1z := hide (fun obj => (((Below.refl wr.heap.size wr).alloc (Nat.le_refl _) obj).drew.cell (p := ⟨b, o + j * 3 + 1, none⟩) (show b < wr.heap.size by omega)).trans d1)
      have C2z := hide (fun obj => (((Below.refl wr.heap.size wr).alloc (Nat.le_refl _) obj).drew.cell (p := ⟨b, o + j * 3 + 2, none⟩) (show b < wr.heap.size by omega)).trans d2)
      have Hvb : Hid (u3.ownBlock ≠ some b) := fun e => by have := (Hown.out.lt b e).1; omega
      go_wp2_with fail
      go_region_held3 (fun w' => w'.cell? ⟨b, o + j * 3, none⟩ = some (.string x.name) ∧ w'.cell? ⟨b, o + j * 3 + 1, none⟩ = some (.int .i64 x.n) ∧ w'.cell? ⟨b, o + j * 3 + 2, none⟩ = some (.int .i64 x.sum)) (first | exact ⟨d0, d1, d2⟩ | exact ⟨C0z.out _, C1z.out _, C2z.out _⟩ | exact ⟨m0, m1, m2⟩)
        ((refine step_append_lies _ (by rfl) _ _ _ (by rfl) w.heap.size 60 i0 _ 3 32 Tryz.underlying32 hi hz0 hz1 hz2 rfl (by omega) u3 j (lcs (l.take j)) (by rfl) ((Hown.out.alloc _).drew)
              ⟨wr.heap.size, 0, none⟩ 1 1 [.string x.name, .int .i64 x.n, .int .u32 x.sum] (by rfl) (by rfl) (World.news_of_block (cs := #[.string x.name, .int .i64 x.n, .int .u32 x.sum]) (t := 60) (fr := (0, 0)) (heap_alloc_new wr _)) (by simp [Value.oneCell'])
              (by omega) (by unfold maxLen; omega) (by omega) (by simp; omega) (wr.heap.size + 1) (by simp) ?_; intro gg cap w1 hown1 hgrow hat hlt1; have m0 := (hgrow.cell_far ⟨b, o + j * 3, none⟩ (by simp; omega) (Ne.symm Hvb.out)).trans (C0z.out _); have m1 := (hgrow.cell_far ⟨b, o + j * 3 + 1, none⟩ (by simp; omega) (Ne.symm Hvb.out)).trans (C1z.out _); have m2 := (hgrow.cell_far ⟨b, o + j * 3 + 2, none⟩ (by simp; omega) (Ne.symm Hvb.out)).trans (C2z.out _)))
      all_goals
        have hb5 : Below w.heap.size wr w1 := (((Below.refl w.heap.size wr).alloc (by omega) _).drew).grown hgrow (by simp; omega) (fun k hk => (Hown.out.lt k hk).1)
        have Hb5 := hide (Hb.out.trans hb5)
        have Hown5 : Hid (w1.ownsRow w.heap.size 60 3 (.slice (some ⟨gg, 0, none⟩) (j + 1) cap) (j + 1) (lcs (l.take (j + 1)))) := by
          rw [Hsn.out, lcs, cs3_snoc]
          exact hown1
        clear hb5 hown1 hgrow hat hlt1 m0 m1 m2 Hown Hb Hsn d0 d1 d2 C0z C1z C2z Hvb
        go_wp2_with fail
        go_roundw
        case rel => exact ⟨j + 1, by go_num, by omega, Hown5.out, Hb5.out⟩
        case measure => simp [intOf]; omega
    · have hle : (l.length : Int) ≤ (j : Int) := by omega
      have Hr : Hid (LRow wr u3 l) := by
        have h := Hown.out
        rw [List.take_of_length_le (by omega)] at h
        exact Row3c.of_own h
      obtain ⟨a3, c3, rfl, _⟩ := Hr.out
      clear Hown
      go_wp2_with fail
      go_ret
      exact ⟨⟨_, rfl, Hr.out⟩, Hb.out⟩
end Go.Proofs.YtbflmkjlpopeaadGreatDoor

namespace Go.Proofs.YtbflmkjlpopeaadGreatDoor
open Go.RowKit
open Go.Files (okc isNm)

theorem all_take (s : ByteArray) (j : Nat) (h : j < s.size) : (s.data.toList.take (j + 1)).all okc = ((s.data.toList.take j).all okc && okc s[j]) := by
  rw [takeL s j h, List.all_append]
  simp
theorem all_false {s : ByteArray} {j : Nat} (h : j < s.size) (hc : okc s[j] = false) : s.data.toList.all okc = false := by
  rw [List.all_eq_false]
  exact ⟨s[j], by rw [← atL s j h]; exact List.getElem_mem _, by simp [hc]⟩
theorem isNm_all {s : ByteArray} (h : s.data.toList.all okc = true) : isNm s = (decide (1 ≤ s.size) && decide (s.size ≤ 12)) := by
  unfold isNm
  rw [h]
  rfl
theorem isNm_false {s : ByteArray} (h : s.data.toList.all okc = false) : isNm s = false := by
  unfold isNm
  rw [h]
  rfl

set_option maxHeartbeats 2000000 in
set_option maxRecDepth 100000 in
theorem isName_ok (s : ByteArray) (w : World) (hs : s.size ≤ 1000000) : Calls Tryz.prog 21 #[.string s] w fun r w' => r = .returned (.bool (isNm s)) ∧ w' = w := by
  have hs' : (s.size : Int) ≤ 1000000 := by omega
  have HF := hide (fun j h hc => all_false (s := s) (j := j) h hc)
  have HA := hide (isNm_all (s := s))
  have HN := hide (isNm_false (s := s))
  have HT := hide (all_take s)
  have H0 : Hid ((s.data.toList.take s.size) = s.data.toList) := by rw [← lenL s, List.take_length]; exact rfl
  go_enter Tryz.func21, Tryz.ntmps21
  go_wp2_with fail
  go_loop [3] (fun t => ∃ j : Nat, t = .int .i64 j ∧ j ≤ s.size ∧ Hid ((s.data.toList.take j).all okc = true)) (fun t => s.size - (intOf t).toNat)
  case atStart => exact ⟨0, rfl, by omega, by simp [Hid]⟩
  case round =>
    obtain ⟨j, rfl, hj, Hj⟩ := hrel
    by_cases hlt : j < s.size
    · have hlt' : (j : Int) < s.size := by omega
      have hb := byte_lt s[j]
      have hF := HF.out j hlt
      have hT := HT.out j hlt
      rw [Hj.out, Bool.true_and] at hT
      have ho : okc s[j] = ((decide (97 ≤ s[j].toNat) && decide (s[j].toNat ≤ 122)) || (decide (48 ≤ s[j].toNat) && decide (s[j].toNat ≤ 57)) || decide (s[j].toNat = 46) || decide (s[j].toNat = 45)) := rfl
      have Ho := hide ho
      have HT' := hide hT
      have HF' := hide hF
      clear hF hT HF HT HA H0 ho
      go_upto_region 4 with fail
      go_cut [4] (fun v4 wc => v4 = .bool (decide (97 ≤ s[j].toNat) && decide (s[j].toNat ≤ 122)) ∧ wc = w)
      case first =>
        by_cases a1 : 97 ≤ s[j].toNat
        · have a1' : (97 : Int) ≤ s[j].toNat := by omega
          go_wp2_with fail
          go_meet
          case rel => exact ⟨by simp [a1]; omega, rfl⟩
        · have a1' : (s[j].toNat : Int) < 97 := by omega
          go_wp2_with fail
          go_meet
          case rel => exact ⟨by simp [a1], rfl⟩
      case rest =>
        obtain ⟨rfl, rfl⟩ := hcut
        go_upto_region 5 with fail
        go_cut [5] (fun v5 wd => v5 = .bool (decide (48 ≤ s[j].toNat) && decide (s[j].toNat ≤ 57)) ∧ wd = wc)
        case first =>
          by_cases a1 : 48 ≤ s[j].toNat
          · have a1' : (48 : Int) ≤ s[j].toNat := by omega
            go_wp2_with fail
            go_meet
            case rel => exact ⟨by simp [a1]; omega, rfl⟩
          · have a1' : (s[j].toNat : Int) < 48 := by omega
            go_wp2_with fail
            go_meet
            case rel => exact ⟨by simp [a1], rfl⟩
        case rest =>
          obtain ⟨rfl, rfl⟩ := hcut
          generalize (decide (97 ≤ s[j].toNat) && decide (s[j].toNat ≤ 122)) = L at *
          generalize (decide (48 ≤ s[j].toNat) && decide (s[j].toNat ≤ 57)) = D at *
          go_upto_region 6 with fail
          go_cut [49] (fun v49 we => v49 = .bool (!(okc s[j])) ∧ we = wc)
          case first =>
            cases L with
            | true =>
              go_wp2_with fail
              go_meet
              case rel => exact ⟨by rw [Ho.out]; rfl, rfl⟩
            | false =>
              cases D with
              | true =>
                go_wp2_with fail
                go_meet
                case rel => exact ⟨by rw [Ho.out]; rfl, rfl⟩
              | false =>
                by_cases e1 : s[j].toNat = 46
                · have e1' : ((s[j].toNat : Int) != 46) = false := by simp; omega
                  go_wp2_with fail
                  go_meet
                  case rel => exact ⟨by rw [Ho.out]; simp [e1], rfl⟩
                · have e1' : ((s[j].toNat : Int) != 46) = true := by simp; omega
                  go_wp2_with fail
                  go_meet
                  case rel => exact ⟨by rw [Ho.out, Value.bool.injEq, Bool.eq_iff_iff]; simp [e1]; omega, rfl⟩
          case rest =>
            obtain ⟨rfl, rfl⟩ := hcut
            cases hok : okc s[j] with
            | true =>
              have HT2 := hide (HT'.out.trans hok)
              clear HT' HF' Ho
              go_wp2_with fail
              go_round
              case rel => exact ⟨j + 1, by go_num, by omega, HT2.out⟩
              case measure => simp [intOf]; omega
            | false =>
              have HF2 := hide (HN.out (HF'.out hok))
              clear HT' HF' Ho
              go_wp2_with fail
              go_ret
              exact ⟨ret_bool HF2.out.symm, rfl⟩
    · have hle : (s.size : Int) ≤ j := by omega
      obtain rfl : j = s.size := by omega
      have hA := Hj.out
      rw [H0.out] at hA
      have HA' := hide (HA.out hA)
      clear hA Hj HA HN HF HT H0
      by_cases h1 : 1 ≤ s.size
      · have h1' : (1 : Int) ≤ s.size := by omega
        go_wp2_with fail
        go_ret
        exact ⟨ret_bool (by rw [HA'.out]; simp [h1]; omega), rfl⟩
      · have h1' : (s.size : Int) < 1 := by omega
        go_wp2_with fail
        go_ret
        exact ⟨ret_bool (by rw [HA'.out]; simp [h1]), rfl⟩
end Go.Proofs.YtbflmkjlpopeaadGreatDoor

namespace Go.Proofs.YtbflmkjlpopeaadGreatDoor
open Go.RowKit

/-- A fault of the document's answer: an error's number and where. -/
def fval (f : Nat × Int) : Value := .agg #[.int .i64 f.1, .int .i64 f.2]

set_option maxHeartbeats 1000000 in
set_option maxRecDepth 100000 in
theorem fine_ok (w : World) : Calls Tryz.prog 22 #[] w fun r w' => r = .returned (.agg #[.int .i64 0, .int .i64 (-1)]) ∧ Below w.heap.size w w' := by
  go_enter Tryz.func22, Tryz.ntmps22
  go_wp2
  (try simp only [Exit.inBlock, Exit.then])
  refine bodyPost_ret (v := .agg #[.int .i64 0, .int .i64 (-1)]) ?_ rfl ⟨rfl, (Below.refl _ _).alloc (Nat.le_refl _) _⟩
  simp only [results, show Tryz.f22.results = #[.cell 0 26] from rfl]
  go_simp

set_option maxHeartbeats 1000000 in
set_option maxRecDepth 100000 in
theorem bare_ok (c : Int) (w : World) : Calls Tryz.prog 20 #[.int .i64 c] w fun r w' => r = .returned (.agg #[.int .i64 c, .int .i64 (-1)]) ∧ Below w.heap.size w w' := by
  go_enter Tryz.func20, Tryz.ntmps20
  go_wp2
  (try simp only [Exit.inBlock, Exit.then])
  refine bodyPost_ret (v := .agg #[.int .i64 c, .int .i64 (-1)]) ?_ rfl ⟨rfl, (Below.refl _ _).alloc (Nat.le_refl _) _⟩
  simp only [results, show Tryz.f20.results = #[.cell 2 26] from rfl]
  go_simp

end Go.Proofs.YtbflmkjlpopeaadGreatDoor
