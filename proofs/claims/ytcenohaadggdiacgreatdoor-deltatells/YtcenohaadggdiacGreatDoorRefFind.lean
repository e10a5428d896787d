/-
  Contracts of the document's FindOf, and of OwnBlocks, over this dump.
-/
import Derived.Test.YtcenohaadggdiacGreatDoorJoin05
import Derived.Test.YtcenohaadggdiacGreatDoorJoin16
namespace Go.Proofs.YtcenohaadggdiacGreatDoor
open Go.RowKit
open Go.Sign (Blk)

set_option maxHeartbeats 2000000 in
set_option maxRecDepth 100000 in
theorem findOf_ok (v : Value) (l : List Blk) (s : ByteArray) (w : World) (hv : RowIn w v l) (hl : l.length ≤ 1000000) (hs : s.size ≤ 1000000) :
    Calls Tryz.prog 25 #[v, .string s] w fun r w' => r = .returned (.int .i64 (findOut l (blk s.data.toList))) ∧ Below w.heap.size w w' := by
  have HW := hide (fun W => weakOf_ok s W hs)
  have HS := hide (fun W => sumOf_ok s W hs)
  obtain ⟨a, c, rfl, hv⟩ := hv
  have HV := hide hv
  have hl' : (l.length : Int) ≤ 1000000 := by omega
  have hs' : (s.size : Int) ≤ 1000000 := by omega
  have hcl := Go.Crc.crc_lt 0 s.data.toList (by decide)
  clear hv
  have hbk : blk s.data.toList = ⟨s.size, wk s.data.toList, Go.Crc.crc 0 s.data.toList⟩ := by unfold blk; rw [lenL]
  rw [hbk]
  clear hbk
  generalize wk s.data.toList = k at *
  generalize Go.Crc.crc 0 s.data.toList = q at *
  have hq1 : (q : Int) % 4294967296 = (q : Int) := by omega
  have hq2 : (q : Int) < 4294967296 := by omega
  clear hcl
  unfold findOut
  generalize hR : findFrom ⟨s.size, k, q⟩ l 0 = R
  have HR := hide hR
  clear hR
  go_enter Tryz.func25, Tryz.ntmps25
  go_wp2_with fail
  refine (HW.out _).mono ?_
  rintro r w1 ⟨rfl, rfl⟩
  go_wp2_with fail
  refine (HS.out _).mono ?_
  rintro r w2 ⟨rfl, rfl⟩
  go_wp2_with fail
  go_loop [7] (fun t => ∃ j : Nat, t = .int .i64 j ∧ j ≤ l.length ∧ Hid (findFrom ⟨s.size, k, q⟩ (l.drop j) j = R)) (fun t => l.length - (intOf t).toNat)
  case atStart => exact ⟨0, rfl, by omega, HR.out⟩
  case round =>
    clear HR
    obtain ⟨j, rfl, hj, Hf⟩ := hrel
    by_cases hlt : j < l.length
    · have hlt' : (j : Int) < l.length := by omega
      obtain ⟨g, o, rfl, hc⟩ := HV.out (by omega)
      obtain ⟨c0, c1, c2⟩ := hc j hlt
      have Hs := hide (find_step ⟨s.size, k, q⟩ l j hlt)
      rw [Hf.out] at Hs
      have Heq := hide (bval_eq l[j] ⟨s.size, k, q⟩)
      clear hc Hf HV
      generalize l[j] = x at *
      by_cases e0 : x.n = s.size
      · by_cases e1 : x.weak = k
        · by_cases e2 : x.strong = q
          · have hR : R = (j : Int) := by rw [Hs.out, if_pos (Heq.out.2 ⟨e0, e1, e2⟩)]
            subst hR
            have g0 : (x.n == (s.size : Int)) = true := by simp [e0]
            have g1 : (x.weak == k) = true := by simp [e1]
            have g2 : ((x.strong : Int) == (q : Int)) = true := by simp [e2]
            clear e0 e1 e2 Hs Heq
            go_wp2_with fail
            go_ret
            exact ⟨rfl, Below.refl _ _⟩
          · have Hn : Hid (findFrom ⟨s.size, k, q⟩ (l.drop (j + 1)) (j + 1) = R) := by rw [Hs.out, if_neg (fun h => e2 (Heq.out.1 h).2.2)]; exact rfl
            have g0 : (x.n == (s.size : Int)) = true := by simp [e0]
            have g1 : (x.weak == k) = true := by simp [e1]
            have g2 : ((x.strong : Int) == (q : Int)) = false := by simp; omega
            clear e0 e1 e2 Hs Heq
            go_wp2_with fail
            go_round
            case rel => exact ⟨j + 1, by go_num, by omega, Hn.out⟩
            case measure => simp [intOf]; omega
        · have Hn : Hid (findFrom ⟨s.size, k, q⟩ (l.drop (j + 1)) (j + 1) = R) := by rw [Hs.out, if_neg (fun h => e1 (Heq.out.1 h).2.1)]; exact rfl
          have g0 : (x.n == (s.size : Int)) = true := by simp [e0]
          have g1 : (x.weak == k) = false := by simp [e1]
          clear e0 e1 Hs Heq
          go_wp2_with fail
          go_round
          case rel => exact ⟨j + 1, by go_num, by omega, Hn.out⟩
          case measure => simp [intOf]; omega
      · have Hn : Hid (findFrom ⟨s.size, k, q⟩ (l.drop (j + 1)) (j + 1) = R) := by rw [Hs.out, if_neg (fun h => e0 (Heq.out.1 h).1)]; exact rfl
        have g0 : (x.n == (s.size : Int)) = false := by simp [e0]
        clear e0 Hs Heq
        go_wp2_with fail
        go_round
        case rel => exact ⟨j + 1, by go_num, by omega, Hn.out⟩
        case measure => simp [intOf]; omega
    · have hle : (l.length : Int) ≤ (j : Int) := by omega
      have hR : R = -1 := by rw [← Hf.out, List.drop_eq_nil_of_le (by omega), findFrom]
      subst hR
      go_wp2_with fail
      go_ret
      exact ⟨rfl, Below.refl _ _⟩

/-- Cells of a slice that reads as blocks, one by one. -/
theorem RowIn.news {w : World} {a : Option Addr} {c : Nat} {l : List Blk} (h : RowIn w (.slice a l.length c) l) (hp : 0 < l.length) : ∃ b o, a = some ⟨b, o, none⟩ ∧ ∀ j u, (bcs l)[j]? = some u → w.cell? ((⟨b, o, none⟩ : Addr).add j) = some u := by
  obtain ⟨a', c', e, h⟩ := h
  obtain ⟨b, o, rfl, hc⟩ := h hp
  have ea : a = some ⟨b, o, none⟩ := by simp at e; exact e.1
  refine ⟨b, o, ea, fun j u hu => ?_⟩
  rw [Go.WideShapes.add_plain]
  have hj : j < l.length * 3 := by
    have := (List.getElem?_eq_some_iff.1 hu).1
    rw [bcs_length] at this
    exact this
  have hd : j / 3 < l.length := by omega
  obtain ⟨g0, g1, g2⟩ := bcs_get l (j / 3) hd
  obtain ⟨c0, c1, c2⟩ := hc (j / 3) hd
  rcases (show j = j / 3 * 3 ∨ j = j / 3 * 3 + 1 ∨ j = j / 3 * 3 + 2 by omega) with e | e | e
  · rw [← e] at g0
    rw [g0] at hu
    cases hu
    rw [← e] at c0
    exact c0
  · rw [← e] at g1
    rw [g1] at hu
    cases hu
    rw [Nat.add_assoc, ← e] at c1
    exact c1
  · rw [← e] at g2
    rw [g2] at hu
    cases hu
    rw [Nat.add_assoc, ← e] at c2
    exact c2

set_option maxHeartbeats 1000000 in
set_option maxRecDepth 100000 in
theorem ownBlocks_ok (v : Value) (l : List Blk) (w : World) (hv : RowIn w v l) (hl : l.length ≤ 1000) :
    Calls Tryz.prog 7 #[v] w fun r w' => ∃ u, r = .returned u ∧ RowIn w' u l ∧ Below w.heap.size w w' := by
  obtain ⟨i0, hi, hz0, hz1, hz2⟩ := info_parts Tryz.info75
  have hv' := hv
  obtain ⟨a, c, rfl, _⟩ := hv'
  by_cases hp : 0 < l.length
  · obtain ⟨b, o, rfl, hn⟩ := hv.news hp
    have Hn := hide hn
    clear hn hv
    go_enter Tryz.func7, Tryz.ntmps7
    go_wp2_with (first | (at_builtin; refine wpList_append_own _ rfl (.tmp 4) (.tmp 5) 22 rfl w.heap.size 75 i0 (.agg #[.int .i64 0, .int .i64 0, .int .u32 0]) 3 24 Tryz.underlying22 hi hz0 hz1 hz2 rfl (by decide) (.slice none 0 0) 0 [] rfl ?own ⟨b, o, none⟩ l.length c (bcs l) rfl ?c0 ?c1 ?c2 ?b1 ?b2 ?b3 ?next))
    case own => exact World.ownsRow_nil _ _ _ _
    case c0 => exact bcs_length l
    case c1 => exact Hn.out
    case c2 => intro u hu; simp only [bcs, List.mem_flatMap, bcells] at hu; obtain ⟨x, _, hu⟩ := hu; simp at hu; rcases hu with rfl | rfl | rfl <;> rfl
    case b1 => unfold maxLen; omega
    case b2 => omega
    case b3 => exact Nat.le_refl _
    case next =>
      intro v5 w5 hown5 hgrow5 _
      have Hb5 := hide ((Below.refl w.heap.size w).grown hgrow5 (Nat.le_refl _) (fun k hk => by cases hk))
      have Hown5 := hide hown5
      clear hown5 hgrow5
      go_wp2_with fail
      go_ret
      refine ⟨_, rfl, ?_, Hb5.out⟩
      have h := Hown5.out
      exact RowIn.of_own h
  · have hz : l = [] := by cases l with
      | nil => rfl
      | cons x r => simp at hp
    subst hz
    clear hv
    rename_i hrest
    clear hrest hp
    simp only [List.length_nil]
    cases a with
    | none =>
      go_enter Tryz.func7, Tryz.ntmps7
      go_wp2
      go_ret
      exact ⟨_, rfl, ⟨none, 0, rfl, fun h => by simp at h⟩, Below.refl _ _⟩
    | some ad =>
      go_enter Tryz.func7, Tryz.ntmps7
      go_wp2_with (first | (at_builtin; refine wpList_append_own _ rfl (.tmp 4) (.tmp 5) 22 rfl w.heap.size 75 i0 (.agg #[.int .i64 0, .int .i64 0, .int .u32 0]) 3 24 Tryz.underlying22 hi hz0 hz1 hz2 rfl (by decide) (.slice none 0 0) 0 [] rfl ?own ad 0 c [] rfl rfl ?c1 ?c2 ?b1 ?b2 ?b3 ?next))
      case own => exact World.ownsRow_nil _ _ _ _
      case c1 => intro j u hu; simp at hu
      case c2 => intro u hu; cases hu
      case b1 => unfold maxLen; omega
      case b2 => omega
      case b3 => exact Nat.le_refl _
      case next =>
        intro v5 w5 hown5 hgrow5 _
        have Hb5 := hide ((Below.refl w.heap.size w).grown hgrow5 (Nat.le_refl _) (fun k hk => by cases hk))
        have Hown5 := hide hown5
        clear hown5 hgrow5
        go_wp2_with fail
        go_ret
        exact ⟨_, rfl, RowIn.of_own (l := []) Hown5.out, Hb5.out⟩
end Go.Proofs.YtcenohaadggdiacGreatDoor
