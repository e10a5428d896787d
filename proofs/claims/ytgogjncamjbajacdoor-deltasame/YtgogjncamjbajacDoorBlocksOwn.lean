/-
  Contract of the laws' OwnBlocks over this dump: the row is owned.
-/
import Derived.Test.YtgogjncamjbajacDoorRowIn
namespace Go.Proofs.YtgogjncamjbajacDoor
open Go.RowKit
open Go.Sign (Blk)

/-- Cells of a slice that reads as blocks, one by one. -/
theorem RowIn.newsD {w : World} {a : Option Addr} {c : Nat} {l : List Blk} (h : RowIn w (.slice a l.length c) l) (hp : 0 < l.length) : ∃ b o, a = some ⟨b, o, none⟩ ∧ ∀ j u, (bcs l)[j]? = some u → w.cell? ((⟨b, o, none⟩ : Addr).add j) = some u := by
  obtain ⟨a', c', e, h⟩ := h
  obtain ⟨b, o, rfl, hc⟩ := h hp
  have ea : a = some ⟨b, o, none⟩ := by simp at e; exact e.1
  refine ⟨b, o, ea, fun j u hu => ?_⟩
  rw [Go.WideShapes.add_plain]
  have hj : j < l.length * 3 := by
    have := (List.getElem?_eq_some_iff.1 hu).1
    rw [bcs_length] at this
    exact this
  have hd : j / 3 < l.length := by omega
  obtain ⟨g0, g1, g2⟩ := bcs_get l (j / 3) hd
  obtain ⟨c0, c1, c2⟩ := hc (j / 3) hd
  rcases (show j = j / 3 * 3 ∨ j = j / 3 * 3 + 1 ∨ j = j / 3 * 3 + 2 by omega) with e | e | e
  · rw [← e] at g0
    rw [g0] at hu
    cases hu
    rw [← e] at c0
    exact c0
  · rw [← e] at g1
    rw [g1] at hu
    cases hu
    rw [Nat.add_assoc, ← e] at c1
    exact c1
  · rw [← e] at g2
    rw [g2] at hu
    cases hu
    rw [Nat.add_assoc, ← e] at c2
    exact c2

set_option maxHeartbeats 1000000 in
set_option maxRecDepth 100000 in
theorem ownBlocks_own (v : Value) (l : List Blk) (w : World) (hv : RowIn w v l) (hl : l.length ≤ 1000) :
    Calls Tryd.prog 16 #[v] w fun r w' => ∃ u, r = .returned u ∧ w'.ownsRow w.heap.size 43 3 u l.length (bcs l) ∧ Below w.heap.size w w' := by
  obtain ⟨i0, hi, hz0, hz1, hz2⟩ := info_parts Tryd.info43
  have hv' := hv
  obtain ⟨a, c, rfl, _⟩ := hv'
  by_cases hp : 0 < l.length
  · obtain ⟨b, o, rfl, hn⟩ := hv.newsD hp
    have Hn := hide hn
    clear hn hv
    go_enter Tryd.func16, Tryd.ntmps16
    go_wp2_with (first | (at_builtin; refine wpList_append_own _ rfl (.tmp 4) (.tmp 5) 24 rfl w.heap.size 43 i0 (.agg #[.int .i64 0, .int .i64 0, .int .u32 0]) 3 24 Tryd.underlying24 hi hz0 hz1 hz2 rfl (by decide) (.slice none 0 0) 0 [] rfl ?own ⟨b, o, none⟩ l.length c (bcs l) rfl ?c0 ?c1 ?c2 ?b1 ?b2 ?b3 ?next))
    case own => exact World.ownsRow_nil _ _ _ _
    case c0 => exact bcs_length l
    case c1 => exact Hn.out
    case c2 => intro u hu; simp only [bcs, List.mem_flatMap, bcells] at hu; obtain ⟨x, _, hu⟩ := hu; simp at hu; rcases hu with rfl | rfl | rfl <;> rfl
    case b1 => unfold maxLen; omega
    case b2 => omega
    case b3 => exact Nat.le_refl _
    case next =>
      intro v5 w5 hown5 hgrow5 _
      have Hb5 := hide ((Below.refl w.heap.size w).grown hgrow5 (Nat.le_refl _) (fun k hk => by cases hk))
      have Hown5 := hide hown5
      clear hown5 hgrow5
      go_wp2_with fail
      go_ret
      refine ⟨_, rfl, ?_, Hb5.out⟩
      have h := Hown5.out
      simpa using h
  · have hz : l = [] := by cases l with
      | nil => rfl
      | cons x r => simp at hp
    subst hz
    clear hv
    rename_i hrest
    clear hrest hp
    simp only [List.length_nil]
    cases a with
    | none =>
      go_enter Tryd.func16, Tryd.ntmps16
      go_wp2
      go_ret
      exact ⟨_, rfl, World.ownsRow_nil _ _ _ _, Below.refl _ _⟩
    | some ad =>
      go_enter Tryd.func16, Tryd.ntmps16
      go_wp2_with (first | (at_builtin; refine wpList_append_own _ rfl (.tmp 4) (.tmp 5) 24 rfl w.heap.size 43 i0 (.agg #[.int .i64 0, .int .i64 0, .int .u32 0]) 3 24 Tryd.underlying24 hi hz0 hz1 hz2 rfl (by decide) (.slice none 0 0) 0 [] rfl ?own ad 0 c [] rfl rfl ?c1 ?c2 ?b1 ?b2 ?b3 ?next))
      case own => exact World.ownsRow_nil _ _ _ _
      case c1 => intro j u hu; simp at hu
      case c2 => intro u hu; cases hu
      case b1 => unfold maxLen; omega
      case b2 => omega
      case b3 => exact Nat.le_refl _
      case next =>
        intro v5 w5 hown5 hgrow5 _
        have Hb5 := hide ((Below.refl w.heap.size w).grown hgrow5 (Nat.le_refl _) (fun k hk => by cases hk))
        have Hown5 := hide hown5
        clear hown5 hgrow5
        go_wp2_with fail
        go_ret
        exact ⟨_, rfl, Hown5.out, Hb5.out⟩
end Go.Proofs.YtgogjncamjbajacDoor
