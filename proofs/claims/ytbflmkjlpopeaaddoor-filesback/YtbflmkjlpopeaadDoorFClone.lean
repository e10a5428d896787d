/-
  Contract of slices.Clone (at files) over this dump; a block that reads as files.
-/
import Derived.Test.YtbflmkjlpopeaadDoorJoin03
import Derived.Laws.OwnMore
import Derived.Laws.IdiomCopy
import Derived.Lib.SliceRun
namespace Go.Proofs.YtbflmkjlpopeaadDoor
open Go.RowKit
open Go.Files (Fl)

theorem fcs_one (l : List Fl) : ∀ u ∈ fcs l, u.oneCell' = true := by
  intro u hu
  simp only [fcs, cs2, List.mem_flatMap] at hu
  obtain ⟨x, _, hu⟩ := hu
  simp at hu
  rcases hu with rfl | rfl <;> rfl

set_option maxHeartbeats 1000000 in
set_option maxRecDepth 100000 in
theorem clone_ok (v : Value) (l : List Fl) (w : World) (hv : FRow w v l) (hl : l.length ≤ 1000) :
    Calls Tryd.prog 45 #[v] w fun r w' => (∃ u, r = .returned u ∧ w'.ownsRow w.heap.size 62 2 u l.length (fcs l)) ∧ Below w.heap.size w w' := by
  obtain ⟨i0, hi, hz0, hz1, hz2⟩ := info_parts Tryd.info62
  have hv' := hv
  obtain ⟨a, c, rfl, hcc⟩ := hv'
  have q22 : ∀ (w : World) (a : Option Addr) (n c n' c' : Nat), (binOp .eql 32 (.slice a n c) (.slice none n' c')).run Tryd.prog w = .ok (.bool a.isNone) w := fun w a n c n' c' => Lib.run_eql_slice_nil w _ _ a n c n' c' Tryd.underlying32
  cases a with
  | none =>
    have hz : l = [] := by
      cases l with
      | nil => rfl
      | cons x r => obtain ⟨b, o, h, _⟩ := hcc (by simp); cases h
    subst hz
    go_enter Tryd.func45, Tryd.ntmps45
    go_wp2
    go_ret
    exact ⟨⟨_, rfl, World.ownsRow_nil _ _ _ _⟩, Below.refl _ _⟩
  | some ad =>
    have hn : ∀ j u, (fcs l)[j]? = some u → w.cell? (ad.add j) = some u := by
      intro j u hu
      by_cases hp : 0 < l.length
      · obtain ⟨b, o, e, hn⟩ := Row2.news hv hp
        cases e
        exact hn j u hu
      · have hz : l = [] := by
          cases l with
          | nil => rfl
          | cons x r => simp at hp
        subst hz
        simp [cs2] at hu
    have Hn := hide hn
    clear hn hv hcc
    go_enter Tryd.func45, Tryd.ntmps45
    go_wp2_with (first | (at_builtin; refine wpList_append_own _ rfl (.tmp 5) (.tmp 6) 32 rfl w.heap.size 62 i0 (.agg #[.string ⟨#[]⟩, .string ⟨#[]⟩]) 2 32 Tryd.underlying32 hi hz0 hz1 hz2 rfl (by decide) _ 0 [] rfl (World.ownsRow_made w #[] 0 (Nat.le_refl _) (Nat.zero_le _) (by simp)) ad l.length c (fcs l) rfl ?c0 ?c1 ?c2 ?b1 ?b2 ?b3 ?next))
    case c0 => exact cs2_length l
    case c1 => intro j u hu; exact Lib.cell?_alloc_some _ (Hn.out j u hu)
    case c2 => exact fcs_one l
    case b1 => unfold maxLen; omega
    case b2 => omega
    case b3 => simp
    case next =>
      intro v5 w5 hown5 hgrow5 _
      have Hb5 := hide (((Below.refl w.heap.size w).alloc (Nat.le_refl _) _).grown hgrow5 (by simp) (by intro k hk; simp [Value.ownBlock] at hk; omega))
      have Hown5 := hide hown5
      clear hown5 hgrow5
      go_wp2_with fail
      go_ret
      refine ⟨⟨_, rfl, ?_⟩, Hb5.out⟩
      have h := Hown5.out
      simpa using h

/-! ### A block that reads as files from its head on -/
structure Held (g : Nat) (w : World) (l : List Fl) : Prop where
  at_ : ∀ j (h : j < l.length), w.cell? ⟨g, j * 2, none⟩ = some (.string l[j].name) ∧ w.cell? ⟨g, j * 2 + 1, none⟩ = some (.string l[j].data)
  fz : ∀ k, w.frozen? ⟨g, k, none⟩ = false
theorem Held.lt {g : Nat} {w : World} {l : List Fl} (h : Held g w l) (hp : 0 < l.length) : g < w.heap.size := World.block_lt_of_cell? _ _ (h.at_ 0 hp).1
theorem Held.of_own {g n cap base : Nat} {T : TypeId} {w : World} {l : List Fl} (h : w.ownsRow base T 2 (.slice (some ⟨g, 0, none⟩) n cap) n (fcs l)) : Held g w l := by
  have hl : l.length = n := by have := h.1; rw [cs2_length] at this; omega
  subst hl
  refine ⟨fun j hj => ?_, fun k => h.frozenAt k⟩
  obtain ⟨h0, h1⟩ := cs2_get (f := fun x : Fl => Value.string x.name) (g := fun x => .string x.data) l j hj
  exact ⟨(h.cellAt _ (by omega)).trans h0, (h.cellAt _ (by omega)).trans h1⟩
theorem Held.below {g B : Nat} {w w' : World} {l : List Fl} (h : Held g w l) (hb : Below B w w') (hg : g < B) : Held g w' l :=
  ⟨fun j hj => ⟨(hb.cell (p := ⟨g, j * 2, none⟩) hg).trans (h.at_ j hj).1, (hb.cell (p := ⟨g, j * 2 + 1, none⟩) hg).trans (h.at_ j hj).2⟩, fun k => (hb.frozen (p := ⟨g, k, none⟩) hg).trans (h.fz k)⟩
/-- One file is written. -/
theorem Held.set {g : Nat} {w : World} {l : List Fl} (h : Held g w l) (i : Nat) (hi : i < l.length) (x : Fl) :
    Held g ((w.setCell ⟨g, i * 2, none⟩ (.string x.name)).setCell ⟨g, i * 2 + 1, none⟩ (.string x.data)) (l.set i x) := by
  refine ⟨fun j hj => ?_, fun k => by simp [h.fz k]⟩
  have hj' : j < l.length := by simpa using hj
  obtain ⟨h0, h1⟩ := h.at_ j hj'
  obtain ⟨k0, k1⟩ := h.at_ i hi
  by_cases e : i = j
  · subst e
    rw [List.getElem_set_self]
    refine ⟨?_, ?_⟩
    · rw [World.cell?_setCell_other _ _ _ _ (by simp), World.cell?_setCell_same _ _ _ k0]
    · rw [World.cell?_setCell_same _ _ _ (by rw [World.cell?_setCell_other _ _ _ _ (by simp)]; exact k1)]
  · rw [List.getElem_set_ne e]
    refine ⟨?_, ?_⟩
    · rw [World.cell?_setCell_other _ _ _ _ (by simp; try omega), World.cell?_setCell_other _ _ _ _ (by simp; try omega)]; exact h0
    · rw [World.cell?_setCell_other _ _ _ _ (by simp; try omega), World.cell?_setCell_other _ _ _ _ (by simp; try omega)]; exact h1
theorem Held.row {g cap : Nat} {w : World} {l : List Fl} (h : Held g w l) (m : Nat) (hm : m ≤ l.length) : FRow w (.slice (some ⟨g, 0, none⟩) m cap) (l.take m) := by
  have hl : (l.take m).length = m := by rw [List.length_take]; omega
  refine ⟨_, cap, by rw [hl], fun _ => ⟨g, 0, rfl, fun j hj => ?_⟩⟩
  rw [List.getElem_take]
  have := h.at_ j (by rw [hl] at hj; omega)
  simpa using this
theorem Held.row_all {g cap : Nat} {w : World} {l : List Fl} (h : Held g w l) : FRow w (.slice (some ⟨g, 0, none⟩) l.length cap) l := by
  have := h.row (cap := cap) l.length (Nat.le_refl _)
  rwa [List.take_length] at this
/-- Cells behind are written. -/
theorem Held.rest {g : Nat} {w : World} {l : List Fl} (h : Held g w l) (i : Nat) (hi : i ≤ l.length) (vs : List Value) : Held g (w.setCells g (i * 2) vs) (l.take i) := by
  refine ⟨fun j hj => ?_, fun k => by rw [World.frozen?_setCells]; exact h.fz k⟩
  have hj' : j < i := by rw [List.length_take] at hj; omega
  rw [List.getElem_take]
  obtain ⟨h0, h1⟩ := h.at_ j (by omega)
  refine ⟨?_, ?_⟩
  · rw [World.cell?_setCells_out _ _ _ _ _ (fun _ _ => by left; show j * 2 < i * 2; omega)]; exact h0
  · rw [World.cell?_setCells_out _ _ _ _ _ (fun _ _ => by left; show j * 2 + 1 < i * 2; omega)]; exact h1
theorem below_cells {B g : Nat} (hg : B ≤ g) : ∀ (vs : List Value) (o : Nat) {w w' : World}, Below B w w' → Below B w (w'.setCells g o vs)
  | [], _, _, _, h => h
  | v :: r, o, _, _, h => below_cells hg r (o + 1) (h.setCell hg v)
end Go.Proofs.YtbflmkjlpopeaadDoor
