/-
  The four errors that package files meets: what their variables hold; an error as it lies there.
  The errors of package files among the twelve.
  Files as cells: what the program's table says of their type.
  Contract of slices.Clone (at files) over this dump; a block that reads as files.
-/
import Derived.Test.YtbflmkjlpopeaadGreatDoorJoin03
import Derived.Test.YtbflmkjlpopeaadGreatDoorJoin01
import Derived.Laws.OwnMore
import Derived.Laws.IdiomCopy
import Derived.Lib.SliceRun
namespace Go.Proofs.YtbflmkjlpopeaadGreatDoor
open Go.RowKit

structure FV where
  tB : TypeId
  xB : Value
  tN : TypeId
  xN : Value
  tF : TypeId
  xF : Value
  tO : TypeId
  xO : Value
/-- An error by its number. -/
def errF (e : FV) : Nat → Value
  | 0 => .nilIface
  | 2 => .iface e.tB e.xB
  | 5 => .iface e.tN e.xN
  | 8 => .iface e.tF e.xF
  | _ => .iface e.tO e.xO
structure FEr (e : FV) (w : World) : Prop where
  bound : w.cell? ⟨1, 0, none⟩ = some (.iface e.tB e.xB)
  name : w.cell? ⟨4, 0, none⟩ = some (.iface e.tN e.xN)
  full : w.cell? ⟨7, 0, none⟩ = some (.iface e.tF e.xF)
  order : w.cell? ⟨8, 0, none⟩ = some (.iface e.tO e.xO)
theorem FEr.below {e : FV} {w w' : World} (h : FEr e w) (hb : Below w.heap.size w w') : FEr e w' :=
  ⟨(hb.cell (World.block_lt_of_cell? _ _ h.bound)).trans h.bound, (hb.cell (World.block_lt_of_cell? _ _ h.name)).trans h.name, (hb.cell (World.block_lt_of_cell? _ _ h.full)).trans h.full, (hb.cell (World.block_lt_of_cell? _ _ h.order)).trans h.order⟩
theorem errF_form (e : FV) (c : Nat) (h : c ≠ 0) : ∃ t x, errF e c = .iface t x := by
  unfold errF
  split
  · exact absurd rfl h
  all_goals exact ⟨_, _, rfl⟩
/-- An error as it lies there: none, one without a place, one with its place. -/
def FX (e : FV) (w : World) (x : Value) (f : Nat × Int) : Prop :=
  (f.1 = 0 ∧ x = .nilIface) ∨ (f.1 ≠ 0 ∧ ((f.2 = -1 ∧ x = errF e f.1) ∨ ∃ p, x = .iface 97 (.pointer (some ⟨p, 0, none⟩)) ∧ w.cell? ⟨p, 0, none⟩ = some (.int .i64 f.2) ∧ w.cell? ⟨p, 1, none⟩ = some (errF e f.1)))
theorem FX.below {e : FV} {w w' : World} {x : Value} {f : Nat × Int} (h : FX e w x f) (hb : Below w.heap.size w w') : FX e w' x f := by
  rcases h with h | ⟨h, k | ⟨p, rfl, h0, h1⟩⟩
  · exact Or.inl h
  · exact Or.inr ⟨h, Or.inl k⟩
  · exact Or.inr ⟨h, Or.inr ⟨p, rfl, (hb.cell (World.block_lt_of_cell? _ _ h0)).trans h0, (hb.cell (World.block_lt_of_cell? _ _ h1)).trans h1⟩⟩
theorem FX.nilOr {e : FV} {w : World} {x : Value} {f : Nat × Int} (h : FX e w x f) : NilOr x f.1 := by
  rcases h with ⟨h, rfl⟩ | ⟨h, ⟨_, rfl⟩ | ⟨p, rfl, _, _⟩⟩
  · exact ⟨fun _ => rfl, fun k => absurd h k⟩
  · exact ⟨fun k => absurd k h, fun _ => errF_form e _ h⟩
  · exact ⟨fun k => absurd k h, fun _ => ⟨_, _, rfl⟩⟩
theorem FX.nil (e : FV) (w : World) (at_ : Int) : FX e w .nilIface (0, at_) := Or.inl ⟨rfl, rfl⟩
end Go.Proofs.YtbflmkjlpopeaadGreatDoor

namespace Go.Proofs.YtbflmkjlpopeaadGreatDoor
open Go.RowKit
open Go.Files (faultF)

def fvOf (a : Nat → Addr) : FV := ⟨164, .pointer (some (a 1)), 164, .pointer (some (a 4)), 164, .pointer (some (a 7)), 164, .pointer (some (a 8))⟩
theorem Sents.fer {w : World} {a : Nat → Addr} (h : Sents w a) : FEr (fvOf a) w := ⟨h.c1, h.c4, h.c7, h.c8⟩
theorem errF_sent {a : Nat → Addr} {c : Nat} (h : c = 8 ∨ c = 5 ∨ c = 2 ∨ c = 9) : ∃ k, k < 12 ∧ c = k + 1 ∧ errF (fvOf a) c = .iface 164 (.pointer (some (a k))) := by
  rcases h with rfl | rfl | rfl | rfl
  · exact ⟨7, by decide, rfl, rfl⟩
  · exact ⟨4, by decide, rfl, rfl⟩
  · exact ⟨1, by decide, rfl, rfl⟩
  · exact ⟨8, by decide, rfl, rfl⟩
end Go.Proofs.YtbflmkjlpopeaadGreatDoor

namespace Go.Proofs.YtbflmkjlpopeaadGreatDoor
open Go.RowKit

theorem Tryz.info86 : (Tryz.prog.info? 86).map (fun i => (i.zero, i.size, i.bytes)) = some (some (.agg #[.string ⟨#[]⟩, .string ⟨#[]⟩]), 2, 32) := by kernel_rfl
end Go.Proofs.YtbflmkjlpopeaadGreatDoor

namespace Go.Proofs.YtbflmkjlpopeaadGreatDoor
open Go.RowKit
open Go.Files (Fl)

theorem fcs_one (l : List Fl) : ∀ u ∈ fcs l, u.oneCell' = true := by
  intro u hu
  simp only [fcs, cs2, List.mem_flatMap] at hu
  obtain ⟨x, _, hu⟩ := hu
  simp at hu
  rcases hu with rfl | rfl <;> rfl

set_option maxHeartbeats 1000000 in
set_option maxRecDepth 100000 in
theorem clone_ok (v : Value) (l : List Fl) (w : World) (hv : FRow w v l) (hl : l.length ≤ 1000) :
    Calls Tryz.prog 61 #[v] w fun r w' => (∃ u, r = .returned u ∧ w'.ownsRow w.heap.size 86 2 u l.length (fcs l)) ∧ Below w.heap.size w w' := by
  obtain ⟨i0, hi, hz0, hz1, hz2⟩ := info_parts Tryz.info86
  have hv' := hv
  obtain ⟨a, c, rfl, hcc⟩ := hv'
  have q22 : ∀ (w : World) (a : Option Addr) (n c n' c' : Nat), (binOp .eql 52 (.slice a n c) (.slice none n' c')).run Tryz.prog w = .ok (.bool a.isNone) w := fun w a n c n' c' => Lib.run_eql_slice_nil w _ _ a n c n' c' Tryz.underlying52
  cases a with
  | none =>
    have hz : l = [] := by
      cases l with
      | nil => rfl
      | cons x r => obtain ⟨b, o, h, _⟩ := hcc (by simp); cases h
    subst hz
    go_enter Tryz.func61, Tryz.ntmps61
    go_wp2
    go_ret
    exact ⟨⟨_, rfl, World.ownsRow_nil _ _ _ _⟩, Below.refl _ _⟩
  | some ad =>
    have hn : ∀ j u, (fcs l)[j]? = some u → w.cell? (ad.add j) = some u := by
      intro j u hu
      by_cases hp : 0 < l.length
      · obtain ⟨b, o, e, hn⟩ := Row2.news hv hp
        cases e
        exact hn j u hu
      · have hz : l = [] := by
          cases l with
          | nil => rfl
          | cons x r => simp at hp
        subst hz
        simp [cs2] at hu
    have Hn := hide hn
    clear hn hv hcc
    go_enter Tryz.func61, Tryz.ntmps61
    go_wp2_with (first | (at_builtin; refine wpList_append_own _ rfl (.tmp 5) (.tmp 6) 52 rfl w.heap.size 86 i0 (.agg #[.string ⟨#[]⟩, .string ⟨#[]⟩]) 2 32 Tryz.underlying52 hi hz0 hz1 hz2 rfl (by decide) _ 0 [] rfl (World.ownsRow_made w #[] 0 (Nat.le_refl _) (Nat.zero_le _) (by simp)) ad l.length c (fcs l) rfl ?c0 ?c1 ?c2 ?b1 ?b2 ?b3 ?next))
    case c0 => exact cs2_length l
    case c1 => intro j u hu; exact Lib.cell?_alloc_some _ (Hn.out j u hu)
    case c2 => exact fcs_one l
    case b1 => unfold maxLen; omega
    case b2 => omega
    case b3 => simp
    case next =>
      intro v5 w5 hown5 hgrow5 _
      have Hb5 := hide (((Below.refl w.heap.size w).alloc (Nat.le_refl _) _).grown hgrow5 (by simp) (by intro k hk; simp [Value.ownBlock] at hk; omega))
      have Hown5 := hide hown5
      clear hown5 hgrow5
      go_wp2_with fail
      go_ret
      refine ⟨⟨_, rfl, ?_⟩, Hb5.out⟩
      have h := Hown5.out
      simpa using h

/-! ### A block that reads as files from its head on -/
structure Held (g : Nat) (w : World) (l : List Fl) : Prop where
  at_ : ∀ j (h : j < l.length), w.cell? ⟨g, j * 2, none⟩ = some (.string l[j].name) ∧ w.cell? ⟨g, j * 2 + 1, none⟩ = some (.string l[j].data)
  fz : ∀ k, w.frozen? ⟨g, k, none⟩ = false
theorem Held.lt {g : Nat} {w : World} {l : List Fl} (h : Held g w l) (hp : 0 < l.length) : g < w.heap.size := World.block_lt_of_cell? _ _ (h.at_ 0 hp).1
theorem Held.of_own {g n cap base : Nat} {T : TypeId} {w : World} {l : List Fl} (h : w.ownsRow base T 2 (.slice (some ⟨g, 0, none⟩) n cap) n (fcs l)) : Held g w l := by
  have hl : l.length = n := by have := h.1; rw [cs2_length] at this; omega
  subst hl
  refine ⟨fun j hj => ?_, fun k => h.frozenAt k⟩
  obtain ⟨h0, h1⟩ := cs2_get (f := fun x : Fl => Value.string x.name) (g := fun x => .string x.data) l j hj
  exact ⟨(h.cellAt _ (by omega)).trans h0, (h.cellAt _ (by omega)).trans h1⟩
theorem Held.below {g B : Nat} {w w' : World} {l : List Fl} (h : Held g w l) (hb : Below B w w') (hg : g < B) : Held g w' l :=
  ⟨fun j hj => ⟨(hb.cell (p := ⟨g, j * 2, none⟩) hg).trans (h.at_ j hj).1, (hb.cell (p := ⟨g, j * 2 + 1, none⟩) hg).trans (h.at_ j hj).2⟩, fun k => (hb.frozen (p := ⟨g, k, none⟩) hg).trans (h.fz k)⟩
/-- One file is written. -/
theorem Held.set {g : Nat} {w : World} {l : List Fl} (h : Held g w l) (i : Nat) (hi : i < l.length) (x : Fl) :
    Held g ((w.setCell ⟨g, i * 2, none⟩ (.string x.name)).setCell ⟨g, i * 2 + 1, none⟩ (.string x.data)) (l.set i x) := by
  refine ⟨fun j hj => ?_, fun k => by simp [h.fz k]⟩
  have hj' : j < l.length := by simpa using hj
  obtain ⟨h0, h1⟩ := h.at_ j hj'
  obtain ⟨k0, k1⟩ := h.at_ i hi
  by_cases e : i = j
  · subst e
    rw [List.getElem_set_self]
    refine ⟨?_, ?_⟩
    · rw [World.cell?_setCell_other _ _ _ _ (by simp), World.cell?_setCell_same _ _ _ k0]
    · rw [World.cell?_setCell_same _ _ _ (by rw [World.cell?_setCell_other _ _ _ _ (by simp)]; exact k1)]
  · rw [List.getElem_set_ne e]
    refine ⟨?_, ?_⟩
    · rw [World.cell?_setCell_other _ _ _ _ (by simp; try omega), World.cell?_setCell_other _ _ _ _ (by simp; try omega)]; exact h0
    · rw [World.cell?_setCell_other _ _ _ _ (by simp; try omega), World.cell?_setCell_other _ _ _ _ (by simp; try omega)]; exact h1
theorem Held.row {g cap : Nat} {w : World} {l : List Fl} (h : Held g w l) (m : Nat) (hm : m ≤ l.length) : FRow w (.slice (some ⟨g, 0, none⟩) m cap) (l.take m) := by
  have hl : (l.take m).length = m := by rw [List.length_take]; omega
  refine ⟨_, cap, by rw [hl], fun _ => ⟨g, 0, rfl, fun j hj => ?_⟩⟩
  rw [List.getElem_take]
  have := h.at_ j (by rw [hl] at hj; omega)
  simpa using this
theorem Held.row_all {g cap : Nat} {w : World} {l : List Fl} (h : Held g w l) : FRow w (.slice (some ⟨g, 0, none⟩) l.length cap) l := by
  have := h.row (cap := cap) l.length (Nat.le_refl _)
  rwa [List.take_length] at this
/-- Cells behind are written. -/
theorem Held.rest {g : Nat} {w : World} {l : List Fl} (h : Held g w l) (i : Nat) (hi : i ≤ l.length) (vs : List Value) : Held g (w.setCells g (i * 2) vs) (l.take i) := by
  refine ⟨fun j hj => ?_, fun k => by rw [World.frozen?_setCells]; exact h.fz k⟩
  have hj' : j < i := by rw [List.length_take] at hj; omega
  rw [List.getElem_take]
  obtain ⟨h0, h1⟩ := h.at_ j (by omega)
  refine ⟨?_, ?_⟩
  · rw [World.cell?_setCells_out _ _ _ _ _ (fun _ _ => by left; show j * 2 < i * 2; omega)]; exact h0
  · rw [World.cell?_setCells_out _ _ _ _ _ (fun _ _ => by left; show j * 2 + 1 < i * 2; omega)]; exact h1
theorem below_cells {B g : Nat} (hg : B ≤ g) : ∀ (vs : List Value) (o : Nat) {w w' : World}, Below B w w' → Below B w (w'.setCells g o vs)
  | [], _, _, _, h => h
  | v :: r, o, _, _, h => below_cells hg r (o + 1) (h.setCell hg v)
end Go.Proofs.YtbflmkjlpopeaadGreatDoor
