/-
  Frames held against one another.
  Plain mathematics of a bit that is turned: the sums of the two texts; a text's bytes as a slice of memory, changed at one place, and back.
-/
import Derived.Test.YtlmampcdflbifaeDoorJoin03
import Derived.Laws.StructEq
import Derived.Test.YtlmampcdflbifaeDoorJoin01
import Derived.Test.YtlmampcdflbifaeDoorJoin02
import Derived.Laws.IdiomStrings
namespace Go.Proofs.YtlmampcdflbifaeDoor
open Go.RowKit
open Go.Frame (Fr)

theorem Tryd.frGuard : Tryd.prog.eqGuardType Tryd.prog.depth 25 = false := by kernel_rfl
theorem Tryd.frHeld : Tryd.prog.stoodInHeld 25 = false := by kernel_rfl
set_option maxRecDepth 100000 in
theorem fr_eql (f g : Fr) (w : World) : (binOp .eql 25 (frV f) (frV g)).run Tryd.prog w = .ok (.bool (decide (f = g))) w := by
  have hf : Tryd.prog.fieldsOf 25 = (match Tryd.prog.underlying 25 with | some (.struct fs) => fs | _ => #[]) := rfl
  rw [Tryd.underlying25] at hf
  simp only at hf
  have hd : decide (f = g) = ((f.kind.toNat == g.kind.toNat) && ((f.epoch == g.epoch) && ((f.seq == g.seq) && (f.data.toList == g.data.toList)))) := by
    rw [Bool.eq_iff_iff]
    simp only [decide_eq_true_eq, Bool.and_eq_true, beq_iff_eq]
    constructor
    · rintro rfl; exact ⟨rfl, rfl, rfl, rfl⟩
    · rintro ⟨h1, h2, h3, h4⟩
      obtain ⟨a, b, c, d⟩ := f
      obtain ⟨a', b', c', d'⟩ := g
      simp only at h1 h2 h3 h4
      have := UInt8.toNat_inj.1 h1
      have := bytes_ext h4
      subst_vars
      rfl
  rw [hd]
  unfold frV
  generalize f.kind.toNat = k1
  generalize g.kind.toNat = k2
  generalize f.epoch = e1
  generalize g.epoch = e2
  generalize f.seq = s1
  generalize g.seq = s2
  generalize f.data = d1
  generalize g.data = d2
  rw [run_eql_struct, run_equalIn_struct _ _ _ _ _ (by rw [hf]; exact Tryd.underlying25) Tryd.frHeld, hf]
  simp only [Op.eqFields]
  go_simp
  have hk : ((k1 : Int) = (k2 : Int)) = (k1 = k2) := propext ⟨fun h => Int.ofNat.inj h, fun h => by rw [h]⟩
  by_cases h1 : k1 = k2 <;> by_cases h2 : e1 = e2 <;> by_cases h3 : s1 = s2 <;> by_cases h4 : d1.toList = d2.toList <;> simp [hk, h1, h2, h3, h4]
end Go.Proofs.YtlmampcdflbifaeDoor

namespace Go.Proofs.YtlmampcdflbifaeDoor
open Go.RowKit

theorem set_parts (l : List UInt8) (i : Nat) (d : UInt8) (hi : i < l.length) : l = l.take i ++ l[i] :: l.drop (i + 1) ∧ l.set i d = l.take i ++ d :: l.drop (i + 1) := by
  constructor
  · rw [← List.drop_eq_getElem_cons hi, List.take_append_drop]
  · rw [List.set_eq_take_append_cons_drop, if_pos hi]

theorem turned (l : List UInt8) (i p : Nat) (d : UInt8) (hi : i < l.length) (hd : l[i].toNat ^^^ d.toNat = p) (hp0 : p ≠ 0) (hp : p < 256) :
    Go.Crc.crc 0 l ≠ Go.Crc.crc 0 (l.set i d) ∧ Go.Crc.crc 0 (l.take (i + 1)) ≠ Go.Crc.crc 0 ((l.set i d).take (i + 1)) ∧
    Go.Crc.shs (8 * (l.length - (i + 1))) (Go.Crc.crc 0 (l.take (i + 1))) ^^^ Go.Crc.shs (8 * (l.length - (i + 1))) (Go.Crc.crc 0 ((l.set i d).take (i + 1))) = Go.Crc.crc 0 l ^^^ Go.Crc.crc 0 (l.set i d) := by
  obtain ⟨e1, e2⟩ := set_parts l i d hi
  have h1 := Go.Crc.crc_turn (l.take i) (l.drop (i + 1)) l[i] d
  have h2 := Go.Crc.crc_turn (l.take i) [] l[i] d
  rw [← e1, ← e2, hd, List.length_drop] at h1
  have t1 : l.take (i + 1) = l.take i ++ [l[i]] := List.take_succ_eq_append_getElem hi
  have t2 : (l.set i d).take (i + 1) = l.take i ++ [d] := by
    rw [List.take_succ_eq_append_getElem (by simpa using hi), List.getElem_set_self, List.take_set_of_le (Nat.le_refl _)]
  rw [← t1, ← t2, hd] at h2
  have hp32 : p < 2 ^ 32 := by omega
  have n1 := Go.Crc.shs_ne 8 p hp32 hp0
  refine ⟨Go.Crc.xor_ne ?_, Go.Crc.xor_ne ?_, ?_⟩
  · rw [h1]; exact Go.Crc.shs_ne _ _ (Go.Crc.shs_lt 8 p hp32) n1
  · rw [h2]; exact Go.Crc.shs_ne _ _ (Go.Crc.shs_lt 8 p hp32) n1
  · rw [← Go.Crc.shs_xor, h2, h1]; rfl

/-- A text as bytes of its own. -/
theorem bytes_of (w : World) (s : ByteArray) : ∃ cap W1, (convert 9 32 (.string s)).run Tryd.prog w = .ok (.slice (some ⟨w.heap.size, 0, none⟩) s.size cap) W1 ∧ Below w.heap.size w W1 ∧
    ∀ j (h : j < s.size), W1.cell? ⟨w.heap.size, j, none⟩ = some (.int .u8 (s[j].toNat : Nat)) ∧ W1.frozen? ⟨w.heap.size, j, none⟩ = false := by
  refine ⟨_, _, run_bytes_of_string w _ _ _ s Tryd.underlying9 Tryd.underlying32 Tryd.underlying5, ((Below.refl _ _).drew).alloc (Nat.le_refl _) _, ?_⟩
  intro j h
  have hb : (w.drew.alloc (.cells (bytesRow s (grownCap w s.size 0 5)) 5 ((bytesRow s (grownCap w s.size 0 5)).size, (bytesRow s (grownCap w s.size 0 5)).size + 1))).heap[w.heap.size]? = some (.cells (bytesRow s (grownCap w s.size 0 5)) 5 ((bytesRow s (grownCap w s.size 0 5)).size, (bytesRow s (grownCap w s.size 0 5)).size + 1)) := heap_alloc_new w.drew _
  have hz : s.size ≤ (bytesRow s (grownCap w s.size 0 5)).size := by
    rw [bytesRow, Array.size_append, Array.size_map]
    exact Nat.le_add_right _ _
  constructor
  · rw [cell_of_row _ _ j _ _ _ hb, bytesRow_at s _ j h]
    rfl
  · simp only [World.frozen?, hb]
    simp
    omega
/-- Bytes of one's own, one of them changed, as a text. -/
theorem bytes_back (W1 : World) (g cap i : Nat) (s : ByteArray) (d : UInt8) (hi : i < s.size) (h : ∀ j (h : j < s.size), W1.cell? ⟨g, j, none⟩ = some (.int .u8 (s[j].toNat : Nat))) :
    (convert 32 9 (.slice (some ⟨g, 0, none⟩) s.size cap)).run Tryd.prog (W1.setCell ⟨g, i, none⟩ (.int .u8 (d.toNat : Nat))) = .ok (.string (str (s.data.toList.set i d))) (W1.setCell ⟨g, i, none⟩ (.int .u8 (d.toNat : Nat))) := by
  have hl : (s.data.toList.set i d).length = s.size := by rw [List.length_set, lenL]
  have := run_convert_bytes_back (P := Tryd.prog) (W1.setCell ⟨g, i, none⟩ (.int .u8 (d.toNat : Nat))) 32 9 5 ⟨g, 0, none⟩ cap (s.data.toList.set i d) Tryd.underlying32 Tryd.underlying5 Tryd.underlying9 (fun j hj => ?_)
  · rw [hl] at this
    exact this
  · rw [hl] at hj
    have hadd : (⟨g, 0, none⟩ : Addr).add j = ⟨g, j, none⟩ := by unfold Addr.add; split <;> simp_all
    rw [hadd]
    by_cases e : i = j
    · subst e
      rw [World.cell?_setCell_same _ _ _ (h i hi), List.getElem_set_self]
    · rw [World.cell?_setCell_other _ _ _ _ (by intro hh; cases hh; exact e rfl), h j hj, List.getElem_set_ne e, atL s j hj]
end Go.Proofs.YtlmampcdflbifaeDoor
