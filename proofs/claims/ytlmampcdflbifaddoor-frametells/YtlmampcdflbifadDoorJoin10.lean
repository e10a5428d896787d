/-
  Plain mathematics of a bit that is turned: the sums of the two texts; a text's bytes as a slice of memory, changed at one place, and back.
  Contract of frame.seal over this dump.
  Contract of frame.Check over this dump.
  Contract of the writer's Byte over this dump.
  Contract of the writer's Text over this dump.
-/
import Derived.Test.YtlmampcdflbifadDoorJoin01
import Derived.Test.YtlmampcdflbifadDoorJoin02
import Derived.Laws.IdiomStrings
import Derived.Test.YtlmampcdflbifadDoorJoin04
import Derived.Test.YtlmampcdflbifadDoorJoin03
import Derived.Test.YtlmampcdflbifadDoorJoin07
namespace Go.Proofs.YtlmampcdflbifadDoor
open Go.RowKit

theorem set_parts (l : List UInt8) (i : Nat) (d : UInt8) (hi : i < l.length) : l = l.take i ++ l[i] :: l.drop (i + 1) ∧ l.set i d = l.take i ++ d :: l.drop (i + 1) := by
  constructor
  · rw [← List.drop_eq_getElem_cons hi, List.take_append_drop]
  · rw [List.set_eq_take_append_cons_drop, if_pos hi]

theorem turned (l : List UInt8) (i p : Nat) (d : UInt8) (hi : i < l.length) (hd : l[i].toNat ^^^ d.toNat = p) (hp0 : p ≠ 0) (hp : p < 256) :
    Go.Crc.crc 0 l ≠ Go.Crc.crc 0 (l.set i d) ∧ Go.Crc.crc 0 (l.take (i + 1)) ≠ Go.Crc.crc 0 ((l.set i d).take (i + 1)) ∧
    Go.Crc.shs (8 * (l.length - (i + 1))) (Go.Crc.crc 0 (l.take (i + 1))) ^^^ Go.Crc.shs (8 * (l.length - (i + 1))) (Go.Crc.crc 0 ((l.set i d).take (i + 1))) = Go.Crc.crc 0 l ^^^ Go.Crc.crc 0 (l.set i d) := by
  obtain ⟨e1, e2⟩ := set_parts l i d hi
  have h1 := Go.Crc.crc_turn (l.take i) (l.drop (i + 1)) l[i] d
  have h2 := Go.Crc.crc_turn (l.take i) [] l[i] d
  rw [← e1, ← e2, hd, List.length_drop] at h1
  have t1 : l.take (i + 1) = l.take i ++ [l[i]] := List.take_succ_eq_append_getElem hi
  have t2 : (l.set i d).take (i + 1) = l.take i ++ [d] := by
    rw [List.take_succ_eq_append_getElem (by simpa using hi), List.getElem_set_self, List.take_set_of_le (Nat.le_refl _)]
  rw [← t1, ← t2, hd] at h2
  have hp32 : p < 2 ^ 32 := by omega
  have n1 := Go.Crc.shs_ne 8 p hp32 hp0
  refine ⟨Go.Crc.xor_ne ?_, Go.Crc.xor_ne ?_, ?_⟩
  · rw [h1]; exact Go.Crc.shs_ne _ _ (Go.Crc.shs_lt 8 p hp32) n1
  · rw [h2]; exact Go.Crc.shs_ne _ _ (Go.Crc.shs_lt 8 p hp32) n1
  · rw [← Go.Crc.shs_xor, h2, h1]; rfl

/-- A text as bytes of its own. -/
theorem bytes_of (w : World) (s : ByteArray) : ∃ cap W1, (convert 9 85 (.string s)).run Tryd.prog w = .ok (.slice (some ⟨w.heap.size, 0, none⟩) s.size cap) W1 ∧ Below w.heap.size w W1 ∧
    ∀ j (h : j < s.size), W1.cell? ⟨w.heap.size, j, none⟩ = some (.int .u8 (s[j].toNat : Nat)) ∧ W1.frozen? ⟨w.heap.size, j, none⟩ = false := by
  refine ⟨_, _, run_bytes_of_string w _ _ _ s Tryd.underlying9 Tryd.underlying85 Tryd.underlying5, ((Below.refl _ _).drew).alloc (Nat.le_refl _) _, ?_⟩
  intro j h
  have hb : (w.drew.alloc (.cells (bytesRow s (grownCap w s.size 0 5)) 5 ((bytesRow s (grownCap w s.size 0 5)).size, (bytesRow s (grownCap w s.size 0 5)).size + 1))).heap[w.heap.size]? = some (.cells (bytesRow s (grownCap w s.size 0 5)) 5 ((bytesRow s (grownCap w s.size 0 5)).size, (bytesRow s (grownCap w s.size 0 5)).size + 1)) := heap_alloc_new w.drew _
  have hz : s.size ≤ (bytesRow s (grownCap w s.size 0 5)).size := by
    rw [bytesRow, Array.size_append, Array.size_map]
    exact Nat.le_add_right _ _
  constructor
  · rw [cell_of_row _ _ j _ _ _ hb, bytesRow_at s _ j h]
    rfl
  · simp only [World.frozen?, hb]
    simp
    omega
/-- Bytes of one's own, one of them changed, as a text. -/
theorem bytes_back (W1 : World) (g cap i : Nat) (s : ByteArray) (d : UInt8) (hi : i < s.size) (h : ∀ j (h : j < s.size), W1.cell? ⟨g, j, none⟩ = some (.int .u8 (s[j].toNat : Nat))) :
    (convert 85 9 (.slice (some ⟨g, 0, none⟩) s.size cap)).run Tryd.prog (W1.setCell ⟨g, i, none⟩ (.int .u8 (d.toNat : Nat))) = .ok (.string (str (s.data.toList.set i d))) (W1.setCell ⟨g, i, none⟩ (.int .u8 (d.toNat : Nat))) := by
  have hl : (s.data.toList.set i d).length = s.size := by rw [List.length_set, lenL]
  have := run_convert_bytes_back (P := Tryd.prog) (W1.setCell ⟨g, i, none⟩ (.int .u8 (d.toNat : Nat))) 85 9 5 ⟨g, 0, none⟩ cap (s.data.toList.set i d) Tryd.underlying85 Tryd.underlying5 Tryd.underlying9 (fun j hj => ?_)
  · rw [hl] at this
    exact this
  · rw [hl] at hj
    have hadd : (⟨g, 0, none⟩ : Addr).add j = ⟨g, j, none⟩ := by unfold Addr.add; split <;> simp_all
    rw [hadd]
    by_cases e : i = j
    · subst e
      rw [World.cell?_setCell_same _ _ _ (h i hi), List.getElem_set_self]
    · rw [World.cell?_setCell_other _ _ _ _ (by intro hh; cases hh; exact e rfl), h j hj, List.getElem_set_ne e, atL s j hj]
end Go.Proofs.YtlmampcdflbifadDoor

namespace Go.Proofs.YtlmampcdflbifadDoor
open Go.RowKit
open Go.Frame (low4)

/-- Four bytes, of which the first j are those of a sum. -/
def SealAt (g : Nat) (w : World) (c j : Nat) : Prop := ∀ k, k < 4 → w.cell? ⟨g, k, none⟩ = some (.int .u8 ((if k < j then c / 256 ^ k % 256 else 0 : Nat) : Int)) ∧ w.frozen? ⟨g, k, none⟩ = false
theorem SealAt.fresh (w : World) (c : Nat) (T : TypeId) : SealAt w.heap.size (w.alloc (.cells #[.int .u8 0, .int .u8 0, .int .u8 0, .int .u8 0] T)) c 0 := by
  intro k hk
  match k, hk with
  | 0, _ => simp
  | 1, _ => simp
  | 2, _ => simp
  | 3, _ => simp
theorem SealAt.step {g c j : Nat} {w : World} (h : SealAt g w c j) (hj : j < 4) (x : Int) (hx : x = ((c / 256 ^ j % 256 : Nat) : Int)) : SealAt g (w.setCell ⟨g, j, none⟩ (.int .u8 x)) c (j + 1) := by
  intro k hk
  obtain ⟨h1, h2⟩ := h k hk
  refine ⟨?_, by simpa using h2⟩
  by_cases e : k = j
  · subst e
    rw [World.cell?_setCell_same _ _ _ h1, if_pos (by omega), hx]
  · rw [World.cell?_setCell_other _ _ _ _ (by intro q; cases q; exact e rfl), h1]
    by_cases q : k < j
    · rw [if_pos q, if_pos (by omega)]
    · rw [if_neg q, if_neg (by omega)]
theorem SealAt.text {g c : Nat} {w : World} (h : SealAt g w c 4) (hc : c < 4294967296) : (convert 85 9 (.slice (some ⟨g, 0, none⟩) 4 4)).run Tryd.prog w = .ok (.string (str (low4 c))) w := by
  have := run_convert_bytes_back (P := Tryd.prog) w 85 9 5 ⟨g, 0, none⟩ 4 (low4 c) Tryd.underlying85 Tryd.underlying5 Tryd.underlying9 (fun j hj => ?_)
  · exact this
  · have hj' : j < 4 := hj
    have hadd : (⟨g, 0, none⟩ : Addr).add j = ⟨g, j, none⟩ := by unfold Addr.add; split <;> simp_all
    rw [hadd, (h j hj').1, if_pos hj']
    have t : ∀ n, n < 256 → (UInt8.ofNat n).toNat = n := fun n hn => Go.Num.toNat_ofNat n hn
    match j, hj' with
    | 0, _ => simp only [low4, List.getElem_cons_zero]; rw [t _ (by omega)]; simp
    | 1, _ => simp only [low4, List.getElem_cons_zero, List.getElem_cons_succ]; rw [t _ (by omega)]
    | 2, _ => simp only [low4, List.getElem_cons_zero, List.getElem_cons_succ]; rw [t _ (by omega)]
    | 3, _ => simp only [low4, List.getElem_cons_zero, List.getElem_cons_succ]; rw [t _ (by omega)]; congr 3; omega

set_option maxHeartbeats 2000000 in
set_option maxRecDepth 100000 in
theorem seal_ok (s : ByteArray) (w : World) (hs : s.size ≤ 1000000) : Calls Tryd.prog 65 #[.string s] w fun r w' => r = .returned (.string (str (low4 (Go.Crc.crc 0 s.data.toList)))) ∧ Below w.heap.size w w' := by
  have HS := hide (fun W => sum_ok s W hs)
  have hc := Go.Crc.crc_lt 0 s.data.toList (by decide)
  generalize Go.Crc.crc 0 s.data.toList = c at *
  have hc' : (c : Int) < 4294967296 := by omega
  have Hc := hide hc
  have hmk : ∀ w, (Instr.makeSlice 85 (.int .i64 4) (.int .i64 4)).run Tryd.prog w = .ok (.slice (some ⟨w.heap.size, 0, none⟩) 4 4) (w.alloc (.cells #[.int .u8 0, .int .u8 0, .int .u8 0, .int .u8 0] 5)) := fun _ => by kernel_rfl
  clear hs hc
  go_enter Tryd.func65, Tryd.ntmps65
  go_wp2_with fail
  refine (HS.out _).mono ?_
  rintro r w1 ⟨rfl, rfl⟩
  have Ha := hide (SealAt.fresh w1 c 5)
  have Hb : Hid (Below w1.heap.size w1 (w1.alloc (.cells #[.int .u8 0, .int .u8 0, .int .u8 0, .int .u8 0] 5))) := (Below.refl _ _).alloc (Nat.le_refl _) _
  go_wp2_with fail
  go_loopw [5, 11] (fun _ t wr => ∃ j : Nat, t = .int .i64 j ∧ j ≤ 4 ∧ Hid (SealAt w1.heap.size wr c j) ∧ Hid (Below w1.heap.size w1 wr)) (fun _ t _ => 4 - (intOf t).toNat)
  case atStart => exact ⟨0, rfl, by omega, Ha.out, Hb.out⟩
  case round =>
    clear Ha Hb hmk
    obtain ⟨j, rfl, hj, Ha, Hb⟩ := hrel
    match j, hj with
    | 0, _ =>
      obtain ⟨a1, a2⟩ := Ha.out 0 (by omega)
      rw [if_neg (by omega)] at a1
      go_wp2_with fail
      go_roundw
      case rel => exact ⟨1, by go_num, by omega, Ha.out.step (by omega) _ (by omega), Hb.out.setCell (by simp) _⟩
      case measure => simp [intOf]
    | 1, _ =>
      obtain ⟨a1, a2⟩ := Ha.out 1 (by omega)
      rw [if_neg (by omega)] at a1
      go_wp2_with fail
      go_roundw
      case rel => exact ⟨2, by go_num, by omega, Ha.out.step (by omega) _ (by omega), Hb.out.setCell (by simp) _⟩
      case measure => simp [intOf]
    | 2, _ =>
      obtain ⟨a1, a2⟩ := Ha.out 2 (by omega)
      rw [if_neg (by omega)] at a1
      go_wp2_with fail
      go_roundw
      case rel => exact ⟨3, by go_num, by omega, Ha.out.step (by omega) _ (by omega), Hb.out.setCell (by simp) _⟩
      case measure => simp [intOf]
    | 3, _ =>
      obtain ⟨a1, a2⟩ := Ha.out 3 (by omega)
      rw [if_neg (by omega)] at a1
      go_wp2_with fail
      go_roundw
      case rel => exact ⟨4, by go_num, by omega, Ha.out.step (by omega) _ (by omega), Hb.out.setCell (by simp) _⟩
      case measure => simp [intOf]
    | 4, _ =>
      have ht := Ha.out.text Hc.out
      generalize hE : str (low4 c) = E at ht
      have HE := hide hE
      clear hE
      go_wp2_with fail
      go_ret
      exact ⟨by rw [HE.out]; rfl, Hb.out⟩
end Go.Proofs.YtlmampcdflbifadDoor

namespace Go.Proofs.YtlmampcdflbifadDoor
open Go.RowKit
open Go.Frame (Fr frErr)

set_option maxHeartbeats 1000000 in
set_option maxRecDepth 100000 in
theorem fcheck_ok (v : FrVs) (f : Fr) (w : World) (hs : f.data.size ≤ 1000000) (hE : FrEr v w) : Calls Tryd.prog 38 #[frV f] w fun r w' => r = .returned (errG v (frErr f)) ∧ Below w.heap.size w w' := by
  obtain ⟨k, e, q, d⟩ := f
  have hk := k.toNat_lt
  have hsz : (d.size : Int) ≤ 1000000 := by simp only at hs; omega
  clear hs
  have Hb : Hid (Below w.heap.size w (w.alloc (.cells #[.int .u8 k.toNat, .int .i64 e, .int .i64 q, .string d] 70))) := (Below.refl _ _).alloc (Nat.le_refl _) _
  have hB := (hE.below Hb.out).bound
  have hK := (hE.below Hb.out).kind
  clear hE
  have Hx : Hid (frErr ⟨k, e, q, d⟩ = if k.toNat < 97 ∨ 122 < k.toNat then 4 else if e < 0 ∨ 2147483648 < e ∨ q < 0 ∨ 65536 ≤ q ∨ 20000 < d.size then 2 else 0) := rfl
  generalize frErr ⟨k, e, q, d⟩ = E at *
  simp only [frV]
  generalize k.toNat = n at *
  by_cases h1 : n < 97
  · have h1' : (n : Int) < 97 := by omega
    have He : Hid (E = 4) := Hx.out.trans (if_pos (Or.inl h1))
    clear h1 Hx
    go_enter Tryd.func38, Tryd.ntmps38
    go_wp2
    go_ret
    exact ⟨by rw [He.out]; rfl, Hb.out⟩
  · have h1' : (97 : Int) ≤ n := by omega
    by_cases h2 : 122 < n
    · have h2' : (122 : Int) < n := by omega
      have He : Hid (E = 4) := Hx.out.trans (if_pos (Or.inr h2))
      clear h1 h2 Hx
      go_enter Tryd.func38, Tryd.ntmps38
      go_wp2
      go_ret
      exact ⟨by rw [He.out]; rfl, Hb.out⟩
    · have h2' : (n : Int) ≤ 122 := by omega
      have Hx2 := hide (Hx.out.trans (if_neg (by omega)))
      clear h1 h2 Hx
      by_cases h3 : e < 0
      · have He : Hid (E = 2) := Hx2.out.trans (if_pos (Or.inl h3))
        clear Hx2
        go_enter Tryd.func38, Tryd.ntmps38
        go_wp2
        go_ret
        exact ⟨by rw [He.out]; rfl, Hb.out⟩
      · have h3' : 0 ≤ e := by omega
        by_cases h4 : 2147483648 < e
        · have He : Hid (E = 2) := Hx2.out.trans (if_pos (Or.inr (Or.inl h4)))
          clear Hx2 h3
          go_enter Tryd.func38, Tryd.ntmps38
          go_wp2
          go_ret
          exact ⟨by rw [He.out]; rfl, Hb.out⟩
        · have h4' : e ≤ 2147483648 := by omega
          by_cases h5 : q < 0
          · have He : Hid (E = 2) := Hx2.out.trans (if_pos (Or.inr (Or.inr (Or.inl h5))))
            clear Hx2 h3 h4
            go_enter Tryd.func38, Tryd.ntmps38
            go_wp2
            go_ret
            exact ⟨by rw [He.out]; rfl, Hb.out⟩
          · have h5' : 0 ≤ q := by omega
            by_cases h6 : 65536 ≤ q
            · have He : Hid (E = 2) := Hx2.out.trans (if_pos (Or.inr (Or.inr (Or.inr (Or.inl h6)))))
              clear Hx2 h3 h4 h5
              go_enter Tryd.func38, Tryd.ntmps38
              go_wp2
              go_ret
              exact ⟨by rw [He.out]; rfl, Hb.out⟩
            · have h6' : q < 65536 := by omega
              by_cases h7 : 20000 < d.size
              · have h7' : (20000 : Int) < d.size := by omega
                have He : Hid (E = 2) := Hx2.out.trans (if_pos (Or.inr (Or.inr (Or.inr (Or.inr h7)))))
                clear Hx2 h3 h4 h5 h6
                go_enter Tryd.func38, Tryd.ntmps38
                go_wp2
                go_ret
                exact ⟨by rw [He.out]; rfl, Hb.out⟩
              · have h7' : (d.size : Int) ≤ 20000 := by omega
                have He : Hid (E = 0) := Hx2.out.trans (if_neg (by omega))
                clear Hx2 h3 h4 h5 h6 h7
                go_enter Tryd.func38, Tryd.ntmps38
                go_wp2
                go_ret
                exact ⟨by rw [He.out]; rfl, Hb.out⟩
end Go.Proofs.YtlmampcdflbifadDoor

namespace Go.Proofs.YtlmampcdflbifadDoor
open Go.RowKit

set_option maxHeartbeats 400000 in
set_option maxRecDepth 100000 in
theorem byteW_ok (p : Nat) (b : UInt8) (bs : List UInt8) (v : Value) (w : World) (hb : bs.length ≤ 1000000) (h : WrAt p w bs v) :
    Calls Tryd.prog 103 #[.pointer (some ⟨p, 0, none⟩), .int .u8 b.toNat] w fun e w' => e = .returned (.tuple #[]) ∧ (∃ v', WrAt p w' (bs ++ [b]) v') ∧ Below p w w' ∧ KeptT p w w' := by
  obtain ⟨i0, hi, hz0, hz1, hz2⟩ := info_parts Tryd.info5
  have HW := hide h
  obtain ⟨c0, c1, f0, f1, lt, own⟩ := h
  go_enter Tryd.func103, Tryd.ntmps103
  go_wp2_with (at_builtin; refine wpList_append_own _ rfl (.tmp 13) (.tmp 15) 85 rfl (p + 1) 5 i0 (.int .u8 0) 1 1 Tryd.underlying85 hi hz0 hz1 hz2 rfl (by decide) v bs.length (bs.map cellOf) rfl ?own ⟨w.heap.size, 0, none⟩ 1 1 [.int .u8 (b.toNat : Int)] rfl rfl ?c1 ?c2 ?b1 ?b2 ?b3 ?next)
  case own => exact own.alloc _
  case c1 => intro j u hj; match j, hj with | 0, hj => simp at hj; subst hj; simp [Addr.add]
  case c2 => intro u hu; simp at hu; subst hu; rfl
  case b1 => unfold maxLen; omega
  case b2 => omega
  case b3 => simp; omega
  case next =>
    intro v2 w2 hown hgrow _
    have hb2 : Below (p + 1) w w2 := ((Below.refl _ _).alloc (by omega) _).grown hgrow (by simp; omega) (fun k hk => (own.lt k hk).1)
    have hfin := HW.out.more b rfl hb2 hown
    have k0 := (hb2.cell (p := ⟨p, 0, none⟩) (by simp)).trans c0
    have e0 := (hb2.frozen (p := ⟨p, 0, none⟩) (by simp)).trans f0
    have Hk2 := hide (KeptT.step (v2 := v2) own hgrow)
    obtain ⟨g, c', rfl⟩ := own_form hown
    have Hfin := hide hfin
    have Hb2 := hide hb2
    clear hfin hb2 hown hgrow
    go_wp2
    go_end0
    exact ⟨rfl, ⟨_, Hfin.out⟩, (Hb2.out.mono (by omega)).setCell (by simp) _, Hk2.out⟩
end Go.Proofs.YtlmampcdflbifadDoor

namespace Go.Proofs.YtlmampcdflbifadDoor
open Go.RowKit

theorem WrAt.moreStr {p : Nat} {wr w2 : World} {cur : List UInt8} {v v2 : Value} (h : WrAt p wr cur v) (s : ByteArray) (hb2 : Below (p + 1) wr w2)
    (hown : w2.ownsRow (p + 1) 5 1 v2 (cur.length + s.size) (cur.map cellOf ++ Go.Lib.strCells s)) : WrAt p (w2.setCell ⟨p, 0, none⟩ v2) (cur ++ s.data.toList) v2 := by
  have k0 := (hb2.cell (p := ⟨p, 0, none⟩) (by simp)).trans h.c0
  have k1 := (hb2.cell (p := ⟨p, 1, none⟩) (by simp)).trans h.c1
  have e0 := (hb2.frozen (p := ⟨p, 0, none⟩) (by simp)).trans h.f0
  have e1 := (hb2.frozen (p := ⟨p, 1, none⟩) (by simp)).trans h.f1
  have hz := hb2.size
  have hl := h.lt
  refine ⟨World.cell?_setCell_same _ _ _ k0, by rw [World.cell?_setCell_other _ _ _ _ (by simp)]; exact k1, by simpa using e0, by simpa using e1, by simp; omega, ?_⟩
  have := ownsRow_setCell_below hown (a := ⟨p, 0, none⟩) (by simp) v2
  have e : (cur ++ s.data.toList).length = cur.length + s.size := by rw [List.length_append, Array.length_toList]; rfl
  rw [e, List.map_append]
  exact this

theorem KeptT.stepS {p n : Nat} {wr w2 : World} {v v2 : Value} {xs : List Value} (own : wr.ownsRow (p + 1) 5 1 v n xs) (hg : wr.grownBy w2 v.ownBlock) : KeptT p wr (w2.setCell ⟨p, 0, none⟩ v2) := by
  intro g c t f hp ht h
  have hlt : g < wr.heap.size := (Array.getElem?_eq_some_iff.1 h).1
  have hne : some g ≠ v.ownBlock := by
    intro e
    rcases own.2 with ⟨rfl, _⟩ | ⟨g', cap, cur, rfl, _, hh, _⟩
    · cases e
    · simp only [Value.ownBlock, Option.some.injEq] at e
      subst e
      rw [hh] at h
      cases h
      exact ht rfl
  rw [Below.heap_setCell _ _ _ _ hp, hg.block g hlt hne]
  exact h

set_option maxHeartbeats 400000 in
set_option maxRecDepth 100000 in
theorem text_ok4 (p : Nat) (s : ByteArray) (v : Value) (bs : List UInt8) (w : World) (hs : s.size ≤ 20000) (hb : bs.length ≤ 900000) (h : WrAt p w bs v) :
    Calls Tryd.prog 95 #[.pointer (some ⟨p, 0, none⟩), .string s] w fun e w' => e = .returned (.tuple #[]) ∧ (∃ v', WrAt p w' (bs ++ Go.Num.enc s.size ++ s.data.toList) v') ∧ Below p w w' ∧ KeptT p w w' := by
  obtain ⟨i0, hi, hz0, hz1, hz2⟩ := info_parts Tryd.info5
  have H := hide h
  clear h
  have hs' : (s.size : Int) ≤ 20000 := by omega
  have hlen := Go.Num.enc_length_le s.size
  go_enter Tryd.func95, Tryd.ntmps95
  go_wp2_with fail
  refine (num_ok4 p s.size bs v _ (by omega) (by omega) H.out).mono ?_
  rintro e w1 ⟨rfl, ⟨v1, h1⟩, hb1, hk1⟩
  have Hk1 := hide hk1
  clear hk1
  have H1 := hide h1
  have Hb1 := hide hb1
  generalize hcur : bs ++ Go.Num.enc s.size = cur at h1 H1
  have hcl : cur.length ≤ 900006 := by rw [← hcur]; simp; omega
  have Hcur := hide hcur
  clear hcur H hb1
  obtain ⟨c0, c1, f0, f1, lt, own⟩ := h1
  go_wp2_with (at_builtin; refine Go.Lib.wpList_append_own_string _ rfl (.tmp 23) (.tmp 24) 85 9 rfl (p + 1) 5 i0 Tryd.underlying85 Tryd.underlying9 hi hz0 hz1 hz2 v1 cur.length (cur.map cellOf) rfl ?own s rfl ?b1 ?b2 ?b3 ?next)
  case own => exact own
  case b1 => unfold maxLen; omega
  case b2 => omega
  case b3 => omega
  case next =>
    intro v2 w2 hown hgrow _
    have hb2 : Below (p + 1) w1 w2 := (Below.refl _ _).grown hgrow (by omega) (fun k hk => (own.lt k hk).1)
    have hfin := H1.out.moreStr s hb2 hown
    have k0 := (hb2.cell (p := ⟨p, 0, none⟩) (by simp)).trans c0
    have e0 := (hb2.frozen (p := ⟨p, 0, none⟩) (by simp)).trans f0
    have Hk2 := hide (Hk1.out.trans (KeptT.stepS (v2 := v2) own hgrow))
    rcases own_forms hown with ⟨rfl, _⟩ | ⟨g, c', rfl⟩
    all_goals
      have Hfin := hide hfin
      have Hb2 := hide hb2
      clear hfin hb2 hown hgrow
      go_wp2
      go_end0
      refine ⟨rfl, ?_, (Hb1.out.trans (Hb2.out.mono (by omega))).setCell (by simp) _, Hk2.out⟩
      first | rw [← List.append_assoc, Hcur.out] | rw [Hcur.out]
      exact ⟨_, Hfin.out⟩

theorem text_ok (p : Nat) (s : ByteArray) (v : Value) (bs : List UInt8) (w : World) (hs : s.size ≤ 20000) (hb : bs.length ≤ 900000) (h : WrAt p w bs v) :
    Calls Tryd.prog 95 #[.pointer (some ⟨p, 0, none⟩), .string s] w fun e w' => e = .returned (.tuple #[]) ∧ (∃ v', WrAt p w' (bs ++ Go.Num.enc s.size ++ s.data.toList) v') ∧ Below p w w' :=
  (text_ok4 p s v bs w hs hb h).mono fun _ _ ⟨h1, h2, h3, _⟩ => ⟨h1, h2, h3⟩
end Go.Proofs.YtlmampcdflbifadDoor
