/-
  Contract of the writer's Text over this dump.
-/
import Derived.Test.YtgogjncamjbajacDoorDone
namespace Go.Proofs.YtgogjncamjbajacDoor
open Go.RowKit

theorem WrAt.moreStr {p : Nat} {wr w2 : World} {cur : List UInt8} {v v2 : Value} (h : WrAt p wr cur v) (s : ByteArray) (hb2 : Below (p + 1) wr w2)
    (hown : w2.ownsRow (p + 1) 5 1 v2 (cur.length + s.size) (cur.map cellOf ++ Go.Lib.strCells s)) : WrAt p (w2.setCell ⟨p, 0, none⟩ v2) (cur ++ s.data.toList) v2 := by
  have k0 := (hb2.cell (p := ⟨p, 0, none⟩) (by simp)).trans h.c0
  have k1 := (hb2.cell (p := ⟨p, 1, none⟩) (by simp)).trans h.c1
  have e0 := (hb2.frozen (p := ⟨p, 0, none⟩) (by simp)).trans h.f0
  have e1 := (hb2.frozen (p := ⟨p, 1, none⟩) (by simp)).trans h.f1
  have hz := hb2.size
  have hl := h.lt
  refine ⟨World.cell?_setCell_same _ _ _ k0, by rw [World.cell?_setCell_other _ _ _ _ (by simp)]; exact k1, by simpa using e0, by simpa using e1, by simp; omega, ?_⟩
  have := ownsRow_setCell_below hown (a := ⟨p, 0, none⟩) (by simp) v2
  have e : (cur ++ s.data.toList).length = cur.length + s.size := by rw [List.length_append, Array.length_toList]; rfl
  rw [e, List.map_append]
  exact this

set_option maxHeartbeats 400000 in
set_option maxRecDepth 100000 in
theorem text_ok (p : Nat) (s : ByteArray) (v : Value) (bs : List UInt8) (w : World) (hs : s.size ≤ 20000) (hb : bs.length ≤ 900000) (h : WrAt p w bs v) :
    Calls Tryd.prog 55 #[.pointer (some ⟨p, 0, none⟩), .string s] w fun e w' => e = .returned (.tuple #[]) ∧ (∃ v', WrAt p w' (bs ++ Go.Num.enc s.size ++ s.data.toList) v') ∧ Below p w w' := by
  obtain ⟨i0, hi, hz0, hz1, hz2⟩ := info_parts Tryd.info5
  have H := hide h
  clear h
  have hs' : (s.size : Int) ≤ 20000 := by omega
  have hlen := Go.Num.enc_length_le s.size
  go_enter Tryd.func55, Tryd.ntmps55
  go_wp2_with fail
  refine (num_ok p s.size bs v _ (by omega) (by omega) H.out).mono ?_
  rintro e w1 ⟨rfl, ⟨v1, h1⟩, hb1⟩
  have H1 := hide h1
  have Hb1 := hide hb1
  generalize hcur : bs ++ Go.Num.enc s.size = cur at h1 H1
  have hcl : cur.length ≤ 900006 := by rw [← hcur]; simp; omega
  have Hcur := hide hcur
  clear hcur H hb1
  obtain ⟨c0, c1, f0, f1, lt, own⟩ := h1
  go_wp2_with (at_builtin; refine Go.Lib.wpList_append_own_string _ rfl (.tmp 23) (.tmp 24) 89 9 rfl (p + 1) 5 i0 Tryd.underlying89 Tryd.underlying9 hi hz0 hz1 hz2 v1 cur.length (cur.map cellOf) rfl ?own s rfl ?b1 ?b2 ?b3 ?next)
  case own => exact own
  case b1 => unfold maxLen; omega
  case b2 => omega
  case b3 => omega
  case next =>
    intro v2 w2 hown hgrow _
    have hb2 : Below (p + 1) w1 w2 := (Below.refl _ _).grown hgrow (by omega) (fun k hk => (own.lt k hk).1)
    have hfin := H1.out.moreStr s hb2 hown
    have k0 := (hb2.cell (p := ⟨p, 0, none⟩) (by simp)).trans c0
    have e0 := (hb2.frozen (p := ⟨p, 0, none⟩) (by simp)).trans f0
    rcases own_forms hown with ⟨rfl, _⟩ | ⟨g, c', rfl⟩
    all_goals
      have Hfin := hide hfin
      have Hb2 := hide hb2
      clear hfin hb2 hown hgrow
      go_wp2
      go_end0
      refine ⟨rfl, ?_, (Hb1.out.trans (Hb2.out.mono (by omega))).setCell (by simp) _⟩
      first | rw [← List.append_assoc, Hcur.out] | rw [Hcur.out]
      exact ⟨_, Hfin.out⟩

end Go.Proofs.YtgogjncamjbajacDoor
