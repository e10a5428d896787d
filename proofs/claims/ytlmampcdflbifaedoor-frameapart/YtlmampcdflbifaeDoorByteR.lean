/-
  Contract of the reader's Byte in whatever state it is, over this dump.
-/
import Derived.Test.YtlmampcdflbifaeDoorRdState
namespace Go.Proofs.YtlmampcdflbifaeDoor
open Go.RowKit

/-- What Byte makes of the reader. -/
def byteS : St → UInt8 × St
  | .error c => (0, .error c)
  | .ok [] => (0, .error 1)
  | .ok (b :: l) => (b, .ok l)
theorem byteS_len (st : St) : lenS (byteS st).2 ≤ lenS st := by
  match st with
  | .error _ => exact Nat.le_refl _
  | .ok [] => exact Nat.le_refl _
  | .ok (b :: l) => simp [byteS, lenS]

set_option maxHeartbeats 1000000 in
set_option maxRecDepth 100000 in
theorem byteSt (e : EV) (p : Nat) (st : St) (w : World) (h : RdSt e p w st) (hs : lenS st ≤ 1000000) (he : Er1 e w) :
    Calls Tryd.prog 22 #[.pointer (some ⟨p, 0, none⟩)] w fun r w' => r = .returned (.int .u8 (byteS st).1.toNat) ∧ RdSt e p w' (byteS st).2 ∧ w.grownBy w' (some p) := by
  obtain ⟨hT, _⟩ := he
  match st, h with
  | .error c, ⟨hc, h⟩ =>
    obtain ⟨t, x, ev⟩ := errV_form e c (by omega)
    have Hf : Hid (RdSt e p w (.error c)) := ⟨hc, h⟩
    rw [ev] at h
    have H := hide h
    obtain ⟨c0, c1, f0, f1, lt⟩ := h
    simp only [byteS]
    clear ev
    go_enter Tryd.func22, Tryd.ntmps22
    go_wp2_with fail
    refine (failR_err _ _ _ _ _ _ _ H.out).mono ?_
    rintro r w1 ⟨rfl, rfl⟩
    go_wp2
    go_ret
    exact ⟨rfl, Hf.out, World.grownBy.refl _ _⟩
  | .ok [], ⟨s, hsl, h⟩ =>
    obtain rfl : s = ByteArray.empty := ext_of_list (by rw [hsl]; rfl)
    have H := hide h
    obtain ⟨c0, c1, f0, f1, lt⟩ := h
    simp only [byteS]
    clear hsl
    go_enter Tryd.func22, Tryd.ntmps22
    go_wp2_with fail
    refine (failR4 _ _ _ _ _ H.out).mono ?_
    rintro r w1 ⟨rfl, h1, hg1⟩
    have H1 := hide h1
    have Hg := hide hg1
    clear h1 hg1
    go_wp2
    go_ret
    exact ⟨rfl, ⟨Or.inl rfl, H1.out⟩, Hg.out⟩
  | .ok (b :: l), ⟨s, hsl, h⟩ =>
    have hne : s.toList.isEmpty = false := by rw [ByteArray.toList_eq, hsl]; rfl
    have hz : s.size = l.length + 1 := by rw [← lenL, hsl]; rfl
    have hz0 : 0 < s.size := by omega
    have hz' : (0 : Int) < s.size := by omega
    have hz1 : (1 : Int) ≤ s.size := by omega
    have hm : (s.size : Int) ≤ 1000000 := by have : lenS (.ok (b :: l)) = l.length + 1 := rfl; omega
    have hb0 : s[0] = b := by have h := atL s 0 hz0; simp only [hsl, List.getElem_cons_zero] at h; exact h.symm
    have Hb0 := hide hb0
    have HR : Hid ((s.extract 1 s.size).data.toList = l) := by
      have hl : l.length = s.size - 1 := by omega
      show _ = _
      rw [extractL, hsl, List.drop_succ_cons, List.drop_zero]
      exact List.take_of_length_le (by omega)
    obtain ⟨c0, c1, f0, f1, lt⟩ := h
    simp only [byteS]
    clear hsl hb0 hs hz
    go_enter Tryd.func22, Tryd.ntmps22
    go_wp2
    go_ret
    refine ⟨?_, ⟨_, HR.out, World.cell?_setCell_same _ _ _ c0, ?_, by simpa using f0, by simpa using f1, by simpa using lt⟩, grow_set (World.grownBy.refl _ _) _⟩
    · rw [← Hb0.out]; rfl
    · rw [World.cell?_setCell_other _ _ _ _ (by simp)]; exact c1
end Go.Proofs.YtlmampcdflbifaeDoor
