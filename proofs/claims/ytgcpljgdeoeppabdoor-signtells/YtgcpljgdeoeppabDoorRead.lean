/-
  Contract of sign.Read over this dump: every text.
-/
import Derived.Test.YtgcpljgdeoeppabDoorSignRead
namespace Go.Proofs.YtgcpljgdeoeppabDoor
open Go.RowKit
open Go.Sign (Blk)

/-- What Read answers. -/
def SReadRes (e : EV) (base : Nat) (w' : World) (r : Ending) : Except Nat (List Blk × Nat) → Prop
  | .ok (l, size) => ∃ v, r = .returned (.tuple #[v, .int .i64 size, .nilIface]) ∧ w'.ownsRow base 60 3 v l.length (bcs l)
  | .error c => r = .returned (.tuple #[.slice none 0 0, .int .i64 0, errV e c]) ∧ (c = 1 ∨ c = 2 ∨ c = 8)

theorem rdBs_length : ∀ (m : Nat) (s : List UInt8) (l : List Blk) (r : List UInt8), Go.Sign.rdBs m s = .ok (l, r) → 3 * l.length ≤ s.length := by
  intro m
  induction m with
  | zero => intro s l r h; cases h; simp
  | succ m ih =>
    intro s l r h
    rw [Go.Sign.rdBs] at h
    split at h
    · cases h
    · rename_i b s1 hb
      split at h
      · cases h
      · rename_i l' s2 hl
        cases h
        have := ih _ _ _ hl
        have := rdB_len hb
        simp; omega
theorem rdAll_length (s : ByteArray) (l : List Blk) (size : Nat) (h : Go.Sign.rdAll s.data.toList = .ok (l, size)) : l.length ≤ s.size := by
  unfold Go.Sign.rdAll at h
  split at h
  · cases h
  · rename_i z s1 h1
    split at h
    · cases h
    · rename_i m s2 h2
      split at h
      · cases h
      · rename_i l' s3 h3
        split at h
        · cases h
          have := rdBs_length _ _ _ _ h3
          have := num_len h1
          have := num_len h2
          rw [lenL] at *
          omega
        · cases h

set_option maxHeartbeats 1000000 in
set_option maxRecDepth 100000 in
theorem sread_ok (e : EV) (s : ByteArray) (w : World) (hs : s.size ≤ 100000) (he : Er e w) :
    Calls Tryd.prog 26 #[.string s] w fun r w' => SReadRes e w.heap.size w' r (Go.Sign.rdS s.data.toList) ∧ Below w.heap.size w w' := by
  have HR := hide (read_ok e s w hs he)
  have HL : Hid (∀ l size, Go.Sign.rdAll s.data.toList = .ok (l, size) → l.length ≤ 1000000) := fun l size h => by have := rdAll_length s l size h; omega
  have HE := hide he
  have ES : Hid (Go.Sign.rdS s.data.toList = match Go.Sign.rdAll s.data.toList with | .error c => .error c | .ok (l, size) => if (Go.Sign.fault l size).1 = 0 then .ok (l, size) else .error (Go.Sign.fault l size).1) := rfl
  generalize Go.Sign.rdS s.data.toList = S at *
  generalize Go.Sign.rdAll s.data.toList = A at *
  clear he
  cases A with
  | error c =>
    have hS : S = .error c := ES.out
    subst hS
    clear ES HL
    go_enter Tryd.func26, Tryd.ntmps26
    go_wp2_with fail
    refine HR.out.mono ?_
    rintro r w1 ⟨⟨a, n, cap, z, rfl, hc⟩, hb1⟩
    obtain ⟨t, x, ev⟩ := errV_form e c (by omega)
    have Hev := hide ev
    have Hc := hide hc
    have Hb1 := hide hb1
    rw [ev]
    clear ev hb1 hc
    go_wp2
    go_ret3
    exact ⟨⟨by rw [Hev.out]; rfl, Hc.out.elim Or.inl (fun h => Or.inr (Or.inl h))⟩, Hb1.out⟩
  | ok p =>
    obtain ⟨l, size⟩ := p
    have hS := ES.out
    simp only at hS
    have hl := HL.out l size rfl
    have HS := hide hS
    clear ES HL hS
    go_enter Tryd.func26, Tryd.ntmps26
    go_wp2_with fail
    refine HR.out.mono ?_
    rintro r w1 ⟨⟨v, rfl, hown⟩, hb1⟩
    have HW := hide (wrong_ok v l size e w1 (RowIn.of_own hown) hl (HE.out.below hb1))
    have Hb1 := hide hb1
    have Hown := hide hown
    have hf : ∃ a cap, v = .slice a l.length cap := by
      rcases hown.2 with ⟨rfl, h⟩ | ⟨g, c, cur, rfl, _⟩
      · exact ⟨none, 0, by rw [h]⟩
      · exact ⟨_, _, rfl⟩
    obtain ⟨a, cap, rfl⟩ := hf
    clear hb1 hown
    have Hcode : Hid ((Go.Sign.fault l size).1 ≠ 0 → (Go.Sign.fault l size).1 = 2 ∨ (Go.Sign.fault l size).1 = 8) := by
      intro h
      unfold Go.Sign.fault at h ⊢
      split
      · rename_i hs
        rw [if_pos hs] at h
        split
        · rename_i hn; rw [hn] at h; simp at h
        · rename_i i c hn; exact (Go.Sign.scanW_code _ _ _ _ _ hn).1
      · exact Or.inl rfl
    generalize Go.Sign.fault l size = f at *
    obtain ⟨c, at_⟩ := f
    simp only at HS HW Hcode
    by_cases hc : c = 0
    · subst hc
      have hS := HS.out
      rw [if_pos rfl] at hS
      subst hS
      have ev : errV e 0 = .nilIface := rfl
      rw [ev] at HW
      clear ev HS
      go_wp2_with fail
      refine HW.out.mono ?_
      rintro r w2 ⟨rfl, hb2⟩
      have Hb2 := hide (bthen Hb1.out hb2)
      have Hown2 := hide (own_below Hown.out hb2)
      clear hb2 HW Hown Hb1
      go_wp2
      go_ret3
      exact ⟨⟨_, rfl, Hown2.out⟩, Hb2.out⟩
    · have hS := HS.out
      rw [if_neg hc] at hS
      subst hS
      obtain ⟨t, x, ev⟩ := errV_form e c hc
      rw [ev] at HW
      have Hev := hide ev
      have Hc := hide (Hcode.out hc)
      clear ev HS Hcode hc
      go_wp2_with fail
      refine HW.out.mono ?_
      rintro r w2 ⟨rfl, hb2⟩
      have Hb2 := hide (bthen Hb1.out hb2)
      clear hb2 HW Hb1
      go_wp2
      go_ret3
      exact ⟨⟨by rw [Hev.out]; rfl, Or.inr Hc.out⟩, Hb2.out⟩
end Go.Proofs.YtgcpljgdeoeppabDoor
