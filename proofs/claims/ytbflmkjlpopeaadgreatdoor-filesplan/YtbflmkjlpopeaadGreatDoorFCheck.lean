/-
  Contracts of files.wrong, firstWrong, placed over this dump: whatever answers an entry's name and how many bytes it has.
-/
import Derived.Test.YtbflmkjlpopeaadGreatDoorJoin15
import Derived.Test.YtbflmkjlpopeaadGreatDoorJoin17
import Derived.BigQuiet
import Derived.Deep.QuietTactic
import Derived.Laws.Cover1
namespace Go.Proofs.YtbflmkjlpopeaadGreatDoor
open Go.RowKit
open Go.Files (isNm wrongS lt scanF faultF prevOf lastOf)

set_option maxHeartbeats 1000000 in
set_option maxRecDepth 100000 in
theorem wrongF_ok (last name : ByteArray) (n : Int) (e : FV) (w : World) (hs : name.size ≤ 1000000) (he : FEr e w) :
    Calls Tryz.prog 53 #[.string last, .string name, .int .i64 n] w fun r w' => r = .returned (errF e (wrongS last name n)) ∧ w' = w := by
  have HN := hide (fun W => name_ok name W hs)
  obtain ⟨hB, hN, _, hO⟩ := he
  clear hs
  cases hnm : isNm name with
  | false =>
    rw [hnm] at HN
    have Hw : Hid (wrongS last name n = 5) := by unfold wrongS; rw [hnm]; exact rfl
    clear hnm
    go_enter Tryz.func53, Tryz.ntmps53
    go_wp2_with fail
    refine (HN.out _).mono ?_
    rintro r w1 ⟨rfl, rfl⟩
    go_wp2
    go_ret
    exact ⟨by rw [Hw.out]; rfl, rfl⟩
  | true =>
    rw [hnm] at HN
    by_cases h0 : n < 0
    · have Hw : Hid (wrongS last name n = 2) := by unfold wrongS; rw [hnm, if_neg (by simp), if_pos (Or.inl h0)]; exact rfl
      clear hnm
      go_enter Tryz.func53, Tryz.ntmps53
      go_wp2_with fail
      refine (HN.out _).mono ?_
      rintro r w1 ⟨rfl, rfl⟩
      go_wp2
      go_ret
      exact ⟨by rw [Hw.out]; rfl, rfl⟩
    · have h0' : 0 ≤ n := by omega
      by_cases h4 : 4000 < n
      · have Hw : Hid (wrongS last name n = 2) := by unfold wrongS; rw [hnm, if_neg (by simp), if_pos (Or.inr h4)]; exact rfl
        clear hnm h0
        go_enter Tryz.func53, Tryz.ntmps53
        go_wp2_with fail
        refine (HN.out _).mono ?_
        rintro r w1 ⟨rfl, rfl⟩
        go_wp2
        go_ret
        exact ⟨by rw [Hw.out]; rfl, rfl⟩
      · have h4' : n ≤ 4000 := by omega
        have Hw : Hid (wrongS last name n = if lt last name then 0 else 9) := by unfold wrongS; rw [hnm, if_neg (by simp), if_neg (by omega)]; exact rfl
        clear hnm h0 h4
        cases hl : lt last name with
        | true =>
          have hq : (Op.bytesLess name.toList last.toList || name.toList == last.toList) = false := by rw [leq_lt, hl]; rfl
          rw [hl] at Hw
          clear hl
          go_enter Tryz.func53, Tryz.ntmps53
          go_wp2_with fail
          refine (HN.out _).mono ?_
          rintro r w1 ⟨rfl, rfl⟩
          go_wp2
          go_ret
          exact ⟨by rw [Hw.out]; rfl, rfl⟩
        | false =>
          have hq : (Op.bytesLess name.toList last.toList || name.toList == last.toList) = true := by rw [leq_lt, hl]; rfl
          rw [hl] at Hw
          clear hl
          go_enter Tryz.func53, Tryz.ntmps53
          go_wp2_with fail
          refine (HN.out _).mono ?_
          rintro r w1 ⟨rfl, rfl⟩
          go_wp2
          go_ret
          exact ⟨by rw [Hw.out]; rfl, rfl⟩

/-- What a function value answers of entries, wherever all lies as it lay. -/
def Entries (g q : Nat) (K : List (ByteArray × Int)) (w : World) : Prop :=
  ∀ (j : Nat) (hj : j < K.length) (W : World), Below w.heap.size w W → Calls Tryz.prog g #[.int .i64 j, .pointer (some ⟨q, 0, none⟩)] W fun r w' => r = .returned (.tuple #[.string K[j].1, .int .i64 K[j].2]) ∧ Below W.heap.size W w'

set_option maxHeartbeats 2000000 in
set_option maxRecDepth 100000 in
theorem firstWrong_ok (g q : Nat) (eg : ∀ args w, (callFunc g args).run Tryz.prog w = .ok (.enter g args) w) (K : List (ByteArray × Int)) (e : FV) (w : World) (hK : Entries g q K w) (hl : K.length ≤ 1000000) (hs : ∀ x ∈ K, x.1.size ≤ 1000000) (he : FEr e w) :
    Calls Tryz.prog 29 #[.int .i64 K.length, .func (.func g) #[] #[.pointer (some ⟨q, 0, none⟩)]] w fun r w' => r = .returned (.tuple #[.int .i64 (faultF K).2, errF e (faultF K).1]) ∧ Below w.heap.size w w' := by
  have HE := hide he
  have hF := he.full
  by_cases hfull : 20 < K.length
  · have hfull' : (20 : Int) < K.length := by omega
    have Hf : Hid (faultF K = (8, -1)) := by unfold faultF; rw [if_pos hfull]; exact rfl
    clear hfull hK hs he
    go_enter Tryz.func29, Tryz.ntmps29
    go_wp2_with fail
    go_quiet (fail)
    go_wp2
    go_ret2
    exact ⟨by rw [Hf.out]; rfl, (Below.refl _ _).trans ⟨rfl, rfl, rfl, Nat.le_refl _, fun _ _ => rfl⟩⟩
  · have hfull' : (K.length : Int) ≤ 20 := by omega
    have Hf : Hid (faultF K = match scanF K none 0 with | none => (0, -1) | some (i, c) => (c, (i : Int))) := by unfold faultF; rw [if_neg hfull]; exact rfl
    have HK := hide hK
    have HS := hide hs
    clear hfull hK hs he hF
    generalize hR : scanF K none 0 = R at *
    have HR := hide hR
    clear hR
    go_enter Tryz.func29, Tryz.ntmps29
    go_wp2_with fail
    go_loopw [6, 15] (fun t6 t15 wr => ∃ j : Nat, t15 = .int .i64 j ∧ t6 = .string (lastOf K j) ∧ j ≤ K.length ∧ Hid (scanF (K.drop j) (prevOf K j) j = R) ∧ Hid (Below w.heap.size w wr)) (fun _ t15 _ => K.length - (intOf t15).toNat)
    case atStart => exact ⟨0, rfl, rfl, by omega, HR.out, Below.refl _ _⟩
    case round =>
      clear HR
      obtain ⟨j, rfl, rfl, hj, Hsc, Hb⟩ := hrel
      by_cases hlt : j < K.length
      · have hlt' : (j : Int) < K.length := by omega
        have Hs := hide (Go.Files.scanF_stepS K j hlt)
        rw [Hsc.out] at Hs
        have Hc := hide (HK.out j hlt wr Hb.out)
        have HW := hide (fun W (k : Below w.heap.size w W) => wrongF_ok (lastOf K j) K[j].1 K[j].2 e W (HS.out _ (List.getElem_mem hlt)) (HE.out.below k))
        have Hls := hide (Go.Files.lastOf_succ K j hlt)
        clear Hsc
        generalize K[j] = en at *
        obtain ⟨nm, nb⟩ := en
        simp only at Hs Hc HW Hls
        generalize wrongS (lastOf K j) nm nb = f at *
        generalize lastOf K j = lst at *
        by_cases hf : f = 0
        · subst hf
          have hR := Hs.out
          rw [if_pos rfl] at hR
          have HR := hide hR
          clear hR Hs
          rw [show errF e 0 = .nilIface from rfl] at HW
          go_wp2_with fail
          refine Hc.out.mono ?_
          rintro r w1 ⟨rfl, hb1⟩
          have Hb1 := hide (bthen Hb.out hb1)
          clear hb1 Hc
          go_wp2_with fail
          refine (HW.out _ Hb1.out).mono ?_
          rintro r w2 ⟨rfl, rfl⟩
          go_wp2_with fail
          go_roundw
          case rel => exact ⟨j + 1, by go_num, by rw [Hls.out], by omega, HR.out.symm, Hb1.out⟩
          case measure => simp [intOf]; omega
        · have hR := Hs.out
          rw [if_neg hf] at hR
          subst hR
          obtain ⟨t, x, ev⟩ := errF_form e f hf
          rw [ev] at HW
          have Hev := hide ev
          clear ev Hs hf
          go_wp2_with fail
          refine Hc.out.mono ?_
          rintro r w1 ⟨rfl, hb1⟩
          have Hb1 := hide (bthen Hb.out hb1)
          clear hb1 Hc
          go_wp2_with fail
          refine (HW.out _ Hb1.out).mono ?_
          rintro r w2 ⟨rfl, rfl⟩
          go_wp2_with fail
          go_ret2
          exact ⟨by rw [Hf.out]; simp only; rw [Hev.out]; rfl, Hb1.out⟩
      · have hle : (K.length : Int) ≤ (j : Int) := by omega
        have hR : R = none := by rw [← Hsc.out, List.drop_eq_nil_of_le (by omega), scanF]
        subst hR
        go_wp2_with fail
        go_ret2
        exact ⟨by rw [Hf.out]; rfl, Hb.out⟩

section
variable (at_ : Int) (t : TypeId) (x : Value) (w : World)
set_option maxHeartbeats 1000000 in
theorem placed_nil : Calls Tryz.prog 40 #[.int .i64 at_, .nilIface] w fun r w' => r = .returned .nilIface ∧ w' = w := by
  go_enter Tryz.func40, Tryz.ntmps40
  go_wp2
  go_ret
  exact ⟨rfl, rfl⟩
set_option maxHeartbeats 1000000 in
theorem placed_bare : Calls Tryz.prog 40 #[.int .i64 (-1), .iface t x] w fun r w' => r = .returned (.iface t x) ∧ w' = w := by
  go_enter Tryz.func40, Tryz.ntmps40
  go_wp2
  go_ret
  exact ⟨rfl, rfl⟩
set_option maxHeartbeats 1000000 in
theorem placed_at (h : 0 ≤ at_) : Calls Tryz.prog 40 #[.int .i64 at_, .iface t x] w fun r w' => (∃ p, r = .returned (.iface 97 (.pointer (some ⟨p, 0, none⟩))) ∧ w'.cell? ⟨p, 0, none⟩ = some (.int .i64 at_) ∧ w'.cell? ⟨p, 1, none⟩ = some (.iface t x)) ∧ Below w.heap.size w w' := by
  have h' : (at_ == -1) = false := by simp; omega
  clear h
  go_enter Tryz.func40, Tryz.ntmps40
  go_wp2
  go_ret
  exact ⟨⟨w.heap.size, rfl, by simp, by simp⟩, (Below.refl _ _).alloc (Nat.le_refl _) _⟩
end
/-- An error with its place, where it has one. -/
theorem placed_ok (e : FV) (K : List (ByteArray × Int)) (w : World) : Calls Tryz.prog 40 #[.int .i64 (faultF K).2, errF e (faultF K).1] w fun r w' => (∃ x, r = .returned x ∧ FX e w' x (faultF K)) ∧ Below w.heap.size w w' := by
  have hk : (faultF K).1 = 0 ∨ ((faultF K).1 ≠ 0 ∧ ((faultF K).2 = -1 ∨ 0 ≤ (faultF K).2)) := by
    have := Go.Files.faultF_code K
    by_cases h0 : (faultF K).1 = 0
    · exact Or.inl h0
    · refine Or.inr ⟨h0, ?_⟩
      unfold faultF
      split
      · exact Or.inl rfl
      · split
        · exact Or.inl rfl
        · right; simp
  generalize faultF K = f at *
  obtain ⟨c, at_⟩ := f
  simp only at hk ⊢
  rcases hk with rfl | ⟨h0, h1⟩
  · exact (placed_nil at_ w).mono fun r w' ⟨h1, h2⟩ => ⟨⟨_, h1, FX.nil e w' at_⟩, by rw [h2]; exact Below.refl _ _⟩
  · obtain ⟨t, x, ev⟩ := errF_form e c h0
    rw [ev]
    rcases h1 with rfl | h1
    · exact (placed_bare t x w).mono fun r w' ⟨k1, k2⟩ => ⟨⟨_, k1, Or.inr ⟨h0, Or.inl ⟨rfl, ev.symm⟩⟩⟩, by rw [k2]; exact Below.refl _ _⟩
    · refine (placed_at at_ t x w h1).mono ?_
      rintro r w' ⟨⟨p, rfl, c0, c1⟩, hb⟩
      exact ⟨⟨_, rfl, Or.inr ⟨h0, Or.inr ⟨p, rfl, c0, by rw [c1, ev]⟩⟩⟩, hb⟩
end Go.Proofs.YtbflmkjlpopeaadGreatDoor
