/-
  Contract of frame.Decode over this dump; all that the laws ask of package frame.
-/
import Derived.Test.YtlmampcdflbifaeDoorJoin07
import Derived.Test.YtlmampcdflbifaeDoorFrRead
namespace Go.Proofs.YtlmampcdflbifaeDoor
open Go.RowKit
open Go.Frame (Fr frErr low4 rdF rdB rdOut)

/-- The errors that the reader meets. -/
def FrVs.ev (e : FrVs) : EV := ⟨e.tT, e.xT, e.tB, e.xB, e.tK, e.xK⟩
theorem errV_G (e : FrVs) (c : Nat) (h : c = 0 ∨ c = 1 ∨ c = 2) : errV e.ev c = errG e c := by
  rcases h with rfl | rfl | rfl <;> rfl
theorem FrEr.er1 {e : FrVs} {w : World} (h : FrEr e w) : Er1 e.ev w := ⟨h.text, h.bound⟩

set_option maxHeartbeats 1000000 in
set_option maxRecDepth 100000 in
/-- No sum, or a false one. -/
theorem fdecode_none (s : ByteArray) (t : TypeId) (x : Value) (w : World) (hU : ∀ W, Below w.heap.size w W → Calls Tryd.prog 12 #[.string s] W fun r w' => r = .returned (.tuple #[.string ⟨#[]⟩, .iface t x]) ∧ Below W.heap.size W w') :
    Calls Tryd.prog 7 #[.string s] w fun r w' => r = .returned (.tuple #[frV zeroF, .iface t x]) ∧ Below w.heap.size w w' := by
  have HU := hide hU
  have hq : FrAt w.heap.size (w.alloc (.cells #[.int .u8 0, .int .i64 0, .int .i64 0, .string ⟨#[]⟩] 25)) zeroF := FrAt.fresh w zeroF _
  have Hb : Hid (Below w.heap.size w (w.alloc (.cells #[.int .u8 0, .int .i64 0, .int .i64 0, .string ⟨#[]⟩] 25))) := (Below.refl _ _).alloc (Nat.le_refl _) _
  have Hq := hide hq
  clear hU hq
  simp only [frV, zeroF]
  go_enter Tryd.func7, Tryd.ntmps7
  go_wp2_with fail
  generalize (w.alloc (.cells #[.int .u8 0, .int .i64 0, .int .i64 0, .string ⟨#[]⟩] 25)) = w0 at *
  refine (HU.out _ Hb.out).mono ?_
  rintro r w1 ⟨rfl, hb1⟩
  have Hb1 := hide (bthen Hb.out hb1)
  have Hq1 := hide (Hq.out.below hb1 Hq.out.lt)
  clear hb1 Hb Hq HU
  obtain ⟨q0, q1, q2, q3, g0, g1, g2, g3, _⟩ := Hq1.out
  simp only [zeroF] at q0 q1 q2 q3
  go_wp2_with fail
  (try simp only [Exit.inBlock, Exit.then])
  refine bodyPost_ret (v := .tuple #[.agg #[.int .u8 0, .int .i64 0, .int .i64 0, .string ⟨#[]⟩], .iface t x]) ?_ rfl ⟨rfl, (((Hb1.out.setCell (by simp) _).setCell (by simp) _).setCell (by simp) _).setCell (by simp) _⟩
  obtain ⟨s0, s1, s2, s3, _, _, _, _, _⟩ := Hq1.out.set ⟨0, 0, 0, ⟨#[]⟩⟩
  simp only [results, show Tryd.f7.results = #[.cell 2 25, .tmp 3] from rfl]
  go_simp

set_option maxHeartbeats 1000000 in
set_option maxRecDepth 100000 in
/-- The sum is right, but there is no frame ahead of it. -/
theorem fdecode_bad (s B : ByteArray) (f : Fr) (t : TypeId) (x : Value) (w : World) (hU : ∀ W, Below w.heap.size w W → Calls Tryd.prog 12 #[.string s] W fun r w' => r = .returned (.tuple #[.string B, .nilIface]) ∧ Below W.heap.size W w')
    (hR : ∀ W, Below w.heap.size w W → Calls Tryd.prog 13 #[.string B] W fun r w' => r = .returned (.tuple #[frV f, .iface t x]) ∧ Below W.heap.size W w') :
    Calls Tryd.prog 7 #[.string s] w fun r w' => r = .returned (.tuple #[frV zeroF, .iface t x]) ∧ Below w.heap.size w w' := by
  have HU := hide hU
  have HR := hide hR
  have hq : FrAt w.heap.size (w.alloc (.cells #[.int .u8 0, .int .i64 0, .int .i64 0, .string ⟨#[]⟩] 25)) zeroF := FrAt.fresh w zeroF _
  have Hb : Hid (Below w.heap.size w (w.alloc (.cells #[.int .u8 0, .int .i64 0, .int .i64 0, .string ⟨#[]⟩] 25))) := (Below.refl _ _).alloc (Nat.le_refl _) _
  have Hq := hide hq
  clear hU hq hR
  simp only [frV, zeroF] at HR ⊢
  go_enter Tryd.func7, Tryd.ntmps7
  go_wp2_with fail
  generalize (w.alloc (.cells #[.int .u8 0, .int .i64 0, .int .i64 0, .string ⟨#[]⟩] 25)) = w0 at *
  refine (HU.out _ Hb.out).mono ?_
  rintro r w1 ⟨rfl, hb1⟩
  have Hb1 := hide (bthen Hb.out hb1)
  have Hq1 := hide (Hq.out.below hb1 Hq.out.lt)
  clear hb1 Hb Hq HU
  go_wp2_with fail
  refine (HR.out _ Hb1.out).mono ?_
  rintro r w2 ⟨rfl, hb2⟩
  have hba : Below w2.heap.size w2 (w2.alloc (.cells #[.int .u8 f.kind.toNat, .int .i64 f.epoch, .int .i64 f.seq, .string f.data] 25)) := (Below.refl _ _).alloc (Nat.le_refl _) _
  have Hb2 := hide (bthen (bthen Hb1.out hb2) hba)
  have Hq2 := hide ((Hq1.out.below hb2 Hq1.out.lt).below hba (Nat.lt_of_lt_of_le Hq1.out.lt hb2.size))
  clear hb2 hba Hb1 Hq1 HR
  obtain ⟨q0, q1, q2, q3, g0, g1, g2, g3, _⟩ := Hq2.out
  simp only [zeroF] at q0 q1 q2 q3
  go_wp2_with fail
  (try simp only [Exit.inBlock, Exit.then])
  refine bodyPost_ret (v := .tuple #[.agg #[.int .u8 0, .int .i64 0, .int .i64 0, .string ⟨#[]⟩], .iface t x]) ?_ rfl ⟨rfl, (((Hb2.out.setCell (by simp) _).setCell (by simp) _).setCell (by simp) _).setCell (by simp) _⟩
  obtain ⟨s0, s1, s2, s3, _, _, _, _, _⟩ := Hq2.out.set ⟨0, 0, 0, ⟨#[]⟩⟩
  simp only [results, show Tryd.f7.results = #[.cell 2 25, .tmp 3] from rfl]
  go_simp

set_option maxHeartbeats 1000000 in
set_option maxRecDepth 100000 in
/-- What is ahead of the sum is a frame as to its form, and is checked. -/
theorem fdecode_check (s B : ByteArray) (f : Fr) (t : TypeId) (x : Value) (w : World) (hU : ∀ W, Below w.heap.size w W → Calls Tryd.prog 12 #[.string s] W fun r w' => r = .returned (.tuple #[.string B, .nilIface]) ∧ Below W.heap.size W w')
    (hR : ∀ W, Below w.heap.size w W → Calls Tryd.prog 13 #[.string B] W fun r w' => r = .returned (.tuple #[frV f, .nilIface]) ∧ Below W.heap.size W w')
    (hC : ∀ W, Below w.heap.size w W → Calls Tryd.prog 9 #[frV f] W fun r w' => r = .returned (.iface t x) ∧ Below W.heap.size W w') :
    Calls Tryd.prog 7 #[.string s] w fun r w' => r = .returned (.tuple #[frV zeroF, .iface t x]) ∧ Below w.heap.size w w' := by
  have HU := hide hU
  have HR := hide hR
  have HC := hide hC
  have hq : FrAt w.heap.size (w.alloc (.cells #[.int .u8 0, .int .i64 0, .int .i64 0, .string ⟨#[]⟩] 25)) zeroF := FrAt.fresh w zeroF _
  have Hb : Hid (Below w.heap.size w (w.alloc (.cells #[.int .u8 0, .int .i64 0, .int .i64 0, .string ⟨#[]⟩] 25))) := (Below.refl _ _).alloc (Nat.le_refl _) _
  have Hq := hide hq
  clear hU hq hR hC
  simp only [frV, zeroF] at HR HC ⊢
  go_enter Tryd.func7, Tryd.ntmps7
  go_wp2_with fail
  generalize (w.alloc (.cells #[.int .u8 0, .int .i64 0, .int .i64 0, .string ⟨#[]⟩] 25)) = w0 at *
  refine (HU.out _ Hb.out).mono ?_
  rintro r w1 ⟨rfl, hb1⟩
  have Hb1 := hide (bthen Hb.out hb1)
  have Hq1 := hide (Hq.out.below hb1 Hq.out.lt)
  clear hb1 Hb Hq HU
  go_wp2_with fail
  refine (HR.out _ Hb1.out).mono ?_
  rintro r w2 ⟨rfl, hb2⟩
  have hba : Below w2.heap.size w2 (w2.alloc (.cells #[.int .u8 f.kind.toNat, .int .i64 f.epoch, .int .i64 f.seq, .string f.data] 25)) := (Below.refl _ _).alloc (Nat.le_refl _) _
  have Hb2 := hide (bthen (bthen Hb1.out hb2) hba)
  have Hq2 := hide ((Hq1.out.below hb2 Hq1.out.lt).below hba (Nat.lt_of_lt_of_le Hq1.out.lt hb2.size))
  clear hb2 hba Hb1 Hq1 HR
  go_wp2_with fail
  generalize w2.alloc (.cells #[.int .u8 f.kind.toNat, .int .i64 f.epoch, .int .i64 f.seq, .string f.data] 25) = w3 at *
  refine (HC.out _ Hb2.out).mono ?_
  rintro r w4 ⟨rfl, hb4⟩
  have Hb4 := hide (bthen Hb2.out hb4)
  have Hq4 := hide (Hq2.out.below hb4 Hq2.out.lt)
  clear hb4 Hb2 Hq2 HC
  obtain ⟨q0, q1, q2, q3, g0, g1, g2, g3, _⟩ := Hq4.out
  simp only [zeroF] at q0 q1 q2 q3
  go_wp2_with fail
  (try simp only [Exit.inBlock, Exit.then])
  refine bodyPost_ret (v := .tuple #[.agg #[.int .u8 0, .int .i64 0, .int .i64 0, .string ⟨#[]⟩], .iface t x]) ?_ rfl ⟨rfl, (((Hb4.out.setCell (by simp) _).setCell (by simp) _).setCell (by simp) _).setCell (by simp) _⟩
  obtain ⟨s0, s1, s2, s3, _, _, _, _, _⟩ := Hq4.out.set ⟨0, 0, 0, ⟨#[]⟩⟩
  simp only [results, show Tryd.f7.results = #[.cell 2 25, .tmp 3] from rfl]
  go_simp

set_option maxHeartbeats 1000000 in
set_option maxRecDepth 100000 in
theorem fdecode_fine (s B : ByteArray) (f : Fr) (w : World) (hU : ∀ W, Below w.heap.size w W → Calls Tryd.prog 12 #[.string s] W fun r w' => r = .returned (.tuple #[.string B, .nilIface]) ∧ Below W.heap.size W w')
    (hR : ∀ W, Below w.heap.size w W → Calls Tryd.prog 13 #[.string B] W fun r w' => r = .returned (.tuple #[frV f, .nilIface]) ∧ Below W.heap.size W w')
    (hC : ∀ W, Below w.heap.size w W → Calls Tryd.prog 9 #[frV f] W fun r w' => r = .returned .nilIface ∧ Below W.heap.size W w') :
    Calls Tryd.prog 7 #[.string s] w fun r w' => r = .returned (.tuple #[frV f, .nilIface]) ∧ Below w.heap.size w w' := by
  have HU := hide hU
  have HR := hide hR
  have HC := hide hC
  have hq : FrAt w.heap.size (w.alloc (.cells #[.int .u8 0, .int .i64 0, .int .i64 0, .string ⟨#[]⟩] 25)) zeroF := FrAt.fresh w zeroF _
  have Hb : Hid (Below w.heap.size w (w.alloc (.cells #[.int .u8 0, .int .i64 0, .int .i64 0, .string ⟨#[]⟩] 25))) := (Below.refl _ _).alloc (Nat.le_refl _) _
  have Hq := hide hq
  clear hU hq hR hC
  simp only [frV] at HR HC ⊢
  go_enter Tryd.func7, Tryd.ntmps7
  go_wp2_with fail
  generalize (w.alloc (.cells #[.int .u8 0, .int .i64 0, .int .i64 0, .string ⟨#[]⟩] 25)) = w0 at *
  refine (HU.out _ Hb.out).mono ?_
  rintro r w1 ⟨rfl, hb1⟩
  have Hb1 := hide (bthen Hb.out hb1)
  have Hq1 := hide (Hq.out.below hb1 Hq.out.lt)
  clear hb1 Hb Hq HU
  go_wp2_with fail
  refine (HR.out _ Hb1.out).mono ?_
  rintro r w2 ⟨rfl, hb2⟩
  have hba : Below w2.heap.size w2 (w2.alloc (.cells #[.int .u8 f.kind.toNat, .int .i64 f.epoch, .int .i64 f.seq, .string f.data] 25)) := (Below.refl _ _).alloc (Nat.le_refl _) _
  have hf2 : FrAt w2.heap.size (w2.alloc (.cells #[.int .u8 f.kind.toNat, .int .i64 f.epoch, .int .i64 f.seq, .string f.data] 25)) f := FrAt.fresh w2 f _
  have Hf2 := hide hf2
  have Hb2 := hide (bthen (bthen Hb1.out hb2) hba)
  have Hq2 := hide ((Hq1.out.below hb2 Hq1.out.lt).below hba (Nat.lt_of_lt_of_le Hq1.out.lt hb2.size))
  clear hb2 hba Hb1 Hq1 HR hf2
  go_wp2_with fail
  generalize w2.alloc (.cells #[.int .u8 f.kind.toNat, .int .i64 f.epoch, .int .i64 f.seq, .string f.data] 25) = w3 at *
  generalize w2.heap.size = b at *
  refine (HC.out _ Hb2.out).mono ?_
  rintro r w4 ⟨rfl, hb4⟩
  have Hb4 := hide (bthen Hb2.out hb4)
  have Hq4 := hide (Hq2.out.below hb4 Hq2.out.lt)
  have Hf4 := hide (Hf2.out.below hb4 Hf2.out.lt)
  clear hb4 Hb2 Hq2 HC Hf2
  obtain ⟨c0, c1, c2, c3, _, _, _, _, _⟩ := Hf4.out
  obtain ⟨q0, q1, q2, q3, g0, g1, g2, g3, _⟩ := Hq4.out
  simp only [zeroF] at q0 q1 q2 q3
  go_wp2_with fail
  (try simp only [Exit.inBlock, Exit.then])
  refine bodyPost_ret (v := .tuple #[.agg #[.int .u8 f.kind.toNat, .int .i64 f.epoch, .int .i64 f.seq, .string f.data], .nilIface]) ?_ rfl ⟨rfl, (((Hb4.out.setCell (by simp) _).setCell (by simp) _).setCell (by simp) _).setCell (by simp) _⟩
  obtain ⟨s0, s1, s2, s3, _, _, _, _, _⟩ := Hq4.out.set f
  simp only [results, show Tryd.f7.results = #[.cell 2 25, .tmp 3] from rfl]
  go_simp

theorem fdecode_ok (e : FrVs) (s : ByteArray) (w : World) (hs : s.size ≤ 1000000) (hE : FrEr e w) :
    Calls Tryd.prog 7 #[.string s] w fun r w' => r = .returned (.tuple #[frV (rdOut s.data.toList).1, errG e (rdOut s.data.toList).2]) ∧ Below w.heap.size w w' := by
  by_cases h4 : s.size < 4
  · rw [rdOut_err (s := s.data.toList) (c := 1) (by rw [rdF, if_pos (by rw [lenL]; exact h4)])]
    exact fdecode_none s e.tT e.xT w (fun W hb => unsealed_short e s W h4 (hE.below hb))
  · have h4' : 4 ≤ s.size := by omega
    by_cases hc : low4 (Go.Crc.crc 0 (s.data.toList.take (s.data.toList.length - 4))) = s.data.toList.drop (s.data.toList.length - 4)
    · have hU : ∀ W, Below w.heap.size w W → Calls Tryd.prog 12 #[.string s] W fun r w' => r = .returned (.tuple #[.string (s.extract 0 (s.size - 4)), .nilIface]) ∧ Below W.heap.size W w' := fun W _ => unsealed_ok s W h4' hs hc
      have hrd : rdF s.data.toList = rdB (s.extract 0 (s.size - 4)).data.toList := by rw [rdF, if_neg (by rw [lenL]; omega), if_pos hc, body_list]
      have hBs : (s.extract 0 (s.size - 4)).size ≤ 1000000 := by rw [ByteArray.size_extract]; omega
      generalize s.extract 0 (s.size - 4) = B at *
      have hR : ∀ W, Below w.heap.size w W → Calls Tryd.prog 13 #[.string B] W fun r w' => r = .returned (.tuple #[frV (rdA B.data.toList).1, errG e (rdA B.data.toList).2]) ∧ Below W.heap.size W w' := fun W hb => by
        rw [← errV_G e _ (rdA_code _)]
        exact fread_ok e.ev B W hBs (hE.below hb).er1
      have hC := fun W (hb : Below w.heap.size w W) => fcheck_ok e (rdA B.data.toList).1 W (by have := rdA_short B.data.toList; rw [lenL] at this; omega) (hE.below hb)
      rw [rdB_eq] at hrd
      by_cases h0 : (rdA B.data.toList).2 = 0
      · rw [if_pos h0] at hrd
        rw [h0] at hR
        by_cases h1 : frErr (rdA B.data.toList).1 = 0
        · rw [if_pos h1] at hrd
          rw [h1] at hC
          rw [rdOut_ok hrd]
          exact fdecode_fine s B _ w hU hR hC
        · rw [if_neg h1] at hrd
          rw [rdOut_err hrd]
          obtain ⟨t, x, ev⟩ := errG_form e _ h1
          rw [ev] at hC ⊢
          exact fdecode_check s B _ t x w hU hR hC
      · rw [if_neg h0] at hrd
        rw [rdOut_err hrd]
        obtain ⟨t, x, ev⟩ := errG_form e _ h0
        rw [ev] at hR ⊢
        exact fdecode_bad s B _ t x w hU hR
    · rw [rdOut_err (s := s.data.toList) (c := 10) (by rw [rdF, if_neg (by rw [lenL]; omega), if_neg hc])]
      exact fdecode_none s e.tS e.xS w (fun W hb => unsealed_sum e s W h4' hs (hE.below hb) hc)

/-- All that the laws ask of package frame. -/
theorem frameGo (e : FrVs) : FrameGo e where
  check := fun f W hs hE => fcheck_ok e f W hs hE
  encode := fun f W hs hE => fencode_ok e f W hs hE
  decode := fun s W hs hE => fdecode_ok e s W hs hE
end Go.Proofs.YtlmampcdflbifaeDoor
