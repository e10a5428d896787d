/-
  Contract of frame.read over this dump: every text.
-/
import Derived.Test.YtlmampcdflbifaeDoorByteR
import Derived.Test.YtlmampcdflbifaeDoorTextState
import Derived.Test.YtlmampcdflbifaeDoorJoin02
import Derived.BigQuiet
import Derived.Deep.QuietTactic
import Derived.Deep.RegionHeld3
import Derived.Laws.Cover1
import Derived.Deep.RegionWith
namespace Go.Proofs.YtlmampcdflbifaeDoor
open Go.RowKit
open Go.Frame (Fr frErr rdB)
open Go.Delta (txt)

theorem num_code {s : List UInt8} {c : Nat} (h : Go.Sign.num s = .error c) : c = 1 ∨ c = 2 := by
  unfold Go.Sign.num at h
  split at h
  · cases h
  · rename_i hd
    cases h
    exact dec_code hd
theorem txt_code {s : List UInt8} {c : Nat} (h : txt s = .error c) : c = 1 ∨ c = 2 := by
  unfold txt at h
  split at h
  · rename_i hd
    cases h
    exact num_code hd
  · split at h
    · cases h; exact Or.inr rfl
    · split at h
      · cases h; exact Or.inl rfl
      · cases h

/-- What read makes of a text: the fields, and an error's number. -/
def rdA (l : List UInt8) : Fr × Nat :=
  (⟨(byteS (.ok l)).1, ((numS (byteS (.ok l)).2).1 : Int), ((numS (numS (byteS (.ok l)).2).2).1 : Int), str (textS (numS (numS (byteS (.ok l)).2).2).2).1⟩, endC (textS (numS (numS (byteS (.ok l)).2).2).2).2)
theorem rdB_eq (l : List UInt8) : rdB l = if (rdA l).2 = 0 then (if frErr (rdA l).1 = 0 then .ok (rdA l).1 else .error (frErr (rdA l).1)) else .error (rdA l).2 := by
  unfold rdB
  split
  · rfl
  · rename_i k r
    have e1 := numS_numD r
    split
    · rename_i c h1
      rw [h1] at e1
      have hc := num_code h1
      have : rdA (k :: r) = (⟨k, 0, 0, str []⟩, c) := by
        simp only [rdA, byteS, e1]
        rfl
      rw [this]
      simp only
      rw [if_neg (by omega)]
    · rename_i e r1 h1
      rw [h1] at e1
      simp only at e1
      have e2 := numS_numD r1
      split
      · rename_i c h2
        rw [h2] at e2
        have hc := num_code h2
        have : rdA (k :: r) = (⟨k, e, 0, str []⟩, c) := by
          simp only [rdA, byteS, e1, e2]
          rfl
        rw [this]
        simp only
        rw [if_neg (by omega)]
      · rename_i q r2 h2
        rw [h2] at e2
        simp only at e2
        have e3 := textS_txt r2
        split
        · rename_i c h3
          rw [h3] at e3
          have hc := txt_code h3
          have : rdA (k :: r) = (⟨k, e, q, str []⟩, c) := by
            simp only [rdA, byteS, e1, e2, e3]
            rfl
          rw [this]
          simp only
          rw [if_neg (by omega)]
        · rename_i d r3 h3
          rw [h3] at e3
          simp only at e3
          have : rdA (k :: r) = (⟨k, e, q, str d⟩, if r3 = [] then 0 else 1) := by
            simp only [rdA, byteS, e1, e2, e3, endC]
          rw [this]
          simp only
          by_cases hr : r3 = []
          · rw [if_pos hr, if_pos hr, if_pos rfl]
          · rw [if_neg hr, if_neg hr, if_neg (by decide)]
theorem rdA_code (l : List UInt8) : (rdA l).2 = 0 ∨ (rdA l).2 = 1 ∨ (rdA l).2 = 2 := by
  have h := rdB_eq l
  unfold rdB at h
  split at h
  · exact Or.inr (Or.inl rfl)
  · rename_i k r
    have e1 := numS_numD r
    cases h1 : Go.Sign.num r with
    | error c =>
      rw [h1] at e1
      have hc := num_code h1
      have : (rdA (k :: r)).2 = c := by
        simp only [rdA, byteS, e1]
        rfl
      omega
    | ok x =>
      obtain ⟨e, r1⟩ := x
      rw [h1] at e1
      simp only at e1
      have e2 := numS_numD r1
      cases h2 : Go.Sign.num r1 with
      | error c =>
        rw [h2] at e2
        have hc := num_code h2
        have : (rdA (k :: r)).2 = c := by
          simp only [rdA, byteS, e1, e2]
          rfl
        omega
      | ok y =>
        obtain ⟨q, r2⟩ := y
        rw [h2] at e2
        simp only at e2
        have e3 := textS_txt r2
        cases h3 : txt r2 with
        | error c =>
          rw [h3] at e3
          have hc := txt_code h3
          have : (rdA (k :: r)).2 = c := by
            simp only [rdA, byteS, e1, e2, e3]
            rfl
          omega
        | ok z =>
          obtain ⟨d, r3⟩ := z
          rw [h3] at e3
          simp only at e3
          have : (rdA (k :: r)).2 = if r3 = [] then 0 else 1 := by
            simp only [rdA, byteS, e1, e2, e3, endC]
          rw [this]
          split <;> simp

theorem textS_short (st : St) : (textS st).1.length ≤ lenS st := by
  have h := numS_len st
  unfold textS
  split
  · simp
  · rename_i l hl
    rw [hl] at h
    split
    · simp
    · split
      · simp
      · simp only [lenS, List.length_take] at h ⊢; omega
theorem rdA_short (l : List UInt8) : (rdA l).1.data.size ≤ l.length := by
  have h1 := byteS_len (.ok l)
  have h2 := numS_len (byteS (.ok l)).2
  have h3 := numS_len (numS (byteS (.ok l)).2).2
  have h4 := textS_short (numS (numS (byteS (.ok l)).2).2).2
  have h5 : lenS (.ok l) = l.length := rfl
  simp only [rdA, str_len]
  omega

theorem FrAt.grown {p q : Nat} {w w' : World} {b : Fr} (h : FrAt q w b) (hg : w.grownBy w' (some p)) (hq : q ≠ p) : FrAt q w' b := by
  have hb : w'.heap[q]? = w.heap[q]? := hg.block q h.lt (fun e => hq (by cases e; rfl))
  exact ⟨(World.cell?_of_block (a := ⟨q, 0, none⟩) hb).trans h.c0, (World.cell?_of_block (a := ⟨q, 1, none⟩) hb).trans h.c1, (World.cell?_of_block (a := ⟨q, 2, none⟩) hb).trans h.c2, (World.cell?_of_block (a := ⟨q, 3, none⟩) hb).trans h.c3, (World.frozen?_of_block (a := ⟨q, 0, none⟩) hb).trans h.f0, (World.frozen?_of_block (a := ⟨q, 1, none⟩) hb).trans h.f1, (World.frozen?_of_block (a := ⟨q, 2, none⟩) hb).trans h.f2, (World.frozen?_of_block (a := ⟨q, 3, none⟩) hb).trans h.f3, Nat.lt_of_lt_of_le h.lt hg.size⟩
theorem FrAt.setOther {q b i : Nat} {w : World} {f : Fr} (h : FrAt b w f) (hq : b ≠ q) (v : Value) : FrAt b (w.setCell ⟨q, i, none⟩ v) f :=
  ⟨by rw [World.cell?_setCell_other _ _ _ _ (by simp)]; exact h.c0, by rw [World.cell?_setCell_other _ _ _ _ (by simp)]; exact h.c1, by rw [World.cell?_setCell_other _ _ _ _ (by simp)]; exact h.c2, by rw [World.cell?_setCell_other _ _ _ _ (by simp)]; exact h.c3, by simpa using h.f0, by simpa using h.f1, by simpa using h.f2, by simpa using h.f3, by simpa using h.lt⟩
theorem FrAt.drew {b : Nat} {w : World} {f : Fr} (h : FrAt b w f) : FrAt b w.drew f := h.below (Below.refl _ _).drew h.lt
theorem RdAt.setOther {p q i : Nat} {w : World} {s : ByteArray} {x : Value} (h : RdAt p w s x) (hq : p ≠ q) (v : Value) : RdAt p (w.setCell ⟨q, i, none⟩ v) s x :=
  ⟨by rw [World.cell?_setCell_other _ _ _ _ (by simp)]; exact h.c0, by rw [World.cell?_setCell_other _ _ _ _ (by simp)]; exact h.c1, by simpa using h.f0, by simpa using h.f1, by simpa using h.lt⟩
theorem RdSt.setOther {e : EV} {p q i : Nat} {w : World} {st : St} (h : RdSt e p w st) (hq : p ≠ q) (v : Value) : RdSt e p (w.setCell ⟨q, i, none⟩ v) st := by
  cases st with
  | ok l => obtain ⟨s, hs, h⟩ := h; exact ⟨s, hs, h.setOther hq v⟩
  | error c => exact ⟨h.1, h.2.setOther hq v⟩
theorem RdSt.drew {e : EV} {p : Nat} {w : World} {st : St} (h : RdSt e p w st) : RdSt e p w.drew st := h.below' (Below.refl _ _).drew

theorem FrAt.set4 {q b : Nat} {w : World} {f : Fr} (h : FrAt b w f) (hq : b ≠ q) (x0 x1 x2 x3 : Value) : FrAt b ((((w.setCell ⟨q, 0, none⟩ x0).setCell ⟨q, 1, none⟩ x1).setCell ⟨q, 2, none⟩ x2).setCell ⟨q, 3, none⟩ x3) f :=
  (((h.setOther hq x0).setOther hq x1).setOther hq x2).setOther hq x3
theorem FrAt.four {b : Nat} {w : World} {k : UInt8} {n m : Int} {D : ByteArray} (h : FrAt b w ⟨k, n, m, D⟩) : w.cell? ⟨b, 0, none⟩ = some (.int .u8 k.toNat) ∧ w.cell? ⟨b, 1, none⟩ = some (.int .i64 n) ∧ w.cell? ⟨b, 2, none⟩ = some (.int .i64 m) ∧ w.cell? ⟨b, 3, none⟩ = some (.string D) := ⟨h.c0, h.c1, h.c2, h.c3⟩

set_option maxHeartbeats 2000000 in
set_option maxRecDepth 100000 in
theorem fread_ok (e : EV) (s : ByteArray) (w : World) (hs : s.size ≤ 1000000) (he : Er1 e w) :
    Calls Tryd.prog 13 #[.string s] w fun r w' => r = .returned (.tuple #[frV (rdA s.data.toList).1, errV e (rdA s.data.toList).2]) ∧ Below w.heap.size w w' := by
  have hsl : lenS (.ok s.data.toList) ≤ 1000000 := by simp only [lenS]; rw [lenL]; exact hs
  have b1 := Nat.le_trans (byteS_len (.ok s.data.toList)) hsl
  have b2 := Nat.le_trans (numS_len (byteS (.ok s.data.toList)).2) b1
  have b3 := Nat.le_trans (numS_len (numS (byteS (.ok s.data.toList)).2).2) b2
  have H1 := hide (fun p W (a : RdSt e p W (.ok s.data.toList)) (b : Er1 e W) => byteSt e p (.ok s.data.toList) W a hsl b)
  have H2 := hide (fun p W (a : RdSt e p W (byteS (.ok s.data.toList)).2) (b : Er1 e W) => numSt e p (byteS (.ok s.data.toList)).2 W a b1 b)
  have H3 := hide (fun p W (a : RdSt e p W (numS (byteS (.ok s.data.toList)).2).2) (b : Er1 e W) => numSt e p (numS (byteS (.ok s.data.toList)).2).2 W a b2 b)
  have H4 := hide (fun p W (hp : w.heap.size ≤ p) (a : RdSt e p W (numS (numS (byteS (.ok s.data.toList)).2).2).2) (b : Er1 e W) => textSt e p (numS (numS (byteS (.ok s.data.toList)).2).2).2 w W he hp a b3 b)
  have H5 := hide (fun p W (a : RdSt e p W (textS (numS (numS (byteS (.ok s.data.toList)).2).2).2).2) (b : Er1 e W) => endSt e p (textS (numS (numS (byteS (.ok s.data.toList)).2).2).2).2 W a b)
  have n2 := numS_le (byteS (.ok s.data.toList)).2
  have n3 := numS_le (numS (byteS (.ok s.data.toList)).2).2
  unfold rdA
  simp only [frV]
  generalize textS (numS (numS (byteS (.ok s.data.toList)).2).2).2 = x4 at *
  generalize numS (numS (byteS (.ok s.data.toList)).2).2 = x3 at *
  generalize numS (byteS (.ok s.data.toList)).2 = x2 at *
  generalize byteS (.ok s.data.toList) = x1 at *
  obtain ⟨k, s1⟩ := x1
  obtain ⟨n, s2⟩ := x2
  obtain ⟨m, s3⟩ := x3
  obtain ⟨d, s4⟩ := x4
  simp only at n2 n3 H1 H2 H3 H4 H5 ⊢
  generalize str d = D at *
  have hb0 : Below w.heap.size w (w.alloc (.cells #[.int .u8 0, .int .i64 0, .int .i64 0, .string ⟨#[]⟩] 25)) := (Below.refl _ _).alloc (Nat.le_refl _) _
  have Hq : Hid (FrAt w.heap.size (w.alloc (.cells #[.int .u8 0, .int .i64 0, .int .i64 0, .string ⟨#[]⟩] 25)) zeroF) := FrAt.fresh w zeroF _
  have Hz : Hid ((w.alloc (.cells #[.int .u8 0, .int .i64 0, .int .i64 0, .string ⟨#[]⟩] 25)).heap.size = w.heap.size + 1) := by show _ = _; simp
  have Hb0 := hide hb0
  have HE := hide he
  clear hb0 he b1 b2 b3 hs hsl
  go_enter Tryd.func13, Tryd.ntmps13
  go_wp2_with fail
  generalize w.alloc (.cells #[.int .u8 0, .int .i64 0, .int .i64 0, .string ⟨#[]⟩] 25) = w0 at *
  refine (newR_ok _ _).mono ?_
  rintro r w1 ⟨rfl, h1⟩
  have hf1 := RdAt.fresh w0 s
  have hb1 : Below w0.heap.size w0 (w0.alloc (.cells #[.string s, .nilIface] 68)) := (Below.refl _ _).alloc (Nat.le_refl _) _
  rw [h1] at hf1 hb1
  have hqp : w.heap.size ≠ w0.heap.size := by rw [Hz.out]; omega
  have hqp2 : w.heap.size < w0.heap.size := by rw [Hz.out]; omega
  have Hq1 := hide (Hq.out.below hb1 hqp2)
  have Hb1 := hide (bthen Hb0.out hb1)
  have Hr1 : Hid (RdSt e w0.heap.size w1 (.ok s.data.toList)) := ⟨s, rfl, hf1⟩
  clear hf1 hb1 h1 Hq Hb0
  generalize w0.heap.size = p at *
  have HG := hide (fun W W' (a : Below w.heap.size w W) (hp : p < W.heap.size) (b : W.grownBy W' (some p)) => a.trans ((grow_below b hp).mono (Nat.le_of_lt hqp2)))
  go_wp2_with fail
  refine (H1.out _ _ Hr1.out (HE.out.below Hb1.out)).mono ?_
  rintro r w2 ⟨rfl, hr2, hg2⟩
  have Hq2 := hide (Hq1.out.grown hg2 hqp)
  have Hb2 := hide (HG.out _ _ Hb1.out Hr1.out.lt hg2)
  have Hr2 := hide hr2
  clear hr2 hg2 Hq1 Hb1 Hr1 H1
  go_wp2_with fail
  refine (H2.out _ _ Hr2.out (HE.out.below Hb2.out)).mono ?_
  rintro r w3 ⟨rfl, hr3, hg3⟩
  have Hq3 := hide (Hq2.out.grown hg3 hqp)
  have Hb3 := hide (HG.out _ _ Hb2.out Hr2.out.lt hg3)
  have Hr3 := hide hr3
  clear hr3 hg3 Hq2 Hb2 Hr2 H2
  go_wp2_with fail
  refine (H3.out _ _ Hr3.out (HE.out.below Hb3.out)).mono ?_
  rintro r w4 ⟨rfl, hr4, hg4⟩
  have Hq4 := hide (Hq3.out.grown hg4 hqp)
  have Hb4 := hide (HG.out _ _ Hb3.out Hr3.out.lt hg4)
  have Hr4 := hide hr4
  clear hr4 hg4 Hq3 Hb3 Hr3 H3
  go_wp2_with fail
  refine (H4.out _ _ (Nat.le_of_lt hqp2) Hr4.out (HE.out.below Hb4.out)).mono ?_
  rintro r w5 ⟨rfl, hr5, hg5⟩
  have Hq5 := hide (Hq4.out.grown hg5 hqp)
  have Hb5 := hide (HG.out _ _ Hb4.out Hr4.out.lt hg5)
  have Hr5 := hide hr5
  clear hr5 hg5 Hq4 Hb4 Hr4 H4
  have hf6 : FrAt w5.heap.size (w5.alloc (.cells #[.int .u8 k.toNat, .int .i64 (n : Int), .int .i64 (m : Int), .string D] 25)) ⟨k, (n : Int), (m : Int), D⟩ := FrAt.fresh w5 ⟨k, (n : Int), (m : Int), D⟩ _
  have hba : Below w5.heap.size w5 (w5.alloc (.cells #[.int .u8 k.toNat, .int .i64 (n : Int), .int .i64 (m : Int), .string D] 25)) := (Below.refl _ _).alloc (Nat.le_refl _) _
  have Hq6 := hide (Hq5.out.below hba Hq5.out.lt)
  have Hb6 := hide (bthen Hb5.out hba)
  have Hr6 := hide (Hr5.out.below' (hba.mono Hr5.out.lt))
  have hbq : w5.heap.size ≠ w.heap.size := by have := Hr5.out.lt; omega
  have hbp : w5.heap.size ≠ p := by have := Hr5.out.lt; omega
  have Hf6 := hide hf6
  clear hf6 hba Hq5 Hb5 Hr5
  go_wp2_with fail
  generalize w5.alloc (.cells #[.int .u8 k.toNat, .int .i64 (n : Int), .int .i64 (m : Int), .string D] 25) = w6 at *
  generalize w5.heap.size = b at *
  obtain ⟨c0, c1, c2, c3, _, _, _, _, _⟩ := Hf6.out
  simp only at c0 c1 c2 c3
  generalize hE : endC s4 = E at *
  have HX := hide hE
  clear hE
  have HC := hide (fun W (h : w6.drew = W) => H5.out p W (h ▸ Hr6.out.drew) (h ▸ HE.out.below Hb6.out.drew))
  go_region_with (go_at_call 25; refine (HC.out _ rfl).mono ?_; rintro r w7 ⟨rfl, hg7⟩; have Hf7 := hide (Hf6.out.drew.grown hg7 hbp); have Hq7 := hide (Hq6.out.drew.grown hg7 hqp); have Hb7 := hide (HG.out _ _ Hb6.out.drew Hr6.out.drew.lt hg7); clear hg7; obtain ⟨d0, d1, d2, d3, _, _, _, _, _⟩ := Hf7.out; simp only at d0 d1 d2 d3; obtain ⟨q0, q1, q2, q3, g0, g1, g2, g3, _⟩ := Hq7.out; simp only [zeroF] at q0 q1 q2 q3)
  all_goals
    go_wp2_with fail
    (try simp only [Exit.inBlock, Exit.then])
    refine bodyPost_ret (v := .tuple #[.agg #[.int .u8 k.toNat, .int .i64 (n : Int), .int .i64 (m : Int), .string D], errV e E]) ?_ rfl ⟨by rw [HX.out], (((Hb7.out.setCell (by simp) _).setCell (by simp) _).setCell (by simp) _).setCell (by simp) _⟩
    obtain ⟨s0, s1, s2, s3, _, _, _, _, _⟩ := Hq7.out.set ⟨k, (n : Int), (m : Int), D⟩
    simp only at s0 s1 s2 s3
    simp only [results, show Tryd.f13.results = #[.cell 2 25, .tmp 3] from rfl]
    go_simp
end Go.Proofs.YtlmampcdflbifaeDoor
