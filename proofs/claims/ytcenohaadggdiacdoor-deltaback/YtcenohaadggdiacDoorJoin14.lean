/-
  Contracts of the reader's Text in whatever state it is, of delta.readOp, read, Read over this dump.
  Contracts of delta.readOp, read, Read over this dump: every text.
  Contracts of delta.read, Read over this dump: every text.
-/
import Derived.Test.YtcenohaadggdiacDoorJoin12
import Derived.Test.YtcenohaadggdiacDoorJoin04
import Derived.Test.YtcenohaadggdiacDoorJoin13
import Derived.Deep.QuietTactic
import Derived.BigQuiet
namespace Go.Proofs.YtcenohaadggdiacDoor
open Go.RowKit
open Go.Delta (Opx copyOp dataOp rdO rdOs rdA rdD txt aheadO kCopy kData)

theorem numS_numD (s : List UInt8) : numS (.ok s) = match Go.Sign.num s with | .ok (n, r) => (n, .ok r) | .error c => (0, .error c) := by
  simp only [numS, Go.Sign.num]
  cases Go.Num.dec s with
  | error c => rfl
  | ok x => rfl
theorem numS_zero {st : St} {c : Nat} (h : (numS st).2 = .error c) : (numS st).1 = 0 := by
  cases st with
  | error c' => rfl
  | ok l =>
    rw [numS_numD] at h ⊢
    split at h
    · cases h
    · rfl

/-- What Text makes of the reader. -/
def textS (st : St) : List UInt8 × St :=
  match (numS st).2 with
  | .error c => ([], .error c)
  | .ok l => if 20000 < (numS st).1 then ([], .error 2) else if l.length < (numS st).1 then ([], .error 1) else (l.take (numS st).1, .ok (l.drop (numS st).1))
theorem textS_len (st : St) : lenS (textS st).2 ≤ lenS st := by
  have := numS_len st
  unfold textS
  split
  · simp [lenS]
  · rename_i l h
    rw [h] at this
    split
    · simp [lenS]
    · split
      · simp [lenS]
      · simp only [lenS, List.length_drop] at this ⊢; omega
theorem textS_txt (s : List UInt8) : textS (.ok s) = match txt s with | .ok (d, r) => (d, .ok r) | .error c => ([], .error c) := by
  unfold textS txt
  rw [numS_numD]
  cases Go.Sign.num s with
  | error c => rfl
  | ok x =>
    obtain ⟨n, r⟩ := x
    simp only
    split
    · rfl
    · split <;> rfl

set_option maxHeartbeats 1000000 in
set_option maxRecDepth 100000 in
theorem textSt (e : EV) (p : Nat) (st : St) (w0 w : World) (h0 : Er e w0) (hp : w0.heap.size ≤ p) (h : RdSt e p w st) (hs : lenS st ≤ 1000000) (he : Er e w) :
    Calls Tryd.prog 85 #[.pointer (some ⟨p, 0, none⟩)] w fun r w' => r = .returned (.string (str (textS st).1)) ∧ RdSt e p w' (textS st).2 ∧ w.grownBy w' (some p) := by
  have HA := hide (numSt e p st w h hs he)
  have hl := numS_len st
  have hn := numS_le st
  have HZ := hide (fun c => numS_zero (st := st) (c := c))
  have HE0 := hide (fun W (b : w.grownBy W (some p)) => Er.grown h0 hp he b)
  have hT : textS st = match (numS st).2 with | .error c => ([], .error c) | .ok l => if 20000 < (numS st).1 then ([], .error 2) else if l.length < (numS st).1 then ([], .error 1) else (l.take (numS st).1, .ok (l.drop (numS st).1)) := rfl
  generalize textS st = T at *
  generalize numS st = x at *
  obtain ⟨n, st1⟩ := x
  simp only at HA hl hn HZ hT
  have hn' : (n : Int) ≤ 1099511627776 := by omega
  clear h he h0 hp
  cases st1 with
  | error c =>
    have hz := HZ.out c rfl
    subst hz
    simp only at hT
    subst hT
    clear HZ HE0
    go_enter Tryd.func85, Tryd.ntmps85
    go_wp2_with fail
    refine HA.out.mono ?_
    rintro r w1 ⟨rfl, h1, hg1⟩
    obtain ⟨hc, hr1⟩ := h1
    have Hr1 := hide hr1
    have Hc := hide hc
    have Hg1 := hide hg1
    clear hg1 hc
    obtain ⟨c0, c1, f0, f1, lt⟩ := hr1
    go_wp2
    go_ret
    refine ⟨rfl, ⟨Hc.out, ?_⟩, grow_set Hg1.out _⟩
    refine ⟨World.cell?_setCell_same _ _ _ c0, ?_, by simpa using f0, by simpa using f1, by simpa using lt⟩
    rw [World.cell?_setCell_other _ _ _ _ (by simp)]; exact c1
  | ok l =>
    simp only at hT
    clear HZ
    by_cases h2 : 20000 < n
    · rw [if_pos h2] at hT
      subst hT
      have h2' : (20000 : Int) < n := by omega
      clear h2
      go_enter Tryd.func85, Tryd.ntmps85
      go_wp2_with fail
      refine HA.out.mono ?_
      rintro r w1 ⟨rfl, ⟨s1, hs1, hr1⟩, hg1⟩
      have Hr1 := hide hr1
      have Hg1 := hide hg1
      have hB := (HE0.out _ hg1).bound
      clear hg1 hs1 hr1
      go_wp2_with fail
      refine (failR4 _ _ _ _ _ Hr1.out).mono ?_
      rintro r w2 ⟨rfl, h3, hg3⟩
      have H3 := hide h3
      have Hg3 := hide hg3
      clear h3 hg3
      go_wp2
      go_ret
      exact ⟨rfl, ⟨Or.inr rfl, H3.out⟩, grow_trans Hg1.out Hg3.out⟩
    · rw [if_neg h2] at hT
      have h2' : (n : Int) ≤ 20000 := by omega
      clear h2
      by_cases h3 : l.length < n
      · rw [if_pos h3] at hT
        subst hT
        have HL := hide h3
        clear h3
        go_enter Tryd.func85, Tryd.ntmps85
        go_wp2_with fail
        refine HA.out.mono ?_
        rintro r w1 ⟨rfl, ⟨s1, hs1, hr1⟩, hg1⟩
        have hsz : (s1.size : Int) < n := by have := HL.out; rw [← hs1, lenL] at this; omega
        have Hr1 := hide hr1
        have Hg1 := hide hg1
        have hT := (HE0.out _ hg1).text
        clear hg1 hs1
        obtain ⟨c0, c1, f0, f1, lt⟩ := hr1
        go_wp2_with fail
        refine (failR4 _ _ _ _ _ Hr1.out).mono ?_
        rintro r w2 ⟨rfl, h3, hg3⟩
        have H3 := hide h3
        have Hg3 := hide hg3
        clear h3 hg3
        go_wp2
        go_ret
        exact ⟨rfl, ⟨Or.inl rfl, H3.out⟩, grow_trans Hg1.out Hg3.out⟩
      · rw [if_neg h3] at hT
        subst hT
        have HL := hide h3
        clear h3
        go_enter Tryd.func85, Tryd.ntmps85
        go_wp2_with fail
        refine HA.out.mono ?_
        rintro r w1 ⟨rfl, ⟨s1, hs1, hr1⟩, hg1⟩
        have hsz : (n : Int) ≤ s1.size := by have := HL.out; rw [← hs1, lenL] at this; omega
        have Hg1 := hide hg1
        have Hs1 := hide hs1
        clear hg1 hs1
        obtain ⟨c0, c1, f0, f1, lt⟩ := hr1
        have et : str (l.take n) = s1.extract 0 n := ext_of_list (by rw [strL, extractL, ← Hs1.out]; simp)
        have Het := hide et
        clear et
        go_wp2
        go_ret
        refine ⟨by rw [Het.out]; rfl, ⟨s1.extract n s1.size, ?_, ?_⟩, grow_set Hg1.out _⟩
        · rw [extractL, ← Hs1.out]
          exact List.take_of_length_le (by rw [List.length_drop, lenL]; omega)
        · refine ⟨World.cell?_setCell_same _ _ _ c0, ?_, by simpa using f0, by simpa using f1, by simpa using lt⟩
          rw [World.cell?_setCell_other _ _ _ _ (by simp)]; exact c1
end Go.Proofs.YtcenohaadggdiacDoor

namespace Go.Proofs.YtcenohaadggdiacDoor
open Go.RowKit
open Go.Delta (Opx copyOp dataOp rdO rdOs rdA rdD txt aheadO kCopy kData)

def zeroOp : Opx := ⟨⟨#[]⟩, 0, 0, ⟨#[]⟩⟩
/-- What readOp makes of the reader. -/
def rdOpS (st : St) : Opx × St :=
  if (numS st).1 = 0 then (copyOp (numS (numS st).2).1 (numS (numS (numS st).2).2).1, (numS (numS (numS st).2).2).2)
  else if (numS st).1 = 1 then (dataOp (textS (numS st).2).1, (textS (numS st).2).2)
  else (zeroOp, .error 1)
theorem rdOpS_ok {s s' : List UInt8} {o : Opx} (h : rdO s = .ok (o, s')) : rdOpS (.ok s) = (o, .ok s') := by
  unfold rdO at h
  have e1 := numS_numD s
  split at h
  · cases h
  · rename_i k s1 h1
    rw [h1] at e1
    simp only at e1
    unfold rdOpS
    rw [e1]
    simp only
    split at h
    · rename_i hk
      subst hk
      have e2 := textS_txt s1
      split at h
      · cases h
      · rename_i d s2 h2
        rw [h2] at e2
        cases h
        rw [if_neg (by decide), if_pos rfl, e2]
    · rename_i hk
      split at h
      · rename_i hk0
        subst hk0
        have e2 := numS_numD s1
        split at h
        · cases h
        · rename_i a s2 h2
          rw [h2] at e2
          have e3 := numS_numD s2
          split at h
          · cases h
          · rename_i n s3 h3
            rw [h3] at e3
            cases h
            simp only at e2 e3
            rw [if_pos rfl, e2]
            simp only
            rw [e3]
      · cases h
theorem rdOpS_error {s : List UInt8} {c : Nat} (h : rdO s = .error c) : (rdOpS (.ok s)).2 = .error c := by
  unfold rdO at h
  have e1 := numS_numD s
  split at h
  · rename_i c' h1
    rw [h1] at e1
    cases h
    unfold rdOpS
    rw [e1]
    rfl
  · rename_i k s1 h1
    rw [h1] at e1
    simp only at e1
    unfold rdOpS
    rw [e1]
    simp only
    split at h
    · rename_i hk
      subst hk
      have e2 := textS_txt s1
      split at h
      · rename_i c' h2
        rw [h2] at e2
        cases h
        rw [if_neg (by decide), if_pos rfl, e2]
      · cases h
    · rename_i hk
      split at h
      · rename_i hk0
        subst hk0
        have e2 := numS_numD s1
        split at h
        · rename_i c' h2
          rw [h2] at e2
          cases h
          rw [if_pos rfl, e2]
          rfl
        · rename_i a s2 h2
          rw [h2] at e2
          have e3 := numS_numD s2
          split at h
          · rename_i c' h3
            rw [h3] at e3
            cases h
            simp only at e2 e3
            rw [if_pos rfl, e2]
            simp only
            rw [e3]
          · cases h
      · rename_i hk0
        cases h
        rw [if_neg hk0, if_neg hk]

theorem num_ok_st {st : St} (h : (numS st).1 ≠ 0) : ∃ l, (numS st).2 = .ok l := by
  cases hx : (numS st).2 with
  | error c => exact absurd (numS_zero hx) h
  | ok l => exact ⟨l, rfl⟩

theorem OpAt.set {p : Nat} {w : World} {o : Opx} (h : OpAt p w o) (c : Opx) : OpAt p ((((w.setCell ⟨p, 0, none⟩ (.string c.kind)).setCell ⟨p, 1, none⟩ (.int .i64 c.at_)).setCell ⟨p, 2, none⟩ (.int .i64 c.n)).setCell ⟨p, 3, none⟩ (.string c.data)) c := by
  obtain ⟨c0, c1, c2, c3, f0, f1, f2, f3, lt⟩ := h
  refine ⟨?_, ?_, ?_, ?_, by simpa using f0, by simpa using f1, by simpa using f2, by simpa using f3, by simpa using lt⟩
  · rw [World.cell?_setCell_other _ _ _ _ (by simp), World.cell?_setCell_other _ _ _ _ (by simp), World.cell?_setCell_other _ _ _ _ (by simp)]; exact World.cell?_setCell_same _ _ _ c0
  · rw [World.cell?_setCell_other _ _ _ _ (by simp), World.cell?_setCell_other _ _ _ _ (by simp)]; exact World.cell?_setCell_same _ _ _ (by rw [World.cell?_setCell_other _ _ _ _ (by simp)]; exact c1)
  · rw [World.cell?_setCell_other _ _ _ _ (by simp)]; exact World.cell?_setCell_same _ _ _ (by rw [World.cell?_setCell_other _ _ _ _ (by simp), World.cell?_setCell_other _ _ _ _ (by simp)]; exact c2)
  · exact World.cell?_setCell_same _ _ _ (by rw [World.cell?_setCell_other _ _ _ _ (by simp), World.cell?_setCell_other _ _ _ _ (by simp), World.cell?_setCell_other _ _ _ _ (by simp)]; exact c3)

theorem opat_grown {p q : Nat} {w w' : World} {o : Opx} (h : OpAt q w o) (hg : w.grownBy w' (some p)) (hq : q ≠ p) : OpAt q w' o := by
  have hb : w'.heap[q]? = w.heap[q]? := hg.block q h.lt (fun e => hq (by cases e; rfl))
  exact ⟨(World.cell?_of_block (a := ⟨q, 0, none⟩) hb).trans h.c0, (World.cell?_of_block (a := ⟨q, 1, none⟩) hb).trans h.c1, (World.cell?_of_block (a := ⟨q, 2, none⟩) hb).trans h.c2, (World.cell?_of_block (a := ⟨q, 3, none⟩) hb).trans h.c3, (World.frozen?_of_block (a := ⟨q, 0, none⟩) hb).trans h.f0, (World.frozen?_of_block (a := ⟨q, 1, none⟩) hb).trans h.f1, (World.frozen?_of_block (a := ⟨q, 2, none⟩) hb).trans h.f2, (World.frozen?_of_block (a := ⟨q, 3, none⟩) hb).trans h.f3, Nat.lt_of_lt_of_le h.lt hg.size⟩

set_option maxHeartbeats 2000000 in
set_option maxRecDepth 100000 in
theorem readOp_ok (e : EV) (p : Nat) (st : St) (w0 w : World) (h0 : Er e w0) (hp : w0.heap.size ≤ p) (h : RdSt e p w st) (hs : lenS st ≤ 1000000) (he : Er e w) :
    Calls Tryd.prog 60 #[.pointer (some ⟨p, 0, none⟩)] w fun r w' => r = .returned (oval (rdOpS st).1) ∧ RdSt e p w' (rdOpS st).2 ∧ w.grownBy w' (some p) := by
  have hpl := h.lt
  have hqp : w.heap.size ≠ p := by omega
  have HA := hide (fun W (a : RdSt e p W st) (b : Er e W) => numSt e p st W a hs b)
  have HB := hide (fun W (a : RdSt e p W (numS st).2) (b : Er e W) => numSt e p (numS st).2 W a (Nat.le_trans (numS_len _) hs) b)
  have HC := hide (fun W (a : RdSt e p W (numS (numS st).2).2) (b : Er e W) => numSt e p (numS (numS st).2).2 W a (Nat.le_trans (numS_len _) (Nat.le_trans (numS_len _) hs)) b)
  have HT := hide (fun W (a : RdSt e p W (numS st).2) (b : Er e W) => textSt e p (numS st).2 w0 W h0 hp a (Nat.le_trans (numS_len _) hs) b)
  have HN := hide (num_ok_st (st := st))
  have l1 := numS_le st
  have l2 := numS_le (numS st).2
  have l3 := numS_le (numS (numS st).2).2
  have HE0 := hide (fun W W' (a : Er e W) (b : W.grownBy W' (some p)) => Er.grown h0 hp a b)
  have hf : OpAt w.heap.size (w.alloc (.cells #[.string ⟨#[]⟩, .int .i64 0, .int .i64 0, .string ⟨#[]⟩] 61)) zeroOp := OpAt.fresh w zeroOp 61
  have hg0 : w.grownBy (w.alloc (.cells #[.string ⟨#[]⟩, .int .i64 0, .int .i64 0, .string ⟨#[]⟩] 61)) (some p) := grow_alloc (World.grownBy.refl _ _) _
  have Hf := hide hf
  have Hg0 := hide hg0
  have Hst := hide (h.below' (((Below.refl (p + 1) w).alloc (by omega) (.cells #[.string ⟨#[]⟩, .int .i64 0, .int .i64 0, .string ⟨#[]⟩] 61))))
  have HE := hide (he.below ((Below.refl w.heap.size w).alloc (Nat.le_refl _) (.cells #[.string ⟨#[]⟩, .int .i64 0, .int .i64 0, .string ⟨#[]⟩] 61)))
  unfold rdOpS oval
  generalize textS (numS st).2 = y at *
  generalize numS (numS (numS st).2).2 = x3 at *
  generalize numS (numS st).2 = x2 at *
  generalize numS st = x1 at *
  obtain ⟨k, s1⟩ := x1
  obtain ⟨a, s2⟩ := x2
  obtain ⟨n, s3⟩ := x3
  obtain ⟨d, s4⟩ := y
  simp only at l1 l2 l3 HA HB HC HT HN ⊢
  clear h he h0 hp hf hg0
  by_cases hk0 : k = 0
  · subst hk0
    rw [if_pos rfl]
    simp only [copyOp, kCopy, Go.Delta.noBytes]
    clear HT HN
    go_enter Tryd.func60, Tryd.ntmps60
    go_wp2_with fail
    refine (HA.out _ Hst.out HE.out).mono ?_
    rintro r w1 ⟨rfl, h1, hg1⟩
    have H1 := hide h1
    have HE1 := hide (HE0.out _ _ HE.out hg1)
    have Hg1 := hide (grow_trans Hg0.out hg1)
    have Hf1 := hide (opat_grown Hf.out hg1 hqp)
    clear h1 hg1 Hst HE Hg0 Hf HA
    go_wp2_with fail
    refine (HB.out _ H1.out HE1.out).mono ?_
    rintro r w2 ⟨rfl, h2, hg2⟩
    have H2 := hide h2
    have HE2 := hide (HE0.out _ _ HE1.out hg2)
    have Hg2 := hide (grow_trans Hg1.out hg2)
    have Hf2 := hide (opat_grown Hf1.out hg2 hqp)
    clear h2 hg2 H1 HE1 Hg1 Hf1 HB
    go_wp2_with fail
    refine (HC.out _ H2.out HE2.out).mono ?_
    rintro r w3 ⟨rfl, h3, hg3⟩
    have H3 := hide h3
    have Hg3 := hide (grow_trans Hg2.out hg3)
    have hf3 := opat_grown Hf2.out hg3 hqp
    have Hf3 := hide hf3
    clear h3 hg3 H2 HE2 Hg2 Hf2 HC
    obtain ⟨c0, c1, c2, c3, f0, f1, f2, f3, lt⟩ := hf3
    go_wp2_with fail
    (try simp only [Exit.inBlock, Exit.then])
    refine bodyPost_ret (v := .agg #[.string ⟨#[99, 111, 112, 121]⟩, .int .i64 a, .int .i64 n, .string ⟨#[]⟩]) ?_ rfl ⟨rfl, ?_, ?_⟩
    · simp only [results, show Tryd.f60.results = #[.cell 2 61] from rfl]
      obtain ⟨s0, s1', s2', s3', _, _, _, _, _⟩ := Hf3.out.set ⟨⟨#[99, 111, 112, 121]⟩, a, n, ⟨#[]⟩⟩
      go_simp
    · exact H3.out.below' (((((Below.refl (p + 1) w3).setCell (by simp; omega) _).setCell (by simp; omega) _).setCell (by simp; omega) _).setCell (by simp; omega) _)
    · exact grow_setNew (grow_setNew (grow_setNew (grow_setNew Hg3.out (Nat.le_refl _) _) (Nat.le_refl _) _) (Nat.le_refl _) _) (Nat.le_refl _) _
  · rw [if_neg hk0]
    obtain ⟨l, rfl⟩ := HN.out hk0
    have hk0' : ((k : Int) == 0) = false := by simp; omega
    by_cases hk1 : k = 1
    · subst hk1
      rw [if_pos rfl]
      simp only [dataOp, kData]
      generalize str d = D at *
      clear HB HC HN hk0
      go_enter Tryd.func60, Tryd.ntmps60
      go_wp2_with fail
      refine (HA.out _ Hst.out HE.out).mono ?_
      rintro r w1 ⟨rfl, h1, hg1⟩
      have H1 := hide h1
      have HE1 := hide (HE0.out _ _ HE.out hg1)
      have Hg1 := hide (grow_trans Hg0.out hg1)
      have Hf1 := hide (opat_grown Hf.out hg1 hqp)
      clear h1 hg1 Hst HE Hg0 Hf HA
      go_wp2_with fail
      refine (HT.out _ H1.out HE1.out).mono ?_
      rintro r w3 ⟨rfl, h3, hg3⟩
      have H3 := hide h3
      have Hg3 := hide (grow_trans Hg1.out hg3)
      have hf3 := opat_grown Hf1.out hg3 hqp
      have Hf3 := hide hf3
      clear h3 hg3 H1 HE1 Hg1 Hf1 HT
      obtain ⟨c0, c1, c2, c3, f0, f1, f2, f3, lt⟩ := hf3
      go_wp2_with fail
      (try simp only [Exit.inBlock, Exit.then])
      refine bodyPost_ret (v := .agg #[.string ⟨#[100, 97, 116, 97]⟩, .int .i64 0, .int .i64 0, .string D]) ?_ rfl ⟨rfl, ?_, ?_⟩
      · simp only [results, show Tryd.f60.results = #[.cell 2 61] from rfl]
        obtain ⟨s0, s1', s2', s3', _, _, _, _, _⟩ := Hf3.out.set ⟨⟨#[100, 97, 116, 97]⟩, 0, 0, D⟩
        go_simp
      · exact H3.out.below' (((((Below.refl (p + 1) w3).setCell (by simp; omega) _).setCell (by simp; omega) _).setCell (by simp; omega) _).setCell (by simp; omega) _)
      · exact grow_setNew (grow_setNew (grow_setNew (grow_setNew Hg3.out (Nat.le_refl _) _) (Nat.le_refl _) _) (Nat.le_refl _) _) (Nat.le_refl _) _
    · rw [if_neg hk1]
      have hk1' : ((k : Int) == 1) = false := by simp; omega
      simp only [zeroOp]
      clear HB HC HN HT hk0 hk1
      go_enter Tryd.func60, Tryd.ntmps60
      go_wp2_with fail
      refine (HA.out _ Hst.out HE.out).mono ?_
      rintro r w1 ⟨rfl, ⟨sl, hsl, h1⟩, hg1⟩
      have H1 := hide h1
      have hT := (HE0.out _ _ HE.out hg1).text
      have Hg1 := hide (grow_trans Hg0.out hg1)
      have Hf1 := hide (opat_grown Hf.out hg1 hqp)
      clear h1 hg1 Hst HE Hg0 Hf HA hsl
      go_wp2_with fail
      refine (failR4 _ _ _ _ _ H1.out).mono ?_
      rintro r w3 ⟨rfl, h3, hg3⟩
      have H3 := hide h3
      have Hg3 := hide (grow_trans Hg1.out hg3)
      have hf3 := opat_grown Hf1.out hg3 hqp
      have Hf3 := hide hf3
      clear h3 hg3 H1 Hg1 Hf1
      obtain ⟨c0, c1, c2, c3, f0, f1, f2, f3, lt⟩ := hf3
      go_wp2_with fail
      (try simp only [Exit.inBlock, Exit.then])
      refine bodyPost_ret (v := .agg #[.string ⟨#[]⟩, .int .i64 0, .int .i64 0, .string ⟨#[]⟩]) ?_ rfl ⟨rfl, ?_, ?_⟩
      · simp only [results, show Tryd.f60.results = #[.cell 2 61] from rfl]
        obtain ⟨s0, s1', s2', s3', _, _, _, _, _⟩ := Hf3.out.set ⟨⟨#[]⟩, 0, 0, ⟨#[]⟩⟩
        go_simp
      · exact ⟨Or.inl rfl, H3.out.below' (((((Below.refl (p + 1) w3).setCell (by simp; omega) _).setCell (by simp; omega) _).setCell (by simp; omega) _).setCell (by simp; omega) _)⟩
      · exact grow_setNew (grow_setNew (grow_setNew (grow_setNew Hg3.out (Nat.le_refl _) _) (Nat.le_refl _) _) (Nat.le_refl _) _) (Nat.le_refl _) _
end Go.Proofs.YtcenohaadggdiacDoor

namespace Go.Proofs.YtcenohaadggdiacDoor
open Go.RowKit
open Go.Delta (Opx copyOp dataOp rdO rdOs rdA rdD txt aheadO kCopy kData)

theorem num_lenD {s r : List UInt8} {n : Nat} (h : Go.Sign.num s = .ok (n, r)) : r.length + 1 ≤ s.length := by
  unfold Go.Sign.num at h
  split at h
  · rename_i n' k hd
    cases h
    have := dec_num hd
    rw [List.length_drop]; omega
  · cases h
theorem txt_len {s r d : List UInt8} (h : txt s = .ok (d, r)) : r.length + d.length + 1 ≤ s.length := by
  unfold txt at h
  split at h
  · cases h
  · rename_i n s1 h1
    have := num_lenD h1
    split at h
    · cases h
    · split at h
      · cases h
      · cases h
        simp; omega
theorem rdO_len {s s' : List UInt8} {o : Opx} (h : rdO s = .ok (o, s')) : s'.length + 1 ≤ s.length ∧ o.data.size ≤ s.length := by
  unfold rdO at h
  split at h
  · cases h
  · rename_i k s1 h1
    have := num_lenD h1
    split at h
    · split at h
      · cases h
      · rename_i d s2 h2
        have := txt_len h2
        cases h
        simp only [dataOp, str_len]; omega
    · split at h
      · split at h
        · cases h
        · rename_i a s2 h2
          have := num_lenD h2
          split at h
          · cases h
          · rename_i n s3 h3
            have := num_lenD h3
            cases h
            refine ⟨by omega, ?_⟩
            show (0 : Nat) ≤ _
            omega
      · cases h
theorem rdOs_len : ∀ (m : Nat) (s : List UInt8) (l : List Opx) (r : List UInt8), rdOs m s = .ok (l, r) → l.length ≤ s.length ∧ ∀ o ∈ l, o.data.size ≤ s.length := by
  intro m
  induction m with
  | zero => intro s l r h; cases h; simp
  | succ m ih =>
    intro s l r h
    rw [rdOs] at h
    split at h
    · cases h
    · rename_i b s1 hb
      split at h
      · cases h
      · rename_i l' s2 hl
        cases h
        have h1 := ih _ _ _ hl
        have h2 := rdO_len hb
        refine ⟨by simp; omega, fun o ho => ?_⟩
        rcases List.mem_cons.1 ho with rfl | ho
        · exact h2.2
        · have := h1.2 o ho; omega

/-- All is read: is anything left? -/
def finO : Except Nat (List Opx × List UInt8) → Except Nat (List Opx)
  | .error c => .error c
  | .ok (l, s) => if s = [] then .ok l else .error 1
theorem rdA_eq {s : List UInt8} (hl : s.length ≤ 20000) : rdA s = match (numS (.ok s)).2 with | .error c => .error c | .ok rest => finO (rdOs (numS (.ok s)).1 rest) := by
  rw [rdA, if_neg (by omega), numS_numD]
  cases Go.Sign.num s with
  | error c => rfl
  | ok x =>
    obtain ⟨n, r⟩ := x
    simp only
    cases rdOs n r with
    | error c => rfl
    | ok y => rfl
theorem rdA_short {s : List UInt8} {l : List Opx} (h : rdA s = .ok l) : l.length ≤ 20000 ∧ ∀ o ∈ l, o.data.size ≤ 20000 := by
  unfold rdA at h
  split at h
  · cases h
  · split at h
    · cases h
    · rename_i n s1 h1
      have := num_lenD h1
      split at h
      · cases h
      · rename_i l' s2 h2
        split at h
        · cases h
          have hh := rdOs_len _ _ _ _ h2
          exact ⟨by omega, fun o ho => by have := hh.2 o ho; omega⟩
        · cases h

/-- How far the ops are read. -/
def InvO (A : Except Nat (List Opx)) (N n i : Nat) (l : List Opx) : St → Prop
  | .error c => A = .error c
  | .ok rest => i = l.length ∧ A = finO (aheadO l (rdOs (n - i) rest)) ∧ rest.length + i ≤ N
theorem InvO.step {A : Except Nat (List Opx)} {N n i : Nat} {l : List Opx} {rest : List UInt8} (h : InvO A N n i l (.ok rest)) (hi : i < n) : InvO A N n (i + 1) (l ++ [(rdOpS (.ok rest)).1]) (rdOpS (.ok rest)).2 := by
  obtain ⟨h1, h2, h3⟩ := h
  obtain ⟨k, hk⟩ : ∃ k, n - i = k + 1 := ⟨n - i - 1, by omega⟩
  rw [hk] at h2
  cases hr : rdO rest with
  | error c =>
    rw [Go.Delta.aheadO_error hr] at h2
    rw [rdOpS_error hr]
    exact h2
  | ok x =>
    obtain ⟨b, s1⟩ := x
    rw [rdOpS_ok hr]
    rw [Go.Delta.aheadO_ok hr] at h2
    have := rdO_len hr
    refine ⟨by simp [h1], ?_, by omega⟩
    rw [show n - (i + 1) = k by omega]
    exact h2
theorem rdOpS_len (st : St) : lenS (rdOpS st).2 ≤ lenS st := by
  unfold rdOpS
  split
  · exact Nat.le_trans (numS_len _) (Nat.le_trans (numS_len _) (numS_len _))
  · split
    · exact Nat.le_trans (textS_len _) (numS_len _)
    · simp [lenS]

/-- What read answers. -/
def OReadRes (e : EV) (base : Nat) (w' : World) (r : Ending) : Except Nat (List Opx) → Prop
  | .ok l => ∃ v, r = .returned (.tuple #[v, .nilIface]) ∧ w'.ownsRow base 61 4 v l.length (ocs l)
  | .error c => ∃ a n cap, r = .returned (.tuple #[.slice a n cap, errV e c]) ∧ (c = 1 ∨ c = 2)
theorem oread_end {A : Except Nat (List Opx)} {N n i : Nat} {l : List Opx} {st : St} {e : EV} {base : Nat} {w' : World} {v : Value} (h : InvO A N n i l st) (hc : ∀ c, st = .error c → c = 1 ∨ c = 2) (hi : ∀ r, st = .ok r → n ≤ i)
    (hown : w'.ownsRow base 61 4 v l.length (ocs l)) : OReadRes e base w' (.returned (.tuple #[v, errV e (endC st)])) A := by
  have hf : ∃ a n cap, v = .slice a n cap := by
    rcases hown.2 with ⟨rfl, _⟩ | ⟨g, c, cur, rfl, _⟩
    · exact ⟨_, _, _, rfl⟩
    · exact ⟨_, _, _, rfl⟩
  obtain ⟨a, m, cap, rfl⟩ := hf
  cases st with
  | error c =>
    have h' : A = .error c := h
    subst h'
    exact ⟨a, m, cap, rfl, hc c rfl⟩
  | ok rest =>
    obtain ⟨_, h2, _⟩ := h
    rw [show n - i = 0 by have := hi rest rfl; omega, rdOs, aheadO, List.append_nil, finO] at h2
    rw [show endC (.ok rest) = if rest = [] then 0 else 1 from rfl]
    by_cases hr : rest = []
    · rw [if_pos hr] at h2 ⊢
      subst h2
      exact ⟨_, rfl, hown⟩
    · rw [if_neg hr] at h2 ⊢
      subst h2
      exact ⟨a, m, cap, rfl, Or.inl rfl⟩

theorem erBelowAt {e : EV} {k : Nat} {w0 w w' : World} (h0 : Er e w0) (hk : w0.heap.size ≤ k) (h : Er e w) (hb : Below k w w') : Er e w' :=
  ⟨(hb.cell (Nat.lt_of_lt_of_le (World.block_lt_of_cell? _ _ h0.text) hk)).trans h.text, (hb.cell (Nat.lt_of_lt_of_le (World.block_lt_of_cell? _ _ h0.bound) hk)).trans h.bound, (hb.cell (Nat.lt_of_lt_of_le (World.block_lt_of_cell? _ _ h0.full) hk)).trans h.full⟩

set_option maxHeartbeats 1000000 in
set_option maxRecDepth 100000 in
theorem oread_long (e : EV) (s : ByteArray) (w : World) (hs : s.size ≤ 1000000) (hl : 20000 < s.size) (he : Er e w) :
    Calls Tryd.prog 37 #[.string s] w fun r w' => OReadRes e w.heap.size w' r (rdA s.data.toList) ∧ Below w.heap.size w w' := by
  have hA : rdA s.data.toList = .error 2 := by rw [rdA, if_pos (by rw [lenL]; exact hl)]
  rw [hA]
  have hs' : (s.size : Int) ≤ 1000000 := by omega
  have hl' : (20000 : Int) < s.size := by omega
  have hB := he.bound
  clear he hA
  go_enter Tryd.func37, Tryd.ntmps37
  go_wp2_with fail
  go_quiet (fail)
  go_wp2
  go_ret2
  exact ⟨⟨none, 0, 0, rfl, Or.inr rfl⟩, (Below.refl _ _).trans ⟨rfl, rfl, rfl, Nat.le_refl _, fun _ _ => rfl⟩⟩

set_option maxHeartbeats 2000000 in
set_option maxRecDepth 100000 in
theorem oread_main (e : EV) (s : ByteArray) (w : World) (hs : s.size ≤ 20000) (he : Er e w) :
    Calls Tryd.prog 37 #[.string s] w fun r w' => OReadRes e w.heap.size w' r (rdA s.data.toList) ∧ Below w.heap.size w w' := by
  obtain ⟨i0, hi, hz0, hz1, hz2⟩ := info_parts Tryd.info61
  have hs' : (s.size : Int) ≤ 20000 := by omega
  have hsl : lenS (.ok s.data.toList) ≤ 1000000 := by rw [lenS, lenL]; omega
  have HA := hide (fun W (a : RdSt e w.heap.size W (.ok s.data.toList)) (b : Er e W) => numSt e w.heap.size (.ok s.data.toList) W a hsl b)
  have l1 := numS_le (.ok s.data.toList)
  have HI : Hid (InvO (rdA s.data.toList) s.size (numS (.ok s.data.toList)).1 0 [] (numS (.ok s.data.toList)).2) := by
    have hlen : lenS (numS (.ok s.data.toList)).2 ≤ s.size := Nat.le_trans (numS_len _) (by rw [lenS, lenL]; exact Nat.le_refl _)
    have hA := rdA_eq (s := s.data.toList) (by rw [lenL]; exact hs)
    cases hx : (numS (.ok s.data.toList)).2 with
    | error c => rw [hx] at hA; exact hA
    | ok rest =>
      rw [hx] at hA hlen
      refine ⟨rfl, ?_, by simpa [lenS] using hlen⟩
      rw [hA, Nat.sub_zero, Go.Delta.aheadO_nil]
  have HE0 := hide (fun W W' (a : Er e W) (b : W.grownBy W' (some w.heap.size)) => Er.grown he (Nat.le_refl _) a b)
  have HEB := hide (fun k W W' (hk : w.heap.size ≤ k) (a : Er e W) (b : Below k W W') => erBelowAt he hk a b)
  have HR := hide (fun st W (h : RdSt e w.heap.size W st) (hl : lenS st ≤ 1000000) (h2 : Er e W) => readOp_ok e w.heap.size st w W he (Nat.le_refl _) h hl h2)
  have HE := hide he
  generalize rdA s.data.toList = A at *
  generalize numS (.ok s.data.toList) = x1 at *
  obtain ⟨n, st2⟩ := x1
  simp only at l1 HA HI
  have hn : (n : Int) ≤ 1099511627776 := by omega
  clear he
  go_enter Tryd.func37, Tryd.ntmps37
  go_wp2_with fail
  refine (newR_ok s _).mono ?_
  rintro r w1 ⟨rfl, h1⟩
  have hf := RdAt.fresh w s
  have hb : Below w.heap.size w (w.alloc (.cells #[.string s, .nilIface] 127)) := (Below.refl _ _).alloc (Nat.le_refl _) _
  rw [h1] at hf hb
  have Hf := hide hf
  have Hb := hide hb
  have HE1 := hide (HE.out.below hb)
  clear hf hb h1 HE
  go_wp2_with fail
  refine (HA.out _ ⟨s, rfl, Hf.out⟩ HE1.out).mono ?_
  rintro r w3 ⟨rfl, h3, hg3⟩
  have H3 := hide h3
  have HE3 := hide (HE0.out _ _ HE1.out hg3)
  have Hb3 := hide (Hb.out.trans (grow_below hg3 Hf.out.lt))
  clear h3 hg3 Hf Hb HE1 HA
  go_wp2_with fail
  go_loopw [6, 7] (fun t6 t7 wr => ∃ (i : Nat) (l : List Opx) (st : St), t7 = .int .i64 i ∧ i ≤ n ∧ l.length ≤ s.size + 1 ∧ Hid (wr.ownsRow (w.heap.size + 1) 61 4 t6 l.length (ocs l)) ∧ Hid (RdSt e w.heap.size wr st) ∧ Hid (Er e wr) ∧ Hid (Below w.heap.size w wr) ∧ Hid (InvO A s.size n i l st)) (fun _ t7 _ => n - (intOf t7).toNat)
  case atStart => exact ⟨0, [], st2, rfl, by omega, by simp, World.ownsRow_nil _ _ _ _, H3.out, HE3.out, Hb3.out, HI.out⟩
  case round =>
    clear H3 HE3 Hb3 HI
    obtain ⟨i, l, st, rfl, hin, hll, Hown, Hst, HE, Hb, HI⟩ := hrel
    by_cases hlt : i < n
    · have hlt' : (i : Int) < n := by omega
      cases st with
      | error c =>
        obtain ⟨hc, hrd⟩ := Hst.out
        obtain ⟨tc, xc, ev⟩ := errV_form e c (by omega)
        rw [ev] at hrd
        have Hrd := hide hrd
        have Hc := hide hc
        clear hrd hc ev
        go_wp2_with fail
        refine (err_ok _ _ _ _ Hrd.out).mono ?_
        rintro r w4 ⟨rfl, rfl⟩
        go_wp2_with fail
        refine (endSt e w.heap.size (.error c) _ Hst.out HE.out).mono ?_
        rintro r w9 ⟨rfl, hg9⟩
        have Hb9 := hide (Hb.out.trans (grow_below hg9 Hst.out.lt))
        have Hown9 := hide (own_grown Hown.out hg9)
        clear hg9
        go_wp2
        go_ret2
        exact ⟨oread_end HI.out (fun c' h => by cases h; exact Hc.out) (fun r h => by cases h) (own_mono Hown9.out (by omega)), Hb9.out⟩
      | ok rest =>
        obtain ⟨sl, hsl, hrd⟩ := Hst.out
        have Hrd := hide hrd
        clear hrd hsl
        have hrl : rest.length + i ≤ s.size ∧ i = l.length := ⟨HI.out.2.2, HI.out.1⟩
        have HR' := hide (HR.out (.ok rest))
        have HI' := hide (HI.out.step hlt)
        unfold oval at HR'
        generalize rdOpS (.ok rest) = x at HR' HI'
        obtain ⟨bk, st'⟩ := x
        simp only at HR' HI'
        go_wp2_with fail
        refine (err_ok _ _ _ _ Hrd.out).mono ?_
        rintro r w4 ⟨rfl, rfl⟩
        go_wp2_with fail
        refine (HR'.out _ Hst.out (by simp only [lenS]; omega) HE.out).mono ?_
        rintro r w5 ⟨rfl, h5, hg5⟩
        have H5 := hide h5
        have Hown5 := hide (own_grown Hown.out hg5)
        have HE5 := hide (HE0.out _ _ HE.out hg5)
        have Hb5 := hide (Hb.out.trans (grow_below hg5 Hst.out.lt))
        clear h5 hg5 Hst Hrd HE Hb Hown HR' HI
        go_wp2_with (first | (at_builtin; refine wpList_append_own _ rfl (.tmp 26) (.tmp 29) 30 rfl (w.heap.size + 1) 61 i0 (.agg #[.string ⟨#[]⟩, .int .i64 0, .int .i64 0, .string ⟨#[]⟩]) 4 48 Tryd.underlying30 hi hz0 hz1 hz2 rfl (by decide) u6 l.length (ocs l) rfl ?own ⟨w5.heap.size, 0, none⟩ 1 1 [.string bk.kind, .int .i64 bk.at_, .int .i64 bk.n, .string bk.data] rfl rfl ?c1 ?c2 ?b1 ?b2 ?b3 ?next))
        case own => exact Hown5.out.alloc _
        case c1 => intro j u hj; match j, hj with | 0, hj | 1, hj | 2, hj | 3, hj => simp at hj; subst hj; simp [Addr.add]
        case c2 => intro u hu; simp at hu; rcases hu with rfl | rfl | rfl | rfl <;> rfl
        case b1 => unfold maxLen; omega
        case b2 => omega
        case b3 => have := H5.out.lt; simp; omega
        case next =>
          intro v6 w6 hown6 hgrow6 _
          have hb6 : Below (w.heap.size + 1) w5 w6 := ((Below.refl _ _).alloc H5.out.lt _).grown hgrow6 (by have := H5.out.lt; simp; omega) (fun k hk => (Hown5.out.lt k hk).1)
          have Hb6 := hide (Hb5.out.trans (hb6.mono (by omega)))
          have H6 := hide (H5.out.below' hb6)
          have HE6 := hide (HEB.out _ _ _ (by omega) HE5.out hb6)
          have Hown6 := hide hown6
          clear hb6 hown6 hgrow6 Hown5 Hb5 H5 HE5
          go_wp2_with fail
          go_roundw
          case rel =>
            refine ⟨i + 1, l ++ [bk], st', by go_num, by omega, by simp; omega, ?_, H6.out, HE6.out, Hb6.out, HI'.out⟩
            have h := Hown6.out
            rw [show [Value.string bk.kind, .int .i64 bk.at_, .int .i64 bk.n, .string bk.data] = ocells bk from rfl, ← ocs_snoc] at h
            simpa [Hid] using h
          case measure => simp [intOf]; omega
    · have hle : (n : Int) ≤ (i : Int) := by omega
      go_wp2_with fail
      refine (endSt e w.heap.size st _ Hst.out HE.out).mono ?_
      rintro r w9 ⟨rfl, hg9⟩
      have Hb9 := hide (Hb.out.trans (grow_below hg9 Hst.out.lt))
      have Hown9 := hide (own_grown Hown.out hg9)
      clear hg9
      go_wp2
      go_ret2
      exact ⟨oread_end HI.out (fun c' h => by subst h; exact Hst.out.1) (fun r h => by omega) (own_mono Hown9.out (by omega)), Hb9.out⟩

theorem oread_ok (e : EV) (s : ByteArray) (w : World) (hs : s.size ≤ 1000000) (he : Er e w) :
    Calls Tryd.prog 37 #[.string s] w fun r w' => OReadRes e w.heap.size w' r (rdA s.data.toList) ∧ Below w.heap.size w w' := by
  by_cases hl : 20000 < s.size
  · exact oread_long e s w hs hl he
  · exact oread_main e s w (by omega) he

/-- What Read answers. -/
def ORdRes (e : OV) (base : Nat) (w' : World) (r : Ending) : Except Nat (List Opx) → Prop
  | .ok l => ∃ v, r = .returned (.tuple #[v, .nilIface]) ∧ w'.ownsRow base 61 4 v l.length (ocs l)
  | .error c => r = .returned (.tuple #[.slice none 0 0, errO e c]) ∧ (c = 1 ∨ c = 2 ∨ c = 3 ∨ c = 4)

set_option maxHeartbeats 1000000 in
set_option maxRecDepth 100000 in
theorem oRead_ok (e : OV) (s : ByteArray) (w : World) (hs : s.size ≤ 1000000) (he : OEr e w) :
    Calls Tryd.prog 16 #[.string s] w fun r w' => ORdRes e w.heap.size w' r (rdD s.data.toList) ∧ Below w.heap.size w w' := by
  have HR := hide (oread_ok e.e s w hs he.er)
  have HL : Hid (∀ l, rdA s.data.toList = .ok l → l.length ≤ 1000000 ∧ Short l) := fun l h => ⟨by have := rdA_short h; omega, fun o ho => by have := (rdA_short h).2 o ho; omega⟩
  have HE := hide he
  have ES : Hid (rdD s.data.toList = match rdA s.data.toList with | .error c => .error c | .ok l => if (Go.Delta.faultO l).1 = 0 then .ok l else .error (Go.Delta.faultO l).1) := rfl
  generalize rdD s.data.toList = S at *
  generalize rdA s.data.toList = A at *
  clear he
  cases A with
  | error c =>
    have hS : S = .error c := ES.out
    subst hS
    clear ES HL
    go_enter Tryd.func16, Tryd.ntmps16
    go_wp2_with fail
    refine HR.out.mono ?_
    rintro r w1 ⟨⟨a, n, cap, rfl, hc⟩, hb1⟩
    obtain ⟨t, x, ev⟩ := errV_form e.e c (by omega)
    have ev2 : errO e c = .iface t x := by rcases hc with rfl | rfl <;> exact ev
    have Hev := hide ev2
    have Hc := hide hc
    have Hb1 := hide hb1
    rw [ev]
    clear ev ev2 hb1 hc
    go_wp2
    go_ret2
    exact ⟨⟨by rw [Hev.out]; rfl, Hc.out.elim Or.inl (fun h => Or.inr (Or.inl h))⟩, Hb1.out⟩
  | ok l =>
    have hS := ES.out
    simp only at hS
    obtain ⟨hl, hsh⟩ := HL.out l rfl
    have HS := hide hS
    clear ES HL hS
    go_enter Tryd.func16, Tryd.ntmps16
    go_wp2_with fail
    refine HR.out.mono ?_
    rintro r w1 ⟨⟨v, rfl, hown⟩, hb1⟩
    have HW := hide (owrong_ok v l e w1 (ORow.of_own hown) hl hsh (HE.out.below hb1))
    have Hb1 := hide hb1
    have Hown := hide hown
    have hf : ∃ a cap, v = .slice a l.length cap := by
      rcases hown.2 with ⟨rfl, h⟩ | ⟨g, c, cur, rfl, _⟩
      · exact ⟨none, 0, by rw [h]⟩
      · exact ⟨_, _, rfl⟩
    obtain ⟨a, cap, rfl⟩ := hf
    clear hb1 hown hsh
    unfold Go.Delta.faultO at HS
    cases hx : Go.Delta.scanO l 0 with
    | none =>
      rw [hx] at HS HW
      have hS := HS.out
      simp only [if_true] at hS
      subst hS
      simp only [owrongOut] at HW
      rw [show errO e 0 = .nilIface from rfl] at HW
      clear HS hx
      go_wp2_with fail
      refine HW.out.mono ?_
      rintro r w2 ⟨rfl, hb2⟩
      have Hb2 := hide (bthen Hb1.out hb2)
      have Hown2 := hide (own_below Hown.out hb2)
      clear hb2 HW Hown Hb1
      go_wp2
      go_ret2
      exact ⟨⟨_, rfl, Hown2.out⟩, Hb2.out⟩
    | some q =>
      obtain ⟨i, c⟩ := q
      have hc := (Go.Delta.scanO_code _ _ _ _ hx).1
      rw [hx] at HS HW
      have hS := HS.out
      simp only at hS
      rw [if_neg (by omega)] at hS
      subst hS
      obtain ⟨t, x, ev⟩ := errO_form e c (by omega)
      simp only [owrongOut] at HW
      rw [ev] at HW
      have Hev := hide ev
      have Hc := hide hc
      clear ev HS hx hc
      go_wp2_with fail
      refine HW.out.mono ?_
      rintro r w2 ⟨rfl, hb2⟩
      have Hb2 := hide (bthen Hb1.out hb2)
      clear hb2 HW Hb1
      go_wp2
      go_ret2
      exact ⟨⟨by rw [Hev.out]; rfl, Or.inr Hc.out⟩, Hb2.out⟩
end Go.Proofs.YtcenohaadggdiacDoor
