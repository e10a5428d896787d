/-
  Contracts of delta.readOp, read, Read over this dump: every text.
-/
import Derived.Test.YtgogjncamjbajacDoorOpsRead
namespace Go.Proofs.YtgogjncamjbajacDoor
open Go.RowKit
open Go.Delta (Opx copyOp dataOp rdO rdOs rdA rdD txt aheadO kCopy kData)

def zeroOp : Opx := ⟨⟨#[]⟩, 0, 0, ⟨#[]⟩⟩
/-- What readOp makes of the reader. -/
def rdOpS (st : St) : Opx × St :=
  if (numS st).1 = 0 then (copyOp (numS (numS st).2).1 (numS (numS (numS st).2).2).1, (numS (numS (numS st).2).2).2)
  else if (numS st).1 = 1 then (dataOp (textS (numS st).2).1, (textS (numS st).2).2)
  else (zeroOp, .error 1)
theorem rdOpS_ok {s s' : List UInt8} {o : Opx} (h : rdO s = .ok (o, s')) : rdOpS (.ok s) = (o, .ok s') := by
  unfold rdO at h
  have e1 := numS_numD s
  split at h
  · cases h
  · rename_i k s1 h1
    rw [h1] at e1
    simp only at e1
    unfold rdOpS
    rw [e1]
    simp only
    split at h
    · rename_i hk
      subst hk
      have e2 := textS_txt s1
      split at h
      · cases h
      · rename_i d s2 h2
        rw [h2] at e2
        cases h
        rw [if_neg (by decide), if_pos rfl, e2]
    · rename_i hk
      split at h
      · rename_i hk0
        subst hk0
        have e2 := numS_numD s1
        split at h
        · cases h
        · rename_i a s2 h2
          rw [h2] at e2
          have e3 := numS_numD s2
          split at h
          · cases h
          · rename_i n s3 h3
            rw [h3] at e3
            cases h
            simp only at e2 e3
            rw [if_pos rfl, e2]
            simp only
            rw [e3]
      · cases h
theorem rdOpS_error {s : List UInt8} {c : Nat} (h : rdO s = .error c) : (rdOpS (.ok s)).2 = .error c := by
  unfold rdO at h
  have e1 := numS_numD s
  split at h
  · rename_i c' h1
    rw [h1] at e1
    cases h
    unfold rdOpS
    rw [e1]
    rfl
  · rename_i k s1 h1
    rw [h1] at e1
    simp only at e1
    unfold rdOpS
    rw [e1]
    simp only
    split at h
    · rename_i hk
      subst hk
      have e2 := textS_txt s1
      split at h
      · rename_i c' h2
        rw [h2] at e2
        cases h
        rw [if_neg (by decide), if_pos rfl, e2]
      · cases h
    · rename_i hk
      split at h
      · rename_i hk0
        subst hk0
        have e2 := numS_numD s1
        split at h
        · rename_i c' h2
          rw [h2] at e2
          cases h
          rw [if_pos rfl, e2]
          rfl
        · rename_i a s2 h2
          rw [h2] at e2
          have e3 := numS_numD s2
          split at h
          · rename_i c' h3
            rw [h3] at e3
            cases h
            simp only at e2 e3
            rw [if_pos rfl, e2]
            simp only
            rw [e3]
          · cases h
      · rename_i hk0
        cases h
        rw [if_neg hk0, if_neg hk]

theorem num_ok_st {st : St} (h : (numS st).1 ≠ 0) : ∃ l, (numS st).2 = .ok l := by
  cases hx : (numS st).2 with
  | error c => exact absurd (numS_zero hx) h
  | ok l => exact ⟨l, rfl⟩

theorem OpAt.set {p : Nat} {w : World} {o : Opx} (h : OpAt p w o) (c : Opx) : OpAt p ((((w.setCell ⟨p, 0, none⟩ (.string c.kind)).setCell ⟨p, 1, none⟩ (.int .i64 c.at_)).setCell ⟨p, 2, none⟩ (.int .i64 c.n)).setCell ⟨p, 3, none⟩ (.string c.data)) c := by
  obtain ⟨c0, c1, c2, c3, f0, f1, f2, f3, lt⟩ := h
  refine ⟨?_, ?_, ?_, ?_, by simpa using f0, by simpa using f1, by simpa using f2, by simpa using f3, by simpa using lt⟩
  · rw [World.cell?_setCell_other _ _ _ _ (by simp), World.cell?_setCell_other _ _ _ _ (by simp), World.cell?_setCell_other _ _ _ _ (by simp)]; exact World.cell?_setCell_same _ _ _ c0
  · rw [World.cell?_setCell_other _ _ _ _ (by simp), World.cell?_setCell_other _ _ _ _ (by simp)]; exact World.cell?_setCell_same _ _ _ (by rw [World.cell?_setCell_other _ _ _ _ (by simp)]; exact c1)
  · rw [World.cell?_setCell_other _ _ _ _ (by simp)]; exact World.cell?_setCell_same _ _ _ (by rw [World.cell?_setCell_other _ _ _ _ (by simp), World.cell?_setCell_other _ _ _ _ (by simp)]; exact c2)
  · exact World.cell?_setCell_same _ _ _ (by rw [World.cell?_setCell_other _ _ _ _ (by simp), World.cell?_setCell_other _ _ _ _ (by simp), World.cell?_setCell_other _ _ _ _ (by simp)]; exact c3)

theorem opat_grown {p q : Nat} {w w' : World} {o : Opx} (h : OpAt q w o) (hg : w.grownBy w' (some p)) (hq : q ≠ p) : OpAt q w' o := by
  have hb : w'.heap[q]? = w.heap[q]? := hg.block q h.lt (fun e => hq (by cases e; rfl))
  exact ⟨(World.cell?_of_block (a := ⟨q, 0, none⟩) hb).trans h.c0, (World.cell?_of_block (a := ⟨q, 1, none⟩) hb).trans h.c1, (World.cell?_of_block (a := ⟨q, 2, none⟩) hb).trans h.c2, (World.cell?_of_block (a := ⟨q, 3, none⟩) hb).trans h.c3, (World.frozen?_of_block (a := ⟨q, 0, none⟩) hb).trans h.f0, (World.frozen?_of_block (a := ⟨q, 1, none⟩) hb).trans h.f1, (World.frozen?_of_block (a := ⟨q, 2, none⟩) hb).trans h.f2, (World.frozen?_of_block (a := ⟨q, 3, none⟩) hb).trans h.f3, Nat.lt_of_lt_of_le h.lt hg.size⟩

set_option maxHeartbeats 2000000 in
set_option maxRecDepth 100000 in
theorem readOp_ok (e : EV) (p : Nat) (st : St) (w0 w : World) (h0 : Er e w0) (hp : w0.heap.size ≤ p) (h : RdSt e p w st) (hs : lenS st ≤ 1000000) (he : Er e w) :
    Calls Tryd.prog 39 #[.pointer (some ⟨p, 0, none⟩)] w fun r w' => r = .returned (oval (rdOpS st).1) ∧ RdSt e p w' (rdOpS st).2 ∧ w.grownBy w' (some p) := by
  have hpl := h.lt
  have hqp : w.heap.size ≠ p := by omega
  have HA := hide (fun W (a : RdSt e p W st) (b : Er e W) => numSt e p st W a hs b)
  have HB := hide (fun W (a : RdSt e p W (numS st).2) (b : Er e W) => numSt e p (numS st).2 W a (Nat.le_trans (numS_len _) hs) b)
  have HC := hide (fun W (a : RdSt e p W (numS (numS st).2).2) (b : Er e W) => numSt e p (numS (numS st).2).2 W a (Nat.le_trans (numS_len _) (Nat.le_trans (numS_len _) hs)) b)
  have HT := hide (fun W (a : RdSt e p W (numS st).2) (b : Er e W) => textSt e p (numS st).2 w0 W h0 hp a (Nat.le_trans (numS_len _) hs) b)
  have HN := hide (num_ok_st (st := st))
  have l1 := numS_le st
  have l2 := numS_le (numS st).2
  have l3 := numS_le (numS (numS st).2).2
  have HE0 := hide (fun W W' (a : Er e W) (b : W.grownBy W' (some p)) => Er.grown h0 hp a b)
  have hf : OpAt w.heap.size (w.alloc (.cells #[.string ⟨#[]⟩, .int .i64 0, .int .i64 0, .string ⟨#[]⟩] 48)) zeroOp := OpAt.fresh w zeroOp 48
  have hg0 : w.grownBy (w.alloc (.cells #[.string ⟨#[]⟩, .int .i64 0, .int .i64 0, .string ⟨#[]⟩] 48)) (some p) := grow_alloc (World.grownBy.refl _ _) _
  have Hf := hide hf
  have Hg0 := hide hg0
  have Hst := hide (h.below' (((Below.refl (p + 1) w).alloc (by omega) (.cells #[.string ⟨#[]⟩, .int .i64 0, .int .i64 0, .string ⟨#[]⟩] 48))))
  have HE := hide (he.below ((Below.refl w.heap.size w).alloc (Nat.le_refl _) (.cells #[.string ⟨#[]⟩, .int .i64 0, .int .i64 0, .string ⟨#[]⟩] 48)))
  unfold rdOpS oval
  generalize textS (numS st).2 = y at *
  generalize numS (numS (numS st).2).2 = x3 at *
  generalize numS (numS st).2 = x2 at *
  generalize numS st = x1 at *
  obtain ⟨k, s1⟩ := x1
  obtain ⟨a, s2⟩ := x2
  obtain ⟨n, s3⟩ := x3
  obtain ⟨d, s4⟩ := y
  simp only at l1 l2 l3 HA HB HC HT HN ⊢
  clear h he h0 hp hf hg0
  by_cases hk0 : k = 0
  · subst hk0
    rw [if_pos rfl]
    simp only [copyOp, kCopy, Go.Delta.noBytes]
    clear HT HN
    go_enter Tryd.func39, Tryd.ntmps39
    go_wp2_with fail
    refine (HA.out _ Hst.out HE.out).mono ?_
    rintro r w1 ⟨rfl, h1, hg1⟩
    have H1 := hide h1
    have HE1 := hide (HE0.out _ _ HE.out hg1)
    have Hg1 := hide (grow_trans Hg0.out hg1)
    have Hf1 := hide (opat_grown Hf.out hg1 hqp)
    clear h1 hg1 Hst HE Hg0 Hf HA
    go_wp2_with fail
    refine (HB.out _ H1.out HE1.out).mono ?_
    rintro r w2 ⟨rfl, h2, hg2⟩
    have H2 := hide h2
    have HE2 := hide (HE0.out _ _ HE1.out hg2)
    have Hg2 := hide (grow_trans Hg1.out hg2)
    have Hf2 := hide (opat_grown Hf1.out hg2 hqp)
    clear h2 hg2 H1 HE1 Hg1 Hf1 HB
    go_wp2_with fail
    refine (HC.out _ H2.out HE2.out).mono ?_
    rintro r w3 ⟨rfl, h3, hg3⟩
    have H3 := hide h3
    have Hg3 := hide (grow_trans Hg2.out hg3)
    have hf3 := opat_grown Hf2.out hg3 hqp
    have Hf3 := hide hf3
    clear h3 hg3 H2 HE2 Hg2 Hf2 HC
    obtain ⟨c0, c1, c2, c3, f0, f1, f2, f3, lt⟩ := hf3
    go_wp2_with fail
    (try simp only [Exit.inBlock, Exit.then])
    refine bodyPost_ret (v := .agg #[.string ⟨#[99, 111, 112, 121]⟩, .int .i64 a, .int .i64 n, .string ⟨#[]⟩]) ?_ rfl ⟨rfl, ?_, ?_⟩
    · simp only [results, show Tryd.f39.results = #[.cell 2 48] from rfl]
      obtain ⟨s0, s1', s2', s3', _, _, _, _, _⟩ := Hf3.out.set ⟨⟨#[99, 111, 112, 121]⟩, a, n, ⟨#[]⟩⟩
      go_simp
    · exact H3.out.below' (((((Below.refl (p + 1) w3).setCell (by simp; omega) _).setCell (by simp; omega) _).setCell (by simp; omega) _).setCell (by simp; omega) _)
    · exact grow_setNew (grow_setNew (grow_setNew (grow_setNew Hg3.out (Nat.le_refl _) _) (Nat.le_refl _) _) (Nat.le_refl _) _) (Nat.le_refl _) _
  · rw [if_neg hk0]
    obtain ⟨l, rfl⟩ := HN.out hk0
    have hk0' : ((k : Int) == 0) = false := by simp; omega
    by_cases hk1 : k = 1
    · subst hk1
      rw [if_pos rfl]
      simp only [dataOp, kData]
      generalize str d = D at *
      clear HB HC HN hk0
      go_enter Tryd.func39, Tryd.ntmps39
      go_wp2_with fail
      refine (HA.out _ Hst.out HE.out).mono ?_
      rintro r w1 ⟨rfl, h1, hg1⟩
      have H1 := hide h1
      have HE1 := hide (HE0.out _ _ HE.out hg1)
      have Hg1 := hide (grow_trans Hg0.out hg1)
      have Hf1 := hide (opat_grown Hf.out hg1 hqp)
      clear h1 hg1 Hst HE Hg0 Hf HA
      go_wp2_with fail
      refine (HT.out _ H1.out HE1.out).mono ?_
      rintro r w3 ⟨rfl, h3, hg3⟩
      have H3 := hide h3
      have Hg3 := hide (grow_trans Hg1.out hg3)
      have hf3 := opat_grown Hf1.out hg3 hqp
      have Hf3 := hide hf3
      clear h3 hg3 H1 HE1 Hg1 Hf1 HT
      obtain ⟨c0, c1, c2, c3, f0, f1, f2, f3, lt⟩ := hf3
      go_wp2_with fail
      (try simp only [Exit.inBlock, Exit.then])
      refine bodyPost_ret (v := .agg #[.string ⟨#[100, 97, 116, 97]⟩, .int .i64 0, .int .i64 0, .string D]) ?_ rfl ⟨rfl, ?_, ?_⟩
      · simp only [results, show Tryd.f39.results = #[.cell 2 48] from rfl]
        obtain ⟨s0, s1', s2', s3', _, _, _, _, _⟩ := Hf3.out.set ⟨⟨#[100, 97, 116, 97]⟩, 0, 0, D⟩
        go_simp
      · exact H3.out.below' (((((Below.refl (p + 1) w3).setCell (by simp; omega) _).setCell (by simp; omega) _).setCell (by simp; omega) _).setCell (by simp; omega) _)
      · exact grow_setNew (grow_setNew (grow_setNew (grow_setNew Hg3.out (Nat.le_refl _) _) (Nat.le_refl _) _) (Nat.le_refl _) _) (Nat.le_refl _) _
    · rw [if_neg hk1]
      have hk1' : ((k : Int) == 1) = false := by simp; omega
      simp only [zeroOp]
      clear HB HC HN HT hk0 hk1
      go_enter Tryd.func39, Tryd.ntmps39
      go_wp2_with fail
      refine (HA.out _ Hst.out HE.out).mono ?_
      rintro r w1 ⟨rfl, ⟨sl, hsl, h1⟩, hg1⟩
      have H1 := hide h1
      have hT := (HE0.out _ _ HE.out hg1).text
      have Hg1 := hide (grow_trans Hg0.out hg1)
      have Hf1 := hide (opat_grown Hf.out hg1 hqp)
      clear h1 hg1 Hst HE Hg0 Hf HA hsl
      go_wp2_with fail
      refine (failR4 _ _ _ _ _ H1.out).mono ?_
      rintro r w3 ⟨rfl, h3, hg3⟩
      have H3 := hide h3
      have Hg3 := hide (grow_trans Hg1.out hg3)
      have hf3 := opat_grown Hf1.out hg3 hqp
      have Hf3 := hide hf3
      clear h3 hg3 H1 Hg1 Hf1
      obtain ⟨c0, c1, c2, c3, f0, f1, f2, f3, lt⟩ := hf3
      go_wp2_with fail
      (try simp only [Exit.inBlock, Exit.then])
      refine bodyPost_ret (v := .agg #[.string ⟨#[]⟩, .int .i64 0, .int .i64 0, .string ⟨#[]⟩]) ?_ rfl ⟨rfl, ?_, ?_⟩
      · simp only [results, show Tryd.f39.results = #[.cell 2 48] from rfl]
        obtain ⟨s0, s1', s2', s3', _, _, _, _, _⟩ := Hf3.out.set ⟨⟨#[]⟩, 0, 0, ⟨#[]⟩⟩
        go_simp
      · exact ⟨Or.inl rfl, H3.out.below' (((((Below.refl (p + 1) w3).setCell (by simp; omega) _).setCell (by simp; omega) _).setCell (by simp; omega) _).setCell (by simp; omega) _)⟩
      · exact grow_setNew (grow_setNew (grow_setNew (grow_setNew Hg3.out (Nat.le_refl _) _) (Nat.le_refl _) _) (Nat.le_refl _) _) (Nat.le_refl _) _
end Go.Proofs.YtgogjncamjbajacDoor
