/-
  Contract of files.readLine over this dump, in whatever state the reader is.
-/
import Derived.Test.YtbflmkjlpopeaadGreatDoorTextState
import Derived.Test.YtbflmkjlpopeaadGreatDoorJoin09
namespace Go.Proofs.YtbflmkjlpopeaadGreatDoor
open Go.RowKit
open Go.Delta (txt)
open Go.Files (Ln rdN)

/-- Three cells that are a line. -/
structure LnAt (p : Nat) (w : World) (x : Ln) : Prop where
  c0 : w.cell? ⟨p, 0, none⟩ = some (.string x.name)
  c1 : w.cell? ⟨p, 1, none⟩ = some (.int .i64 x.n)
  c2 : w.cell? ⟨p, 2, none⟩ = some (.int .u32 x.sum)
  f0 : w.frozen? ⟨p, 0, none⟩ = false
  f1 : w.frozen? ⟨p, 1, none⟩ = false
  f2 : w.frozen? ⟨p, 2, none⟩ = false
  lt : p < w.heap.size
def zeroL : Ln := ⟨⟨#[]⟩, 0, 0⟩
theorem LnAt.fresh (w : World) (x : Ln) (T : TypeId) : LnAt w.heap.size (w.alloc (.cells #[.string x.name, .int .i64 x.n, .int .u32 x.sum] T)) x :=
  ⟨by simp, by simp, by simp, by simp, by simp, by simp, by simp⟩
theorem LnAt.grown {p q : Nat} {w w' : World} {b : Ln} (h : LnAt q w b) (hg : w.grownBy w' (some p)) (hq : q ≠ p) : LnAt q w' b := by
  have hb : w'.heap[q]? = w.heap[q]? := hg.block q h.lt (fun e => hq (by cases e; rfl))
  exact ⟨(World.cell?_of_block (a := ⟨q, 0, none⟩) hb).trans h.c0, (World.cell?_of_block (a := ⟨q, 1, none⟩) hb).trans h.c1, (World.cell?_of_block (a := ⟨q, 2, none⟩) hb).trans h.c2, (World.frozen?_of_block (a := ⟨q, 0, none⟩) hb).trans h.f0, (World.frozen?_of_block (a := ⟨q, 1, none⟩) hb).trans h.f1, (World.frozen?_of_block (a := ⟨q, 2, none⟩) hb).trans h.f2, Nat.lt_of_lt_of_le h.lt hg.size⟩
theorem LnAt.set {p : Nat} {w : World} {o : Ln} (h : LnAt p w o) (c : Ln) : LnAt p (((w.setCell ⟨p, 0, none⟩ (.string c.name)).setCell ⟨p, 1, none⟩ (.int .i64 c.n)).setCell ⟨p, 2, none⟩ (.int .u32 c.sum)) c := by
  obtain ⟨c0, c1, c2, f0, f1, f2, lt⟩ := h
  refine ⟨?_, ?_, ?_, by simpa using f0, by simpa using f1, by simpa using f2, by simpa using lt⟩
  · rw [World.cell?_setCell_other _ _ _ _ (by simp), World.cell?_setCell_other _ _ _ _ (by simp)]; exact World.cell?_setCell_same _ _ _ c0
  · rw [World.cell?_setCell_other _ _ _ _ (by simp)]; exact World.cell?_setCell_same _ _ _ (by rw [World.cell?_setCell_other _ _ _ _ (by simp)]; exact c1)
  · exact World.cell?_setCell_same _ _ _ (by rw [World.cell?_setCell_other _ _ _ _ (by simp), World.cell?_setCell_other _ _ _ _ (by simp)]; exact c2)

/-- What readLine makes of the reader. -/
def rdLnS (st : St) : Ln × St :=
  (⟨str (textS st).1, (numS (textS st).2).1, (numS (numS (textS st).2).2).1 % 4294967296⟩, if 4294967295 < (numS (numS (textS st).2).2).1 then .error 1 else (numS (numS (textS st).2).2).2)
theorem numS_errL (c : Nat) : numS (.error c) = (0, .error c) := rfl
theorem rdLnS_ok {s s' : List UInt8} {x : Ln} (h : rdN s = .ok (x, s')) : rdLnS (.ok s) = (x, .ok s') := by
  unfold rdN at h
  have e1 := textS_txt s
  split at h
  · cases h
  · rename_i d s1 h1
    rw [h1] at e1
    simp only at e1
    have e2 := numS_numD s1
    split at h
    · cases h
    · rename_i n s2 h2
      rw [h2] at e2
      have e3 := numS_numD s2
      split at h
      · cases h
      · rename_i k s3 h3
        rw [h3] at e3
        split at h
        · cases h
        · rename_i hk
          cases h
          simp only at e2 e3
          unfold rdLnS
          simp only [e1, e2, e3, if_neg hk]
          rw [show ((k : Int) % 4294967296) = (k : Int) by omega]
theorem rdLnS_error {s : List UInt8} {c : Nat} (h : rdN s = .error c) : (rdLnS (.ok s)).2 = .error c := by
  unfold rdN at h
  have e1 := textS_txt s
  split at h
  · rename_i c' h1
    cases h
    rw [h1] at e1
    simp only at e1
    simp only [rdLnS, e1, numS_errL]
    exact if_neg (by decide)
  · rename_i d s1 h1
    rw [h1] at e1
    simp only at e1
    have e2 := numS_numD s1
    split at h
    · rename_i c' h2
      cases h
      rw [h2] at e2
      simp only at e2
      simp only [rdLnS, e1, e2, numS_errL]
      exact if_neg (by decide)
    · rename_i n s2 h2
      rw [h2] at e2
      have e3 := numS_numD s2
      split at h
      · rename_i c' h3
        cases h
        rw [h3] at e3
        simp only at e2 e3
        simp only [rdLnS, e1, e2, e3]
        exact if_neg (by decide)
      · rename_i k s3 h3
        rw [h3] at e3
        split at h
        · rename_i hk
          cases h
          simp only at e2 e3
          unfold rdLnS
          simp only [e1, e2, e3, if_pos hk]
        · cases h
theorem num_bigL {st : St} (h : 4294967295 < (numS st).1) : ∃ l, (numS st).2 = .ok l := by
  cases hx : (numS st).2 with
  | error c => rw [numS_zero hx] at h; omega
  | ok l => exact ⟨l, rfl⟩
theorem rdLnS_len (st : St) : lenS (rdLnS st).2 ≤ lenS st := by
  unfold rdLnS
  simp only
  split
  · simp [lenS]
  · exact Nat.le_trans (numS_len _) (Nat.le_trans (numS_len _) (textS_len _))

set_option maxHeartbeats 2000000 in
set_option maxRecDepth 100000 in
theorem readLine_ok (e : EV) (p : Nat) (st : St) (w0 w : World) (h0 : Er e w0) (hp : w0.heap.size ≤ p) (h : RdSt e p w st) (hs : lenS st ≤ 1000000) (he : Er e w) :
    Calls Tryz.prog 51 #[.pointer (some ⟨p, 0, none⟩)] w fun r w' => r = .returned (.agg #[.string (rdLnS st).1.name, .int .i64 (rdLnS st).1.n, .int .u32 (rdLnS st).1.sum]) ∧ RdSt e p w' (rdLnS st).2 ∧ w.grownBy w' (some p) := by
  have hpl := h.lt
  have HA := hide (fun W (a : RdSt e p W st) (b : Er e W) => textSt e p st w0 W h0 hp a hs b)
  have HB := hide (fun W (a : RdSt e p W (textS st).2) (b : Er e W) => numSt e p (textS st).2 W a (Nat.le_trans (textS_len _) hs) b)
  have HC := hide (fun W (a : RdSt e p W (numS (textS st).2).2) (b : Er e W) => numSt e p (numS (textS st).2).2 W a (Nat.le_trans (numS_len _) (Nat.le_trans (textS_len _) hs)) b)
  have l2 := numS_le (textS st).2
  have l3 := numS_le (numS (textS st).2).2
  have HG := hide (num_bigL (st := (numS (textS st).2).2))
  unfold rdLnS
  simp only
  generalize numS (numS (textS st).2).2 = x3 at *
  generalize numS (textS st).2 = x2 at *
  generalize textS st = x1 at *
  obtain ⟨a, s1⟩ := x1
  obtain ⟨b, s2⟩ := x2
  obtain ⟨c, s3⟩ := x3
  simp only at l2 l3 HA HB HC HG ⊢
  generalize str a = D at *
  have HE0 := hide (fun W W' (a : Er e W) (b : W.grownBy W' (some p)) => Er.grown h0 hp a b)
  have hqp : w.heap.size ≠ p := by omega
  have hb0 : Below w.heap.size w (w.alloc (.cells #[.string ⟨#[]⟩, .int .i64 0, .int .u32 0] 60)) := (Below.refl _ _).alloc (Nat.le_refl _) _
  have Hq0 : Hid (LnAt w.heap.size (w.alloc (.cells #[.string ⟨#[]⟩, .int .i64 0, .int .u32 0] 60)) zeroL) := LnAt.fresh w zeroL 60
  have Hg0 := hide (grow_alloc (World.grownBy.refl w (some p)) (.cells #[.string ⟨#[]⟩, .int .i64 0, .int .u32 0] 60))
  have HE1 := hide (he.below hb0)
  have Hst := hide (h.below' (hb0.mono (by omega)))
  clear h he h0 hs hp hb0
  by_cases hc : 4294967295 < c
  · rw [if_pos hc]
    have hcl : (4294967295 : Int) < c := by omega
    obtain ⟨l, rfl⟩ := HG.out hc
    clear hc
    go_enter Tryz.func51, Tryz.ntmps51
    go_wp2_with fail
    refine (HA.out _ Hst.out HE1.out).mono ?_
    rintro r w1 ⟨rfl, h1, hg1⟩
    have H1 := hide h1
    have Hq1 := hide (Hq0.out.grown hg1 hqp)
    have HE2 := hide (HE0.out _ _ HE1.out hg1)
    have Hg1 := hide (grow_trans Hg0.out hg1)
    clear h1 hg1 Hq0 HE1 Hst Hg0 HA
    go_wp2_with fail
    refine (HB.out _ H1.out HE2.out).mono ?_
    rintro r w2 ⟨rfl, h2, hg2⟩
    have H2 := hide h2
    have Hq2 := hide (Hq1.out.grown hg2 hqp)
    have HE3 := hide (HE0.out _ _ HE2.out hg2)
    have Hg2 := hide (grow_trans Hg1.out hg2)
    clear h2 hg2 Hq1 HE2 Hg1 HB H1
    go_wp2_with fail
    refine (HC.out _ H2.out HE3.out).mono ?_
    rintro r w3 ⟨rfl, h3, hg3⟩
    have H3 := hide h3
    have hq3 := Hq2.out.grown hg3 hqp
    have HE4 := hide (HE0.out _ _ HE3.out hg3)
    have Hg3 := hide (grow_trans Hg2.out hg3)
    have Hq3 := hide hq3
    clear h3 hg3 Hq2 HE3 Hg2 HC H2
    obtain ⟨c0, c1, c2, f0, f1, f2, lt⟩ := hq3
    have hT := HE4.out.text
    obtain ⟨sl, hsl, hrd⟩ := H3.out
    have Hrd := hide hrd
    clear hsl hrd H3 HE4 HE0
    go_wp2_with fail
    refine (failR4 p sl _ _ _ Hrd.out).mono ?_
    rintro r w4 ⟨rfl, h4, hg4⟩
    have H4 := hide h4
    have hq4 := Hq3.out.grown hg4 hqp
    have Hq4 := hide hq4
    have Hg4 := hide (grow_trans Hg3.out hg4)
    clear h4 hg4 Hq3 Hg3 c0 c1 c2 f0 f1 f2 lt hT
    obtain ⟨c0, c1, c2, f0, f1, f2, lt⟩ := hq4
    go_wp2_with fail
    (try simp only [Exit.inBlock, Exit.then])
    refine bodyPost_ret (v := .agg #[.string D, .int .i64 b, .int .u32 ((c : Int) % 4294967296)]) ?_ rfl ⟨rfl, RdSt.below' (st := .error 1) ⟨Or.inl rfl, H4.out⟩ ((((Below.refl _ _).setCell (by simp; omega) _).setCell (by simp; omega) _).setCell (by simp; omega) _), grow_setNew (grow_setNew (grow_setNew Hg4.out (Nat.le_refl _) _) (Nat.le_refl _) _) (Nat.le_refl _) _⟩
    obtain ⟨s0, s1, s2, _, _, _, _⟩ := Hq4.out.set ⟨D, b, (c % 4294967296)⟩
    simp only [results, show Tryz.f51.results = #[.cell 2 60] from rfl]
    go_simp
  · rw [if_neg hc]
    have hcm : (c : Int) % 4294967296 = (c : Int) := by omega
    have hcl : (c : Int) ≤ 4294967295 := by omega
    rw [hcm]
    clear hc
    go_enter Tryz.func51, Tryz.ntmps51
    go_wp2_with fail
    refine (HA.out _ Hst.out HE1.out).mono ?_
    rintro r w1 ⟨rfl, h1, hg1⟩
    have H1 := hide h1
    have Hq1 := hide (Hq0.out.grown hg1 hqp)
    have HE2 := hide (HE0.out _ _ HE1.out hg1)
    have Hg1 := hide (grow_trans Hg0.out hg1)
    clear h1 hg1 Hq0 HE1 Hst Hg0 HA
    go_wp2_with fail
    refine (HB.out _ H1.out HE2.out).mono ?_
    rintro r w2 ⟨rfl, h2, hg2⟩
    have H2 := hide h2
    have Hq2 := hide (Hq1.out.grown hg2 hqp)
    have HE3 := hide (HE0.out _ _ HE2.out hg2)
    have Hg2 := hide (grow_trans Hg1.out hg2)
    clear h2 hg2 Hq1 HE2 Hg1 HB H1
    go_wp2_with fail
    refine (HC.out _ H2.out HE3.out).mono ?_
    rintro r w3 ⟨rfl, h3, hg3⟩
    have H3 := hide h3
    have hq3 := Hq2.out.grown hg3 hqp
    have Hg3 := hide (grow_trans Hg2.out hg3)
    have Hq3 := hide hq3
    clear h3 hg3 Hq2 HE3 Hg2 HC H2
    obtain ⟨c0, c1, c2, f0, f1, f2, lt⟩ := hq3
    go_wp2_with fail
    (try simp only [Exit.inBlock, Exit.then])
    refine bodyPost_ret (v := .agg #[.string D, .int .i64 b, .int .u32 c]) ?_ rfl ⟨rfl, H3.out.below' ((((Below.refl _ _).setCell (by simp; omega) _).setCell (by simp; omega) _).setCell (by simp; omega) _), grow_setNew (grow_setNew (grow_setNew Hg3.out (Nat.le_refl _) _) (Nat.le_refl _) _) (Nat.le_refl _) _⟩
    obtain ⟨s0, s1, s2, _, _, _, _⟩ := Hq3.out.set ⟨D, b, c⟩
    simp only [results, show Tryz.f51.results = #[.cell 2 60] from rfl]
    go_simp
end Go.Proofs.YtbflmkjlpopeaadGreatDoor
