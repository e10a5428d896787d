/-
  Plain mathematics of a window, on: what holds all through a play (frames that are lost, doubled, turned around); what holds at its end. No program, no walk.
-/
import Derived.Test.YtaambclpkghddaaDoorWindowInv
namespace Go.Window

/-- Where a play stands: of the texts T, whose first one bears the number F, d are told; those of the places I are kept. -/
structure Play (F : Nat) (T : List ByteArray) (r : Rc) (s : Sn) (d : Nat) (I : List Nat) : Prop where
  fits : Fits F T r d
  still : Still r
  keeps : Keeps F T s I
  covers : Covers T r d I
  sok : s.Ok
  rok : r.Ok
theorem kepts_ok {F : Nat} {T : List ByteArray} (hT : T.length ≤ 32) (hs : ∀ x ∈ T, x.size ≤ 20000) : ∀ k, k ≤ T.length → (Sn.mk ((F + k) % 65536) (kepts F T k)).Ok
  | 0, _ => ⟨Nat.mod_lt _ (by decide), by simp [kepts], by simp [kepts]⟩
  | k + 1, h => by
    have ih := (kepts_ok (F := F) hT hs k (by omega)).push T[k]
    rw [push_keeps (by omega) hT (hs _ (List.getElem_mem _))] at ih
    exact ih
theorem Play.new (F : Nat) {T : List ByteArray} (hT : T.length ≤ 32) (hs : ∀ x ∈ T, x.size ≤ 20000) : Play F T (rcNew F) ⟨(F + T.length) % 65536, kepts F T T.length⟩ 0 (List.range T.length) :=
  ⟨(new_fits F T).1, (new_fits F T).2, kepts_keeps F T, covers_new F T, kepts_ok hT hs _ (Nat.le_refl _), rc_new F⟩
theorem Play.ack {F : Nat} {T : List ByteArray} {r : Rc} {s : Sn} {d : Nat} {I : List Nat} (h : Play F T r s d I) (hT : T.length ≤ 32) :
    ∃ J, Play F T r (s.ack (r.due : Int) (r.more.map Int.ofNat)) d J ∧ ∀ i, i ∈ J ↔ i ∈ I ∧ ¬ Got r d i := by
  obtain ⟨J, hJ, hm⟩ := ack_keeps h.keeps h.fits hT
  exact ⟨J, ⟨h.fits, h.still, hJ, h.covers.ack hm, h.sok.ack _ _, h.rok⟩, hm⟩
theorem Play.take {F : Nat} {T : List ByteArray} {r : Rc} {s : Sn} {d : Nat} {I : List Nat} (h : Play F T r s d I) (hT : T.length ≤ 32) {i : Nat} (hi : i < T.length) :
    ∃ d', d ≤ d' ∧ d' ≤ T.length ∧ Play F T (r.takeI (((F + i) % 65536 : Nat) : Int) T[i]).1 s d' I ∧ T.take d ++ (r.takeI (((F + i) % 65536 : Nat) : Int) T[i]).2 = T.take d' ∧
      Got (r.takeI (((F + i) % 65536 : Nat) : Int) T[i]).1 d' i ∧ ∀ j, Got r d j → Got (r.takeI (((F + i) % 65536 : Nat) : Int) T[i]).1 d' j := by
  rw [Rc.takeI_nat _ _ (Nat.mod_lt _ (by decide))]
  obtain ⟨d', h1, h2, h3, h4, h5, h6⟩ := take_fits h.fits h.still hT hi
  refine ⟨d', h1, h2.le, ⟨h2, h3, h.keeps, h.covers.take h6, h.sok, h.rok.take _ _⟩, ?_, h5, h6⟩
  rw [h4]
  have e : d' = d + (d' - d) := by omega
  rw [← List.take_add, ← e]
/-- What is kept is one of those that were pushed. -/
theorem Play.kept {F : Nat} {T : List ByteArray} {r : Rc} {s : Sn} {d : Nat} {I : List Nat} (h : Play F T r s d I) : s.kept.map (fun p => (p.1 : Int)) = I.map (fun i => (((F + i) % 65536 : Nat) : Int)) ∧ (∀ i ∈ I, i < T.length) ∧
    ∀ i (hi : i ∈ I), s.data (((F + i) % 65536 : Nat) : Int) = some (T[i]'(h.keeps.lt i hi)) := by
  refine ⟨by rw [h.keeps.kept, List.map_map]; rfl, h.keeps.lt, fun i hi => ?_⟩
  have hl := h.keeps.lt i hi
  have hm : ((F + i) % 65536, T[i]) ∈ s.kept := by
    rw [h.keeps.kept, List.mem_map]
    refine ⟨i, hi, ?_⟩
    rw [List.getD_eq_getElem?_getD, List.getElem?_eq_getElem hl]
    rfl
  exact h.sok.data hm
/-- At the end: where all that is kept is there, all is told, and by one more answer nothing is kept. -/
theorem Play.ends {F : Nat} {T : List ByteArray} {r : Rc} {s : Sn} {d : Nat} {I : List Nat} (h : Play F T r s d I) (hT : T.length ≤ 32) (hg : ∀ i ∈ I, Got r d i) :
    d = T.length ∧ (s.ack (r.due : Int) (r.more.map Int.ofNat)).kept = [] := by
  have ha : ∀ i, i < T.length → Got r d i := fun i hi => (h.covers i hi).elim (hg i) id
  exact ⟨all_told h.fits h.still ha, ack_none h.keeps h.fits hT ha⟩
end Go.Window
