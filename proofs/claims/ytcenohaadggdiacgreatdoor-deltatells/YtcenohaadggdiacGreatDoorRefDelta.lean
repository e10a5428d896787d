/-
  Contract of the document's DeltaOf over this dump.
-/
import Derived.Test.YtcenohaadggdiacGreatDoorJoin04
import Derived.Test.YtcenohaadggdiacGreatDoorJoin12
import Derived.Test.YtcenohaadggdiacGreatDoorJoin07
import Derived.Test.YtcenohaadggdiacGreatDoorJoin16
import Derived.Test.YtcenohaadggdiacGreatDoorRefFind
import Derived.Deep.RegionHeld3
import Derived.Deep.DeepCutAuto
import Derived.Laws.OwnMore
namespace Go.Proofs.YtcenohaadggdiacGreatDoor
open Go.RowKit
open Go.Sign (Blk)
open Go.Delta (Opx addCopy addByte gd copyOp dataOp kCopy kData noBytes)

/-- The last op; an empty one where there is none. -/
def lastO (out : List Opx) : Opx := out.getLast?.getD ⟨noBytes, 0, 0, noBytes⟩
theorem lastO_snoc (r : List Opx) (o : Opx) : lastO (r ++ [o]) = o := by simp [lastO]
theorem last_cases (out : List Opx) : out = [] ∨ ∃ r o, out = r ++ [o] := by
  rcases List.eq_nil_or_concat out with rfl | ⟨r, o, rfl⟩
  · exact Or.inl rfl
  · exact Or.inr ⟨r, o, by rw [List.concat_eq_append]⟩
theorem addCopy_new {out : List Opx} {k : Int} (h : ¬ ((lastO out).kind = kCopy ∧ (lastO out).at_ + (lastO out).n = k)) : addCopy out k = out ++ [copyOp k 1] := by
  rcases last_cases out with rfl | ⟨r, o, rfl⟩
  · rfl
  · rw [lastO_snoc] at h
    rw [Go.Delta.addCopy_snoc, if_neg h]
theorem addCopy_old {out : List Opx} {k : Int} (h : (lastO out).kind = kCopy ∧ (lastO out).at_ + (lastO out).n = k) : ∃ r o, out = r ++ [o] ∧ lastO out = o ∧ addCopy out k = r ++ [⟨o.kind, o.at_, o.n + 1, o.data⟩] := by
  rcases last_cases out with rfl | ⟨r, o, rfl⟩
  · exact absurd h.1 (by decide)
  · rw [lastO_snoc] at h
    exact ⟨r, o, rfl, lastO_snoc r o, by rw [Go.Delta.addCopy_snoc, if_pos h]⟩
theorem addByte_new {out : List Opx} {b : UInt8} (h : (lastO out).kind ≠ kData) : addByte out b = out ++ [dataOp [b]] := by
  rcases last_cases out with rfl | ⟨r, o, rfl⟩
  · rfl
  · rw [lastO_snoc] at h
    rw [Go.Delta.addByte_snoc, if_neg h]
theorem addByte_old {out : List Opx} {b : UInt8} (h : (lastO out).kind = kData) : ∃ r o, out = r ++ [o] ∧ lastO out = o ∧ addByte out b = r ++ [⟨o.kind, o.at_, o.n, o.data ++ str [b]⟩] := by
  rcases last_cases out with rfl | ⟨r, o, rfl⟩
  · exact absurd h (by decide)
  · rw [lastO_snoc] at h
    exact ⟨r, o, rfl, lastO_snoc r o, by rw [Go.Delta.addByte_snoc, if_pos h]⟩
theorem last_sane {N : Nat} {out : List Opx} (h : Good N out) : 0 ≤ (lastO out).at_ ∧ 0 ≤ (lastO out).n ∧ (lastO out).at_ + (lastO out).n ≤ N := by
  rcases last_cases out with rfl | ⟨r, o, rfl⟩
  · exact ⟨by decide, by decide, by simp [lastO]⟩
  · rw [lastO_snoc]
    rcases (good_init h).2 with ⟨a, n, rfl, h1, h2⟩ | ⟨l, rfl, _⟩
    · simp only [copyOp]; omega
    · simp only [dataOp]; omega
theorem last_cost (out : List Opx) : (lastO out).data.size ≤ Go.Delta.cost out := by
  rcases last_cases out with rfl | ⟨r, o, rfl⟩
  · exact Nat.le_refl _
  · rw [lastO_snoc, Go.Delta.cost_snoc]; omega
theorem OpAt.setAll {p : Nat} {w : World} {o : Opx} (h : OpAt p w o) (k : ByteArray) (a n : Int) (d : ByteArray) :
    OpAt p ((((w.setCell ⟨p, 0, none⟩ (.string k)).setCell ⟨p, 1, none⟩ (.int .i64 a)).setCell ⟨p, 2, none⟩ (.int .i64 n)).setCell ⟨p, 3, none⟩ (.string d)) ⟨k, a, n, d⟩ := by
  obtain ⟨c0, c1, c2, c3, f0, f1, f2, f3, lt⟩ := h
  have x0 : (w.setCell ⟨p, 0, none⟩ (.string k)).cell? ⟨p, 0, none⟩ = some (.string k) := World.cell?_setCell_same _ _ _ c0
  have x1 : (w.setCell ⟨p, 0, none⟩ (.string k)).cell? ⟨p, 1, none⟩ = some (.int .i64 o.at_) := by rw [World.cell?_setCell_other _ _ _ _ (by simp)]; exact c1
  have x2 : (w.setCell ⟨p, 0, none⟩ (.string k)).cell? ⟨p, 2, none⟩ = some (.int .i64 o.n) := by rw [World.cell?_setCell_other _ _ _ _ (by simp)]; exact c2
  have x3 : (w.setCell ⟨p, 0, none⟩ (.string k)).cell? ⟨p, 3, none⟩ = some (.string o.data) := by rw [World.cell?_setCell_other _ _ _ _ (by simp)]; exact c3
  refine ⟨?_, ?_, ?_, ?_, by simpa using f0, by simpa using f1, by simpa using f2, by simpa using f3, by simpa using lt⟩
  · rw [World.cell?_setCell_other _ _ _ _ (by simp), World.cell?_setCell_other _ _ _ _ (by simp), World.cell?_setCell_other _ _ _ _ (by simp)]; exact x0
  · rw [World.cell?_setCell_other _ _ _ _ (by simp), World.cell?_setCell_other _ _ _ _ (by simp)]; exact World.cell?_setCell_same _ _ _ x1
  · rw [World.cell?_setCell_other _ _ _ _ (by simp)]
    exact World.cell?_setCell_same _ _ _ (by rw [World.cell?_setCell_other _ _ _ _ (by simp)]; exact x2)
  · exact World.cell?_setCell_same _ _ _ (by rw [World.cell?_setCell_other _ _ _ _ (by simp), World.cell?_setCell_other _ _ _ _ (by simp)]; exact x3)
/-- The last op's cells. -/
theorem own_last {w : World} {base g c : Nat} {r : List Opx} {o : Opx} (own : w.ownsRow base 44 4 (.slice (some ⟨g, 0, none⟩) (r.length + 1) c) (r.length + 1) (ocs (r ++ [o]))) :
    w.cell? ⟨g, r.length * 4, none⟩ = some (.string o.kind) ∧ w.cell? ⟨g, r.length * 4 + 1, none⟩ = some (.int .i64 o.at_) ∧ w.cell? ⟨g, r.length * 4 + 2, none⟩ = some (.int .i64 o.n) ∧ w.cell? ⟨g, r.length * 4 + 3, none⟩ = some (.string o.data) ∧ (∀ j, w.frozen? ⟨g, j, none⟩ = false) ∧ g < w.heap.size ∧ base ≤ g := by
  have hg := ocs_get (r ++ [o]) r.length (by simp)
  simp only [List.getElem_concat_length] at hg
  obtain ⟨h0, h1, h2, h3⟩ := hg
  have hn : ∀ i, i < 4 → r.length * 4 + i < (r.length + 1) * 4 := fun i hi => by omega
  exact ⟨(World.ownsRow.cellAt own _ (hn 0 (by omega))).trans h0, (World.ownsRow.cellAt own _ (hn 1 (by omega))).trans h1, (World.ownsRow.cellAt own _ (hn 2 (by omega))).trans h2, (World.ownsRow.cellAt own _ (hn 3 (by omega))).trans h3, World.ownsRow.frozenAt own, (own.lt g rfl).2, (own.lt g rfl).1⟩
theorem own_setN {w : World} {base g c : Nat} {r : List Opx} {o : Opx} (own : w.ownsRow base 44 4 (.slice (some ⟨g, 0, none⟩) (r.length + 1) c) (r.length + 1) (ocs (r ++ [o]))) (n : Int) :
    (w.setCell ⟨g, r.length * 4 + 2, none⟩ (.int .i64 n)).ownsRow base 44 4 (.slice (some ⟨g, 0, none⟩) (r.length + 1) c) (r.length + 1) (ocs (r ++ [⟨o.kind, o.at_, n, o.data⟩])) := by
  have s1 := (World.ownsRow.stored own (r.length * 4 + 2) (.int .i64 n)).1
  have e : (ocs (r ++ [o])).set (r.length * 4 + 2) (.int .i64 n) = ocs (r ++ [⟨o.kind, o.at_, n, o.data⟩]) := by
    rw [ocs_snoc, ocs_snoc, List.set_append_right _ _ (by rw [ocs_length]; omega), ocs_length]
    congr 1
    rw [show r.length * 4 + 2 - r.length * 4 = 2 by omega]
    rfl
  rw [e] at s1
  exact s1
theorem own_setD {w : World} {base g c : Nat} {r : List Opx} {o : Opx} (own : w.ownsRow base 44 4 (.slice (some ⟨g, 0, none⟩) (r.length + 1) c) (r.length + 1) (ocs (r ++ [o]))) (d : ByteArray) :
    (w.setCell ⟨g, r.length * 4 + 3, none⟩ (.string d)).ownsRow base 44 4 (.slice (some ⟨g, 0, none⟩) (r.length + 1) c) (r.length + 1) (ocs (r ++ [⟨o.kind, o.at_, o.n, d⟩])) := by
  have s1 := (World.ownsRow.stored own (r.length * 4 + 3) (.string d)).1
  have e : (ocs (r ++ [o])).set (r.length * 4 + 3) (.string d) = ocs (r ++ [⟨o.kind, o.at_, o.n, d⟩]) := by
    rw [ocs_snoc, ocs_snoc, List.set_append_right _ _ (by rw [ocs_length]; omega), ocs_length]
    congr 1
    rw [show r.length * 4 + 3 - r.length * 4 = 3 by omega]
    rfl
  rw [e] at s1
  exact s1

theorem gd_step (f : List UInt8 → Int) (size x E : Nat) (l : List UInt8) (out : List Opx) (h : x < l.length) (h1 : 1 ≤ size) (hE : (E = l.length ∧ l.length < x + size) ∨ (E = x + size ∧ x + size ≤ l.length)) :
    gd f size (l.drop x) out = if 0 ≤ f ((l.drop x).take size) then gd f size (l.drop E) (addCopy out (f ((l.drop x).take size))) else gd f size (l.drop (x + 1)) (addByte out l[x]) := by
  have e : (l.drop (x + 1)).drop (size - 1) = l.drop E := by
    rw [List.drop_drop]
    rcases hE with ⟨rfl, h'⟩ | ⟨rfl, _⟩
    · rw [List.drop_eq_nil_of_le (by omega), List.drop_eq_nil_of_le (Nat.le_refl _)]
    · congr 1; omega
  rw [List.drop_eq_getElem_cons h, gd, e]

theorem own_setOther3 {w : World} {base q i : Nat} {e : TypeId} {size : Nat} {v u : Value} {n : Nat} {xs : List Value} (h : w.ownsRow base e size v n xs) (hq : ∀ g, v.ownBlock = some g → g < q) : (w.setCell ⟨q, i, none⟩ u).ownsRow base e size v n xs := by
  rcases h with ⟨h1, h2 | ⟨g, c, cur, e1, e2, e3, e4⟩⟩
  · exact ⟨h1, Or.inl h2⟩
  · refine ⟨h1, Or.inr ⟨g, c, cur, e1, e2, (Below.heap_setCell _ _ _ _ ?_).trans e3, e4⟩⟩
    have := hq g (by rw [e1]; rfl)
    simp
    omega
theorem own_setOther2 {w : World} {base q i : Nat} {e : TypeId} {size : Nat} {v u : Value} {n : Nat} {xs : List Value} (h : w.ownsRow base e size v n xs) (hq : q < base) : (w.setCell ⟨q, i, none⟩ u).ownsRow base e size v n xs := by
  rcases h with ⟨h1, h2 | ⟨g, c, cur, e1, e2, e3, e4⟩⟩
  · exact ⟨h1, Or.inl h2⟩
  · refine ⟨h1, Or.inr ⟨g, c, cur, e1, e2, (Below.heap_setCell _ _ _ _ ?_).trans e3, e4⟩⟩
    simp
    omega

set_option maxHeartbeats 2000000 in
set_option maxRecDepth 100000 in
theorem deltaOf_fault (v : Value) (L : List Blk) (size : Int) (s : ByteArray) (w : World) (hv : RowIn w v L) (hL : L.length ≤ 1000000) (hf : (Go.Sign.fault L size).1 ≠ 0) :
    Calls Tryz.prog 8 #[v, .int .i64 size, .string s] w fun r w' => r = .returned (.tuple #[.slice none 0 0, fval (Go.Sign.fault L size)]) ∧ Below w.heap.size w w' := by
  have HF := hide (fun W (k : RowIn W v L) => sfault_ok v L size W k hL)
  have HV := hide (hv.below ((Below.refl w.heap.size w).alloc (Nat.le_refl _) (.cells #[.int .i64 0, .int .i64 0] 32)))
  obtain ⟨a, c, rfl, _⟩ := hv
  unfold fval at HF ⊢
  generalize Go.Sign.fault L size = f at *
  obtain ⟨fc, fa⟩ := f
  simp only at HF hf ⊢
  have hfc : 0 < (fc : Int) := by omega
  clear hf
  go_enter Tryz.func8, Tryz.ntmps8
  go_wp2_with fail
  refine (HF.out _ HV.out).mono ?_
  rintro r w2 ⟨rfl, hb2⟩
  have hq2 := (HvAt.fresh w 0 0 32).below hb2 (by simp)
  have hba : Below (w.heap.size + 1) w2 (w2.alloc (.cells #[.int .i64 (fc : Int), .int .i64 fa] 32)) := (Below.refl _ _).alloc (by have := hb2.size; simp at this; omega) _
  have hq3 := hq2.below hba (by omega)
  have Hq3 := hide hq3
  have Hb3 := hide (((Below.refl w.heap.size w).alloc (Nat.le_refl _) (.cells #[.int .i64 0, .int .i64 0] 32)).trans ((hb2.mono (by simp)).trans (hba.mono (by omega))))
  have hne : w.heap.size < w2.heap.size := by have := hb2.size; simp at this; omega
  clear hb2 hba hq2 HF HV
  have hr3 := HvAt.fresh w2 fc fa 32
  obtain ⟨q0, q1, p0, p1, qlt⟩ := hq3
  obtain ⟨r0, r1, _, _, _⟩ := hr3
  go_wp2_with fail
  generalize w2.alloc (.cells #[.int .i64 (fc : Int), .int .i64 fa] 32) = w3 at *
  generalize w2.heap.size = m at *
  have k0 : (((w3.setCell ⟨w.heap.size, 0, none⟩ (.int .i64 (fc : Int))).setCell ⟨w.heap.size, 1, none⟩ (.int .i64 fa)).drew).cell? ⟨m, 0, none⟩ = some (.int .i64 (fc : Int)) := by
    show ((w3.setCell _ _).setCell _ _).cell? _ = _
    rw [World.cell?_setCell_other _ _ _ _ (by simp <;> omega), World.cell?_setCell_other _ _ _ _ (by simp <;> omega)]; exact r0
  have k1 : (((w3.setCell ⟨w.heap.size, 0, none⟩ (.int .i64 (fc : Int))).setCell ⟨w.heap.size, 1, none⟩ (.int .i64 fa)).drew).cell? ⟨m, 1, none⟩ = some (.int .i64 fa) := by
    show ((w3.setCell _ _).setCell _ _).cell? _ = _
    rw [World.cell?_setCell_other _ _ _ _ (by simp <;> omega), World.cell?_setCell_other _ _ _ _ (by simp <;> omega)]; exact r1
  have HK := hide (And.intro k0 k1)
  clear k0 k1
  go_region_held3 (fun w' => w'.cell? ⟨m, 0, none⟩ = some (.int .i64 (fc : Int)) ∧ w'.cell? ⟨m, 1, none⟩ = some (.int .i64 fa)) (first | exact ⟨r0, r1⟩ | exact HK.out) (fail)
  all_goals
    go_wp2_with fail
    (try simp only [Exit.inBlock, Exit.then])
    refine bodyPost_ret (v := .tuple #[.slice none 0 0, .agg #[.int .i64 fc, .int .i64 fa]]) ?_ rfl ⟨rfl, ((Hb3.out.setCell (by simp) _).setCell (by simp) _).drew⟩
    obtain ⟨x0, x1, _, _, _⟩ := (Hq3.out.set fc fa).drew
    simp only [results, show Tryz.f8.results = #[.tmp 6, .cell 7 32] from rfl]
    go_simp

set_option maxHeartbeats 2000000 in
set_option maxRecDepth 100000 in
theorem deltaOf_long (v : Value) (L : List Blk) (size : Int) (s : ByteArray) (w : World) (hv : RowIn w v L) (hL : L.length ≤ 1000000) (hf : (Go.Sign.fault L size).1 = 0) (hs : 4000 < s.size) (hss : s.size ≤ 1000000) :
    Calls Tryz.prog 8 #[v, .int .i64 size, .string s] w fun r w' => r = .returned (.tuple #[.slice none 0 0, .agg #[.int .i64 2, .int .i64 (-1)]]) ∧ Below w.heap.size w w' := by
  have HF := hide (fun W (k : RowIn W v L) => sfault_ok v L size W k hL)
  have HB := hide (fun W => bare_ok 2 W)
  have HV := hide (hv.below ((Below.refl w.heap.size w).alloc (Nat.le_refl _) (.cells #[.int .i64 0, .int .i64 0] 32)))
  obtain ⟨a, c, rfl, _⟩ := hv
  unfold fval at HF
  generalize Go.Sign.fault L size = f at *
  obtain ⟨fc, fa⟩ := f
  simp only at HF hf
  subst hf
  have hs' : (4000 : Int) < s.size := by omega
  go_enter Tryz.func8, Tryz.ntmps8
  go_wp2_with fail
  refine (HF.out _ HV.out).mono ?_
  rintro r w2 ⟨rfl, hb2⟩
  have hq2 := (HvAt.fresh w 0 0 32).below hb2 (by simp)
  have Hb2 := hide (((Below.refl w.heap.size w).alloc (Nat.le_refl _) (.cells #[.int .i64 0, .int .i64 0] 32)).trans (hb2.mono (by simp)))
  have hne : w.heap.size < w2.heap.size := by have := hb2.size; simp at this; omega
  have Hq2 := hide hq2
  clear hb2 HF HV hq2
  go_wp2_with fail
  refine (HB.out _).mono ?_
  rintro r w3 ⟨rfl, hb3⟩
  have hba : Below (w.heap.size + 1) w2 (w2.alloc (.cells #[.int .i64 0, .int .i64 fa] 32)) := (Below.refl _ _).alloc (by omega) _
  have hq3 := (Hq2.out.below hba (by omega)).below (k := w.heap.size + 1) (hb3.mono (by simp; omega)) (by omega)
  have Hq3 := hide hq3
  have Hb3 := hide (Hb2.out.trans ((hba.mono (by omega)).trans (hb3.mono (by simp; omega))))
  clear hb3 hba Hq2 Hb2
  obtain ⟨q0, q1, p0, p1, qlt⟩ := hq3
  go_wp2_with fail
  (try simp only [Exit.inBlock, Exit.then])
  refine bodyPost_ret (v := .tuple #[.slice none 0 0, .agg #[.int .i64 2, .int .i64 (-1)]]) ?_ rfl ⟨rfl, (Hb3.out.setCell (by simp) _).setCell (by simp) _⟩
  obtain ⟨x0, x1, _, _, _⟩ := Hq3.out.set 2 (-1)
  simp only [results, show Tryz.f8.results = #[.tmp 6, .cell 7 32] from rfl]
  go_simp

set_option maxHeartbeats 4000000 in
set_option maxRecDepth 100000 in
theorem deltaOf_main (v : Value) (L : List Blk) (size : Nat) (s : ByteArray) (w : World) (hv : RowIn w v L) (hL : L.length ≤ 1000) (hf : (Go.Sign.fault L size).1 = 0) (h1 : 1 ≤ size) (h2 : size ≤ 64) (hs : s.size ≤ 4000) :
    Calls Tryz.prog 8 #[v, .int .i64 size, .string s] w fun r w' => (∃ u, r = .returned (.tuple #[u, .agg #[.int .i64 0, .int .i64 (-1)]]) ∧ w'.ownsRow w.heap.size 44 4 u (dmake L size s.data.toList).length (ocs (dmake L size s.data.toList))) ∧ Below w.heap.size w w' := by
  obtain ⟨i0, hi, hz0, hz1, hz2⟩ := info_parts Tryz.info44
  have HF := hide (fun W (k : RowIn W v L) => sfault_ok v L size W k (by omega))
  have HFn := hide (fun W => fine_ok W)
  have hv0 := hv.below ((Below.refl w.heap.size w).alloc (Nat.le_refl _) (.cells #[.int .i64 0, .int .i64 0] 32))
  have HV := hide hv0
  have HFd := hide (fun W (t : ByteArray) (k : RowIn W v L) (ht : t.size ≤ 1000000) => findOf_ok v L t W k (by omega) ht)
  obtain ⟨a, c, rfl, _⟩ := hv
  unfold fval at HF
  generalize Go.Sign.fault L size = f at *
  obtain ⟨fc, fa⟩ := f
  simp only at HF hf
  subst hf
  have hs' : (s.size : Int) ≤ 4000 := by omega
  have h1' : (1 : Int) ≤ size := by omega
  have h2' : (size : Int) ≤ 64 := by omega
  have hD : gd (findW L) size (s.data.toList.drop 0) [] = dmake L size s.data.toList := rfl
  have HD := hide hD
  generalize dmake L size s.data.toList = D at *
  clear hD hv0
  go_enter Tryz.func8, Tryz.ntmps8
  go_wp2_with fail
  refine (HF.out _ HV.out).mono ?_
  rintro r w2 ⟨rfl, hb2⟩
  have hq2 := (HvAt.fresh w 0 0 32).below hb2 (by simp)
  have hba : Below w2.heap.size w2 (w2.alloc (.cells #[.int .i64 0, .int .i64 fa] 32)) := (Below.refl _ _).alloc (Nat.le_refl _) _
  have Hq3 := hide (hq2.below hba (by have := hb2.size; simp at this; omega))
  have HV3 := hide ((HV.out.below hb2).below hba)
  have Hb3 := hide (((Below.refl w.heap.size w).alloc (Nat.le_refl _) (.cells #[.int .i64 0, .int .i64 0] 32)).trans ((hb2.mono (by simp)).trans (hba.mono (by have := hb2.size; simp at this; omega))))
  have Hne : Hid (w.heap.size < (w2.alloc (.cells #[.int .i64 0, .int .i64 fa] 32)).heap.size) := by have := hb2.size; simp at this; simp [Hid]; omega
  clear hb2 hba hq2 HF HV
  go_wp2_with fail
  generalize w2.alloc (.cells #[.int .i64 0, .int .i64 fa] 32) = w3 at *
  have Hown3 : Hid (w3.ownsRow w3.heap.size 44 4 (.slice none 0 0) ([] : List Opx).length (ocs [])) := World.ownsRow_nil _ _ _ _
  go_loopw [9, 10] (fun t9 t10 wr => ∃ (x : Nat) (out : List Opx), t10 = .int .i64 x ∧ x ≤ s.size ∧ Hid (out.length ≤ x ∧ Go.Delta.cost out ≤ x ∧ Good L.length out) ∧ Hid (wr.ownsRow w3.heap.size 44 4 t9 out.length (ocs out)) ∧ Hid (Below w3.heap.size w3 wr) ∧ Hid (gd (findW L) size (s.data.toList.drop x) out = D)) (fun _ t10 _ => s.size - (intOf t10).toNat)
  case atStart => exact ⟨0, [], rfl, by omega, ⟨by simp, by simp [Go.Delta.cost], fun o ho => by cases ho⟩, Hown3.out, Below.refl _ _, HD.out⟩
  case round =>
    clear HD Hown3
    obtain ⟨x, out, rfl, hx, Hsz, Hown, Hb, HI⟩ := hrel
    by_cases hlt : x < s.size
    · have hlt' : (x : Int) < s.size := by omega
      have hx1 : (x : Int) + 1 ≤ s.size := by omega
      have hxw : IntKind.i64.wrap ((x : Int) + 1) = (x : Int) + 1 := iwrap_id _ (by omega) (by omega)
      obtain ⟨E, hE⟩ : ∃ E : Nat, (E = s.size ∧ s.size < x + size) ∨ (E = x + size ∧ x + size ≤ s.size) := by
        by_cases h : s.size < x + size
        · exact ⟨_, Or.inl ⟨rfl, h⟩⟩
        · exact ⟨_, Or.inr ⟨rfl, by omega⟩⟩
      have hxE : x < E := by omega
      have hEs : E ≤ s.size := by omega
      have HE := hide hE
      have ex : (s.extract x E).data.toList = (s.data.toList.drop x).take size := by
        rw [extractL]
        rcases hE with ⟨rfl, h⟩ | ⟨rfl, h⟩
        · rw [List.take_of_length_le (by rw [List.length_drop, lenL]; omega), List.take_of_length_le (by rw [List.length_drop, lenL]; omega)]
        · congr 1; omega
      have hI := HI.out
      rw [gd_step (findW L) size x E s.data.toList out (by rw [lenL]; exact hlt) h1 (by rw [lenL]; exact hE), ← ex, show s.data.toList[x]'(by rw [lenL]; exact hlt) = s[x] from rfl] at hI
      have Hst := hide hI
      have hkl := findW_lt L (s.extract x E).data.toList
      have Hk : Hid (findOut L (blk (s.extract x E).data.toList) = findW L (s.extract x E).data.toList) := rfl
      have Hby : Hid (s.extract x (x + 1) = str [s[x]]) := ext_of_list (by rw [extractL, strL, show x + 1 - x = 1 by omega, dropL s x hlt]; rfl)
      generalize s[x] = bx at *
      clear HI hI hE ex
      go_upto_if 36 with fail
      go_cut [11] (fun v11 wc => v11 = .int .i64 E ∧ wc = wr)
      case first =>
        rcases HE.out with ⟨e, h⟩ | ⟨e, h⟩
        · subst e
          have h' : (s.size : Int) < (x : Int) + size := by omega
          go_wp2_with fail
          go_meet
          case rel => exact ⟨rfl, rfl⟩
        · have h' : (x : Int) + size ≤ s.size := by omega
          have e' : ((x : Int) + size) = (E : Int) := by omega
          have E' := hide e'
          clear e' e
          go_wp2_with fail
          go_meet
          case rel => exact ⟨by rw [E'.out], rfl⟩
      case rest =>
        obtain ⟨rfl, rfl⟩ := hcut
        have hxE' : (x : Int) < E := by omega
        have hEs' : (E : Int) ≤ s.size := by omega
        go_wp2_with fail
        refine (HFd.out _ _ (HV3.out.below Hb.out) (by rw [ByteArray.size_extract]; omega)).mono ?_
        rintro r w4 ⟨rfl, hb4⟩
        rw [Hk.out]
        generalize findW L (s.extract x E).data.toList = k at *
        have Hown4 := hide (own_below Hown.out hb4)
        have Hb4 := hide (Hb.out.trans (hb4.mono Hb.out.size))
        clear hb4 Hown Hb HFd
        obtain ⟨a9, c9, rfl⟩ : ∃ a9 c9, u9 = .slice a9 out.length c9 := by
          rcases own_forms Hown4.out with ⟨rfl, e⟩ | ⟨g, c, rfl⟩
          · exact ⟨none, 0, by rw [e]⟩
          · exact ⟨_, _, rfl⟩
        have hol : (out.length : Int) ≤ 4000 := by have := Hsz.out.1; omega
        go_upto_if 50 with fail
        generalize hLa : (out.length : Int) - 1 = La at *
        have HLa := hide hLa
        clear hLa
        have Ho5 := hide (OpAt.fresh w4 ⟨⟨#[]⟩, 0, 0, ⟨#[]⟩⟩ 44)
        have hb5 : Below w4.heap.size w4 (w4.alloc (.cells #[.string ⟨#[]⟩, .int .i64 0, .int .i64 0, .string ⟨#[]⟩] 44)) := (Below.refl _ _).alloc (Nat.le_refl _) _
        have Hown5 := hide (own_below Hown4.out hb5)
        have Hb5 := hide (Hb4.out.trans (hb5.mono Hb4.out.size))
        have Hp : Hid (w3.heap.size ≤ w4.heap.size) := Hb4.out.size
        have Hgp : Hid (∀ g, (Value.slice a9 out.length c9).ownBlock = some g → g < w4.heap.size) := fun g hg => (Hown4.out.lt g hg).2
        clear hb5 Hown4 Hb4
        simp only at Ho5
        generalize w4.alloc (.cells #[.string ⟨#[]⟩, .int .i64 0, .int .i64 0, .string ⟨#[]⟩] 44) = w5 at *
        generalize w4.heap.size = p at *
        go_cut [] (fun wd => Hid (OpAt p wd (lastO out)) ∧ Hid (wd.ownsRow w3.heap.size 44 4 (.slice a9 out.length c9) out.length (ocs out)) ∧ Hid (Below w3.heap.size w3 wd))
        case first =>
          rcases last_cases out with rfl | ⟨r, o, rfl⟩
          · obtain rfl : La = -1 := by have := HLa.out; simpa using this.symm
            simp only [List.length_nil] at *
            go_wp2_with fail
            go_meet
            case rel => exact ⟨Ho5, Hown5, Hb5⟩
          · simp only [List.length_append, List.length_singleton] at *
            obtain ⟨g, c', e⟩ := own_form Hown5.out
            obtain rfl : a9 = some ⟨g, 0, none⟩ := by simp only [Value.slice.injEq] at e; exact e.1
            obtain ⟨d0, d1, d2, d3, _, _, _⟩ := own_last Hown5.out
            obtain ⟨o0, o1, o2, o3, g0, g1, g2, g3, olt⟩ := Ho5.out
            obtain rfl : La = (r.length : Int) := by have := HLa.out; omega
            clear e
            go_wp2_with fail
            go_meet
            case rel => exact ⟨by rw [lastO_snoc]; exact Ho5.out.setAll o.kind o.at_ o.n o.data, own_setOther3 (own_setOther3 (own_setOther3 (own_setOther3 Hown5.out Hgp.out) Hgp.out) Hgp.out) Hgp.out, (((Hb5.out.setCell Hp.out _).setCell Hp.out _).setCell Hp.out _).setCell Hp.out _⟩
        case rest =>
          obtain ⟨Ho, Hown, Hb⟩ := hcut
          clear Ho5 Hown5 Hb5
          have sane := last_sane Hsz.out.2.2
          have lcost := last_cost out
          have hlen := Hsz.out.1
          have hcost := Hsz.out.2.1
          have hgood := Hsz.out.2.2
          have hadd := @addCopy_new out k
          have hadd' := @addCopy_old out k
          have hbyte := @addByte_new out bx
          have hbyte' := @addByte_old out bx
          generalize hlo : lastO out = lo at *
          have Hlo := hide hlo
          clear hlo Hsz
          obtain ⟨lk, la, ln, ld⟩ := lo
          simp only at sane lcost hadd hadd' hbyte hbyte'
          obtain ⟨s0, s1, s2⟩ := sane
          have s2' : la + ln ≤ 1000 := by omega
          obtain ⟨o0, o1, o2, o3, g0, g1, g2, g3, olt⟩ := Ho.out
          simp only at o0 o1 o2 o3
          by_cases hk : 0 ≤ k
          · have Hgd := Hst
            rw [if_pos hk] at Hgd
            clear Hst hbyte hbyte'
            by_cases hkc : lk = kCopy
            · subst hkc
              unfold kCopy at o0
              by_cases hup : la + ln = k
              · subst hup
                obtain ⟨r, _, rfl, rfl, hac⟩ := hadd' ⟨rfl, rfl⟩
                have Hac := hide hac
                have Hlen := hide hlen
                have Hcost := hide hcost
                have Hgood := hide hgood
                clear hadd hadd' hac hlen hcost hgood Hlo Ho
                simp only [List.length_append, List.length_singleton] at *
                obtain ⟨g, c', e⟩ := own_form Hown.out
                obtain rfl : a9 = some ⟨g, 0, none⟩ := by simp only [Value.slice.injEq] at e; exact e.1
                obtain ⟨_, _, d2, _, fr, _, gb⟩ := own_last Hown.out
                have fz := fr (r.length * 4 + 2)
                have Hgb := hide gb
                obtain rfl : La = (r.length : Int) := by have := HLa.out; omega
                clear e fr gb
                go_wp2_with fail
                go_roundw
                case rel =>
                  refine ⟨E, addCopy _ (la + ln), rfl, hEs, ⟨?_, by rw [cost_addCopy]; have := Hcost.out; omega, good_copy Hgood.out hk (by omega)⟩, ?_, Hb.out.setCell Hgb.out _, Hgd⟩
                  · rw [Hac.out]; have := Hlen.out; simp; omega
                  · rw [Hac.out]
                    have h := own_setN Hown.out (ln + 1)
                    simpa [Hid] using h
                case measure => simp [intOf]; omega
              · have hup' : (la + ln == k) = false := by simpa using hup
                have Hnew := hide (hadd (fun h => hup h.2))
                clear hadd hadd' hup
                go_wp2_with (first | (at_builtin; refine wpList_append_own _ rfl (.tmp 76) (.tmp 79) 23 rfl w3.heap.size 44 i0 (.agg #[.string ⟨#[]⟩, .int .i64 0, .int .i64 0, .string ⟨#[]⟩]) 4 48 Tryz.underlying23 hi hz0 hz1 hz2 rfl (by decide) (.slice a9 out.length c9) out.length (ocs out) rfl ?own ⟨wc.heap.size, 0, none⟩ 1 1 [.string ⟨#[99, 111, 112, 121]⟩, .int .i64 k, .int .i64 1, .string ⟨#[]⟩] rfl rfl ?c1 ?c2 ?b1 ?b2 ?b3 ?next))
                case own => exact Hown.out.alloc _
                case c1 => intro j u hj; match j, hj with | 0, hj | 1, hj | 2, hj | 3, hj => simp at hj; subst hj; simp [Addr.add]
                case c2 => intro u hu; simp at hu; rcases hu with rfl | rfl | rfl | rfl <;> rfl
                case b1 => unfold maxLen; omega
                case b2 => omega
                case b3 => have := Hb.out.size; simp; omega
                case next =>
                  intro v5 w5 hown5 hgrow5 _
                  have hb5 : Below w3.heap.size wc w5 := ((Below.refl _ _).alloc Hb.out.size _).grown hgrow5 (by have := Hb.out.size; simp; omega) (fun k hk => (Hown.out.lt k hk).1)
                  have Hb5 := hide (Hb.out.trans hb5)
                  have Hown5 := hide hown5
                  clear hb5 hown5 hgrow5 Hown Hb Ho
                  go_wp2_with fail
                  go_roundw
                  case rel =>
                    refine ⟨E, addCopy out k, rfl, hEs, ⟨by have := Go.Proofs.YtcenohaadggdiacGreatDoor.len_addCopy out k; omega, by rw [cost_addCopy]; omega, good_copy hgood hk (by omega)⟩, ?_, Hb5.out, Hgd⟩
                    have h := Hown5.out
                    rw [show [.string ⟨#[99, 111, 112, 121]⟩, .int .i64 k, .int .i64 1, .string ⟨#[]⟩] = ocells (copyOp k 1) from rfl, ← ocs_snoc] at h
                    rw [Hnew.out]
                    simpa [Hid] using h
                  case measure => simp [intOf]; omega
            · have e1 := kind_copy hkc
              have Hnew := hide (hadd (fun h => hkc h.1))
              clear hadd hadd' hkc
              go_wp2_with (first | (at_builtin; refine wpList_append_own _ rfl (.tmp 76) (.tmp 79) 23 rfl w3.heap.size 44 i0 (.agg #[.string ⟨#[]⟩, .int .i64 0, .int .i64 0, .string ⟨#[]⟩]) 4 48 Tryz.underlying23 hi hz0 hz1 hz2 rfl (by decide) (.slice a9 out.length c9) out.length (ocs out) rfl ?own ⟨wc.heap.size, 0, none⟩ 1 1 [.string ⟨#[99, 111, 112, 121]⟩, .int .i64 k, .int .i64 1, .string ⟨#[]⟩] rfl rfl ?c1 ?c2 ?b1 ?b2 ?b3 ?next))
              case own => exact Hown.out.alloc _
              case c1 => intro j u hj; match j, hj with | 0, hj | 1, hj | 2, hj | 3, hj => simp at hj; subst hj; simp [Addr.add]
              case c2 => intro u hu; simp at hu; rcases hu with rfl | rfl | rfl | rfl <;> rfl
              case b1 => unfold maxLen; omega
              case b2 => omega
              case b3 => have := Hb.out.size; simp; omega
              case next =>
                intro v5 w5 hown5 hgrow5 _
                have hb5 : Below w3.heap.size wc w5 := ((Below.refl _ _).alloc Hb.out.size _).grown hgrow5 (by have := Hb.out.size; simp; omega) (fun k hk => (Hown.out.lt k hk).1)
                have Hb5 := hide (Hb.out.trans hb5)
                have Hown5 := hide hown5
                clear hb5 hown5 hgrow5 Hown Hb Ho
                go_wp2_with fail
                go_roundw
                case rel =>
                  refine ⟨E, addCopy out k, rfl, hEs, ⟨by have := Go.Proofs.YtcenohaadggdiacGreatDoor.len_addCopy out k; omega, by rw [cost_addCopy]; omega, good_copy hgood hk (by omega)⟩, ?_, Hb5.out, Hgd⟩
                  have h := Hown5.out
                  rw [show [.string ⟨#[99, 111, 112, 121]⟩, .int .i64 k, .int .i64 1, .string ⟨#[]⟩] = ocells (copyOp k 1) from rfl, ← ocs_snoc] at h
                  rw [Hnew.out]
                  simpa [Hid] using h
                case measure => simp [intOf]; omega
          · have Hgd := Hst
            rw [if_neg hk] at Hgd
            have hk' : k < 0 := by omega
            clear Hst hadd hadd' hk
            by_cases hkd : lk = kData
            · subst hkd
              obtain ⟨r, _, rfl, rfl, hab⟩ := hbyte' rfl
              have Hab := hide hab
              have Hlen := hide hlen
              have Hcost := hide hcost
              have Hgood := hide hgood
              have hld : ld.size ≤ 4000 := by omega
              have p1 := fun W => run_string_add_sum (P := Tryz.prog) W ld (s.extract x (x + 1)) (by rw [ByteArray.size_extract]; omega)
              clear hbyte hbyte' hab hlen hcost hgood Hlo Ho
              unfold kData at o0
              simp only [List.length_append, List.length_singleton] at *
              obtain ⟨g, c', e⟩ := own_form Hown.out
              obtain rfl : a9 = some ⟨g, 0, none⟩ := by simp only [Value.slice.injEq] at e; exact e.1
              obtain ⟨_, _, _, d3, fr, _, gb⟩ := own_last Hown.out
              have fz := fr (r.length * 4 + 3)
              have Hgb := hide gb
              obtain rfl : La = (r.length : Int) := by have := HLa.out; omega
              clear e fr gb
              go_wp2_with fail
              have HK : Hid ((wc.setCell ⟨g, r.length * 4 + 3, none⟩ (.string (ld ++ s.extract x (x + 1)))).drew.cell? ⟨p, 3, none⟩ = some (.string ld)) := by
                have hgp : g < p := Hgp.out g rfl
                show (wc.setCell _ _).cell? _ = _
                rw [World.cell?_setCell_other _ _ _ _ (by simp <;> omega)]
                exact o3
              clear HFn HV3 Hq3 Hb3 Hne HE hkl Hk hol
              have HO := hide (own_setD Hown.out (ld ++ s.extract x (x + 1)))
              generalize hm : r.length + 1 = m at *
              have hlm : (r.length : Int) < m := by omega
              have Hm := hide hm
              clear hm Hown
              have hx0 : (x : Int) ≤ (x : Int) + 1 := by omega
              have hxx : (0 : Int) ≤ (x : Int) := by omega
              go_region_held3 (fun w' => w'.cell? ⟨p, 3, none⟩ = some (.string ld)) (first | exact o3 | exact HK.out) (fail)
              all_goals
                go_wp2_with fail
                go_roundw
                case rel =>
                  refine ⟨x + 1, addByte _ bx, by go_num, by omega, ⟨?_, by rw [cost_addByte]; have := Hcost.out; omega, good_byte Hgood.out bx⟩, ?_, ?_, Hgd⟩
                  · rw [Hab.out]; have := Hlen.out; have := Hm.out; simp; omega
                  · rw [Hab.out, ← Hby.out, List.length_append, List.length_singleton, Hm.out]
                    exact HO.out
                  · exact (Hb.out.setCell (p := ⟨g, r.length * 4 + 3, none⟩) Hgb.out _).drew
                case measure => simp [intOf]; omega
            · have e1 := kind_data hkd
              have Hnew := hide (hbyte hkd)
              clear hbyte hbyte' hkd
              go_wp2_with (first | (at_builtin; refine wpList_append_own _ rfl (.tmp 97) (.tmp 104) 23 rfl w3.heap.size 44 i0 (.agg #[.string ⟨#[]⟩, .int .i64 0, .int .i64 0, .string ⟨#[]⟩]) 4 48 Tryz.underlying23 hi hz0 hz1 hz2 rfl (by decide) (.slice a9 out.length c9) out.length (ocs out) rfl ?own ⟨wc.heap.size, 0, none⟩ 1 1 [.string ⟨#[100, 97, 116, 97]⟩, .int .i64 0, .int .i64 0, .string (s.extract x (x + 1))] rfl rfl ?c1 ?c2 ?b1 ?b2 ?b3 ?next))
              case own => exact Hown.out.alloc _
              case c1 => intro j u hj; match j, hj with | 0, hj | 1, hj | 2, hj | 3, hj => simp at hj; subst hj; simp [Addr.add]
              case c2 => intro u hu; simp at hu; rcases hu with rfl | rfl | rfl | rfl <;> rfl
              case b1 => unfold maxLen; omega
              case b2 => omega
              case b3 => have := Hb.out.size; simp; omega
              case next =>
                intro v5 w5 hown5 hgrow5 _
                have hb5 : Below w3.heap.size wc w5 := ((Below.refl _ _).alloc Hb.out.size _).grown hgrow5 (by have := Hb.out.size; simp; omega) (fun k hk => (Hown.out.lt k hk).1)
                have Hb5 := hide (Hb.out.trans hb5)
                have Hown5 := hide hown5
                clear hb5 hown5 hgrow5 Hown Hb Ho
                go_wp2_with fail
                go_roundw
                case rel =>
                  refine ⟨x + 1, addByte out bx, by go_num, by omega, ⟨by have := len_addByte out bx; omega, by rw [cost_addByte]; omega, good_byte hgood bx⟩, ?_, Hb5.out, Hgd⟩
                  have h := Hown5.out
                  rw [Hby.out, show [.string ⟨#[100, 97, 116, 97]⟩, .int .i64 0, .int .i64 0, .string (str [bx])] = ocells (dataOp [bx]) from rfl, ← ocs_snoc] at h
                  rw [Hnew.out]
                  simpa [Hid] using h
                case measure => simp [intOf]; omega
    · have hxe : x = s.size := by omega
      subst hxe
      have hDo : out = D := by have := HI.out; rw [List.drop_eq_nil_of_le (by rw [lenL]; exact Nat.le_refl _), gd] at this; exact this
      subst hDo
      clear HI HFd
      obtain ⟨a9, c9, rfl⟩ : ∃ a9 c9, u9 = .slice a9 out.length c9 := by
        rcases own_forms Hown.out with ⟨rfl, e⟩ | ⟨g, c, rfl⟩
        · exact ⟨none, 0, by rw [e]⟩
        · exact ⟨_, _, rfl⟩
      go_wp2_with fail
      refine (HFn.out _).mono ?_
      rintro r w4 ⟨rfl, hb4⟩
      have hq4 := (Hq3.out.below Hb.out Hne.out).below hb4 (Nat.lt_of_lt_of_le Hne.out Hb.out.size)
      have Hq4 := hide hq4
      have Hown4 := hide (own_below Hown.out hb4)
      have Hb4 := hide (bthen (Hb3.out.trans (Hb.out.mono (Nat.le_of_lt Hne.out))) hb4)
      clear hb4 Hown Hb
      obtain ⟨q0, q1, p0, p1, qlt⟩ := hq4
      go_wp2_with fail
      (try simp only [Exit.inBlock, Exit.then])
      refine bodyPost_ret (v := .tuple #[.slice a9 out.length c9, .agg #[.int .i64 0, .int .i64 (-1)]]) ?_ rfl ⟨⟨_, rfl, own_mono (own_setOther2 (own_setOther2 Hown4.out Hne.out) Hne.out) (Nat.le_of_lt Hne.out)⟩, (Hb4.out.setCell (by simp) _).setCell (by simp) _⟩
      obtain ⟨x0, x1, _, _, _⟩ := Hq4.out.set 0 (-1)
      simp only [results, show Tryz.f8.results = #[.tmp 6, .cell 7 32] from rfl]
      go_simp
end Go.Proofs.YtcenohaadggdiacGreatDoor
