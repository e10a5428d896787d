/-
  Contracts of slices.DeleteFunc (at files, by a name), files.Drop over this dump.
-/
import Derived.Test.YtbflmkjlpopeaadDoorJoin12
import Derived.Test.YtbflmkjlpopeaadDoorFClone
namespace Go.Proofs.YtbflmkjlpopeaadDoor
open Go.RowKit
open Go.Files (Fl dropF)

/-- 'clear(s)' at elements of two cells. -/
theorem clear2 (w : World) (ty : TypeId) (b o n c : Nat) (hn : 0 < n)
    (hc : ∀ j, j < n * 2 → (w.cell? ⟨b, o + j, none⟩).isSome = true) (hf : ∀ j, j < n * 2 → w.frozen? ⟨b, o + j, none⟩ = false) :
    (Builtin.clear_ #[32] ty #[.slice (some ⟨b, o, none⟩) n c]).run Tryd.prog w = .ok (.tuple #[]) (w.setCells b o (List.replicate (n * 2) (.string ⟨#[]⟩))) := by
  have hzc : (Builtin.zeroCells (Value.agg #[.string ⟨#[]⟩, .string ⟨#[]⟩]).cells n).toList = List.replicate (n * 2) (.string ⟨#[]⟩) := by
    simp [Builtin.zeroCells, Value.cells]
    apply List.ext_getElem
    · simp
    · intro i h1 h2
      simp
      rcases (show i % 2 = 0 ∨ i % 2 = 1 by omega) with e | e <;> rw [e] <;> rfl
  have hst := run_storeCells_cells (P := Tryd.prog) b o (List.replicate (n * 2) (.string ⟨#[]⟩)) 0 w (by simpa using hc) (by simpa using hf) (by intro v hv'; rw [List.eq_of_mem_replicate hv']; rfl)
  simp only [Nat.add_zero] at hst
  obtain ⟨m, rfl⟩ : ∃ m, n = m + 1 := ⟨n - 1, by omega⟩
  simp [Builtin.clear_, run_underlying Tryd.underlying32, Tryd.zeroValue62, hzc, hst]

/-- What the row holds meanwhile: what is kept of the files up to j, then whatever, then the files from j on. -/
structure Gone (l : List Fl) (a : ByteArray) (i j : Nat) (d : List Fl) : Prop where
  len : d.length = l.length
  lt : i < j
  le : j ≤ l.length
  kept : d.take i = dropF (l.take j) a
  high : ∀ t (h : t < l.length), j ≤ t → d[t]'(by omega) = l[t]
theorem Gone.keep {l d : List Fl} {a : ByteArray} {i j : Nat} (h : Gone l a i j d) (hj : j < l.length) (hx : l[j].name ≠ a) : Gone l a (i + 1) (j + 1) (d.set i l[j]) := by
  have hi := h.lt
  have hl := h.len
  refine ⟨by rw [List.length_set]; exact hl, by omega, by omega, ?_, fun t ht hjt => ?_⟩
  · rw [dropF_snoc l j hj, if_neg hx, ← h.kept]
    rw [List.take_succ_eq_append_getElem (by rw [List.length_set]; omega), List.getElem_set_self]
    congr 1
    rw [List.take_set_of_le (Nat.le_refl _)]
  · rw [List.getElem_set_ne (by omega)]
    exact h.high t ht (by omega)
theorem Gone.skip {l d : List Fl} {a : ByteArray} {i j : Nat} (h : Gone l a i j d) (hj : j < l.length) (hx : l[j].name = a) : Gone l a i (j + 1) d :=
  ⟨h.len, by have := h.lt; omega, by omega, by rw [dropF_snoc l j hj, if_pos hx]; exact h.kept, fun t ht hjt => h.high t ht (by omega)⟩
theorem Gone.start {l : List Fl} {a : ByteArray} {k : Nat} (hk : k < l.length) (he : l[k].name = a) (hn : ∀ j (hj : j < l.length), j < k → l[j].name ≠ a) : Gone l a k (k + 1) l := by
  refine ⟨rfl, by omega, by omega, ?_, fun _ _ _ => rfl⟩
  rw [dropF_snoc l k hk, if_pos he]
  symm
  unfold dropF
  rw [List.filter_eq_self]
  intro x hx
  obtain ⟨j, hj, rfl⟩ := List.getElem_of_mem hx
  rw [List.length_take] at hj
  rw [List.getElem_take]
  simpa using hn j (by omega) (by omega)

set_option maxHeartbeats 4000000 in
set_option maxRecDepth 100000 in
theorem deleteFunc_none (v : Value) (l : List Fl) (a : ByteArray) (q : Nat) (w : World) (hv : FRow w v l) (hl : l.length ≤ 1000000) (hq : w.cell? ⟨q, 0, none⟩ = some (.string a)) (h2 : ∀ j (hj : j < l.length), l[j].name ≠ a) (h1 : idxF a l 0 = -1) :
    Calls Tryd.prog 44 #[v, .func (.func 65) #[] #[.pointer (some ⟨q, 0, none⟩)]] w fun r w' => (∃ u, r = .returned u ∧ FRow w' u (dropF l a)) ∧ Below w.heap.size w w' := by
  have HV := hide hv
  have HI := hide (indexFunc_ok v l a q w hv hl hq)
  rw [h1] at HI
  have Hd := hide (Go.Files.dropF_none h2)
  obtain ⟨s, c, rfl, _⟩ := hv
  clear hq h2 h1
  go_enter Tryd.func44, Tryd.ntmps44
  go_wp2_with fail
  refine HI.out.mono ?_
  rintro r w1 ⟨rfl, hb1⟩
  have Hb1 := hide hb1
  clear hb1
  go_wp2
  go_ret
  exact ⟨⟨_, rfl, by rw [Hd.out]; exact HV.out.below Hb1.out⟩, Hb1.out⟩

set_option maxHeartbeats 4000000 in
set_option maxRecDepth 100000 in
theorem deleteFunc_some (g q cap base : Nat) (l : List Fl) (a : ByteArray) (w : World) (hH : Held g w l) (hl : l.length ≤ 1000000) (hcap : l.length ≤ cap) (hb : base ≤ g) (hq : w.cell? ⟨q, 0, none⟩ = some (.string a)) (hqg : q ≠ g)
    (k : Nat) (hk : k < l.length) (h1 : idxF a l 0 = (k : Int)) (h2 : l[k].name = a) (h3 : ∀ j (hj : j < l.length), j < k → l[j].name ≠ a) :
    Calls Tryd.prog 44 #[.slice (some ⟨g, 0, none⟩) l.length cap, .func (.func 65) #[] #[.pointer (some ⟨q, 0, none⟩)]] w fun r w' => (∃ u, r = .returned u ∧ FRow w' u (dropF l a)) ∧ Below base w w' := by
  have HI := hide (indexFunc_ok (.slice (some ⟨g, 0, none⟩) l.length cap) l a q w hH.row_all hl hq)
  rw [h1] at HI
  have hgw := hH.lt (by omega)
  have HH := hide hH
  have HQ := hide hq
  have hl' : (l.length : Int) ≤ 1000000 := by omega
  have hkb : ((k : Int) == -1) = false := beq_eq_false_iff_ne.2 (by omega)
  have HS := hide (Gone.start hk h2 h3)
  have hqw := World.block_lt_of_cell? _ _ hq
  simp only at hqw
  clear hH hq h1 h2 h3
  go_enter Tryd.func44, Tryd.ntmps44
  go_wp2_with fail
  refine HI.out.mono ?_
  rintro r w1 ⟨rfl, hb1⟩
  have Hb1 := hide hb1
  clear hb1 HI
  go_wp2_with fail
  go_loopw [5, 6, 7] (fun t5 t6 _ wr => ∃ (i j : Nat) (d : List Fl), t5 = .int .i64 i ∧ t6 = .int .i64 j ∧ j ≤ l.length ∧ i < j ∧ d.length = l.length ∧ Hid (Gone l a i j d) ∧ Hid (Held g wr d) ∧ Hid (wr.cell? ⟨q, 0, none⟩ = some (.string a)) ∧ Hid (Below base w wr) ∧ w.heap.size ≤ wr.heap.size) (fun _ t6 _ _ => l.length - (intOf t6).toNat)
  case atStart => exact ⟨k, k + 1, l, rfl, by go_num, by omega, by omega, rfl, HS.out, HH.out.below Hb1.out hgw, (Hb1.out.cell hqw).trans HQ.out, Hb1.out.mono (by omega), Hb1.out.size⟩
  case round =>
    obtain ⟨i, j, d, rfl, rfl, hj, hij, hdl, HG, HHd, HQ2, Hb, hsz⟩ := hrel
    clear HH HQ HS Hb1
    by_cases hlt : j < l.length
    · have hlt' : (j : Int) < l.length := by omega
      obtain ⟨c0, c1⟩ := HHd.out.at_ j (by omega)
      obtain ⟨e0, e1⟩ := HHd.out.at_ i (by omega)
      have hhi := HG.out.high j hlt (Nat.le_refl _)
      rw [hhi] at c0 c1
      have HN := hide (fun W (hW : W.cell? ⟨q, 0, none⟩ = some (.string a)) => named1_ok l[j] a q W hW)
      have HGk := hide (HG.out.keep hlt)
      have HGs := hide (HG.out.skip hlt)
      clear hhi
      generalize l[j] = x at *
      generalize d[i] = y at *
      have hgr : g < wr.heap.size := by omega
      have hqr : q < wr.heap.size := by omega
      have hba : Below wr.heap.size wr (wr.alloc (.cells #[.string x.name, .string x.data] 62)) := (Below.refl _ _).alloc (Nat.le_refl _) _
      have Hba := hide hba
      have hp0 : (wr.alloc (.cells #[.string x.name, .string x.data] 62)).cell? ⟨wr.heap.size, 0, none⟩ = some (.string x.name) := by simp
      have hp1 : (wr.alloc (.cells #[.string x.name, .string x.data] 62)).cell? ⟨wr.heap.size, 1, none⟩ = some (.string x.data) := by simp
      have Hp0 := hide hp0
      have Hp1 := hide hp1
      have hps : wr.heap.size < (wr.alloc (.cells #[.string x.name, .string x.data] 62)).heap.size := by simp
      have HQa : Hid ((wr.alloc (.cells #[.string x.name, .string x.data] 62)).cell? ⟨q, 0, none⟩ = some (.string a)) := (hba.cell hqr).trans HQ2.out
      have Hps := hide hps
      clear hba hp0 hp1 hps
      by_cases hx : x.name = a
      · rw [decide_eq_true hx] at HN
        have HG2 := hide (HGs.out hx)
        clear HGk HGs HG hx
        go_wp2_with fail
        refine (HN.out _ HQa.out).mono ?_
        rintro r w2 ⟨rfl, hb2⟩
        have Hb2 := hide (bthen Hba.out hb2)
        clear hb2 HN
        go_wp2_with fail
        go_roundw
        case rel => exact ⟨i, j + 1, d, rfl, by go_num, by omega, by omega, hdl, HG2.out, HHd.out.below Hb2.out hgr, (Hb2.out.cell hqr).trans HQ2.out, Hb.out.trans (Hb2.out.mono (by omega)), by have := Hb2.out.size; omega⟩
        case measure => simp [intOf]; omega
      · rw [decide_eq_false hx] at HN
        have HG2 := hide (HGk.out hx)
        clear HGk HGs HG hx
        go_wp2_with fail
        refine (HN.out _ HQa.out).mono ?_
        rintro r w2 ⟨rfl, hb2⟩
        have Hb2 := hide (bthen Hba.out hb2)
        have k0 := (hb2.cell (p := ⟨wr.heap.size, 0, none⟩) Hps.out).trans Hp0.out
        have k1 := (hb2.cell (p := ⟨wr.heap.size, 1, none⟩) Hps.out).trans Hp1.out
        have hH2 := HHd.out.below Hb2.out hgr
        have HH2 := hide hH2
        have g0 := (Hb2.out.cell (p := ⟨g, i * 2, none⟩) hgr).trans e0
        have g1 := (Hb2.out.cell (p := ⟨g, i * 2 + 1, none⟩) hgr).trans e1
        have f0 := hH2.fz (i * 2)
        have f1 := hH2.fz (i * 2 + 1)
        have HQ3 : Hid (w2.cell? ⟨q, 0, none⟩ = some (.string a)) := (Hb2.out.cell hqr).trans HQ2.out
        have Hb3 : Hid (Below base w w2) := Hb.out.trans (Hb2.out.mono (by omega))
        have hsz2 : w.heap.size ≤ w2.heap.size := by have := Hb2.out.size; omega
        have hil : (i : Int) < l.length := by omega
        clear hb2 HN hH2 e0 e1 c0 c1 Hp0 Hp1 HHd HQa HQ2 Hba Hb2 Hb
        go_wp2_with fail
        go_roundw
        case rel => exact ⟨i + 1, j + 1, d.set i x, by go_num, by go_num, by omega, by omega, by rw [List.length_set]; exact hdl, HG2.out, HH2.out.set i (by omega) x, by
          show World.cell? _ _ = _
          rw [World.cell?_setCell_other _ _ _ _ (by simp; try omega), World.cell?_setCell_other _ _ _ _ (by simp; try omega)]; exact HQ3.out, (Hb3.out.setCell hb _).setCell hb _, by simpa using hsz2⟩
        case measure => simp [intOf]; omega
    · have hle : (l.length : Int) ≤ (j : Int) := by omega
      obtain rfl : j = l.length := by omega
      have hci : ¬ (cap = i) := by omega
      have hil : (i : Int) ≤ l.length := by omega
      have hiN : i ≤ l.length := by omega
      have hHd := HHd.out
      have hcl : ∀ ty, (Builtin.clear_ #[32] ty #[.slice (some ⟨g, i * 2, none⟩) (l.length - i) (cap - i)]).run Tryd.prog wr = .ok (.tuple #[]) (wr.setCells g (i * 2) (List.replicate ((l.length - i) * 2) (.string ⟨#[]⟩))) :=
        fun ty => clear2 wr ty g (i * 2) (l.length - i) (cap - i) (by omega) (fun t ht => by
          obtain ⟨s, hs⟩ : ∃ s, i * 2 + t = s * 2 ∨ i * 2 + t = s * 2 + 1 := ⟨(i * 2 + t) / 2, by omega⟩
          obtain ⟨m0, m1⟩ := hHd.at_ s (by omega)
          rcases hs with e | e <;> rw [e]
          · rw [m0]; rfl
          · rw [m1]; rfl) (fun t _ => hHd.fz _)
      have Hrow : Hid (FRow (wr.setCells g (i * 2) (List.replicate ((l.length - i) * 2) (.string ⟨#[]⟩))) (.slice (some ⟨g, 0, none⟩) i cap) (dropF l a)) := by
        have h := (hHd.rest i (by omega) (List.replicate ((l.length - i) * 2) (.string ⟨#[]⟩))).row_all (cap := cap)
        have hk := HG.out.kept
        rw [List.take_length] at hk
        rw [hk] at h
        have hlen : (dropF l a).length = i := by rw [← hk, List.length_take]; omega
        rw [hlen] at h
        exact h
      have Hbb : Hid (Below base w (wr.setCells g (i * 2) (List.replicate ((l.length - i) * 2) (.string ⟨#[]⟩)))) := below_cells hb _ _ Hb.out
      clear hHd HHd HG HQ2 Hb
      go_wp2
      go_ret
      exact ⟨⟨_, rfl, Hrow.out⟩, Hbb.out⟩

set_option maxHeartbeats 1000000 in
set_option maxRecDepth 100000 in
theorem drop_ok (v : Value) (l : List Fl) (a : ByteArray) (w : World) (hv : FRow w v l) (hl : l.length ≤ 1000) :
    Calls Tryd.prog 23 #[v, .string a] w fun r w' => (∃ u, r = .returned u ∧ FRow w' u (dropF l a)) ∧ Below w.heap.size w w' := by
  have HC := hide (clone_ok v l w hv hl)
  have HA := hide (fun W => named_ok a W)
  have HD : Hid (∀ u q W1 W, W1.ownsRow w.heap.size 62 2 u l.length (fcs l) → Below W1.heap.size W1 W → W.cell? ⟨q, 0, none⟩ = some (.string a) → W1.heap.size ≤ q → w.heap.size ≤ W1.heap.size → Calls Tryd.prog 44 #[u, .func (.func 65) #[] #[.pointer (some ⟨q, 0, none⟩)]] W fun r w' => (∃ u, r = .returned u ∧ FRow w' u (dropF l a)) ∧ Below w.heap.size W w') := by
    intro u q W1 W hown hb hq hq1 hw1
    rcases idxF_spec a l 0 with ⟨h1, h2⟩ | ⟨k, hk, h1, h2, h3⟩
    · exact (deleteFunc_none u l a q W ((Row2.of_own hown).below hb) (by omega) hq h2 h1).mono fun _ _ ⟨h, hb'⟩ => ⟨h, hb'.mono (by have := hb.size; omega)⟩
    · rw [Nat.zero_add] at h1
      rcases hown.2 with ⟨_, h0⟩ | ⟨g, cap, cur, rfl, hg, hgb, hcap, _, _, _⟩
      · omega
      · have hH := Held.of_own hown
        have hgl := hH.lt (by omega)
        exact deleteFunc_some g q cap w.heap.size l a W (hH.below hb hgl) (by omega) hcap hg hq (by omega) k hk h1 h2 h3
  obtain ⟨s, c, rfl, _⟩ := hv
  go_enter Tryd.func23, Tryd.ntmps23
  go_wp2_with fail
  refine HC.out.mono ?_
  rintro r w1 ⟨⟨u, rfl, hown⟩, hb1⟩
  have Hown := hide hown
  have Hb1 := hide hb1
  clear hown hb1 HC
  go_wp2_with fail
  refine (HA.out _).mono ?_
  rintro r w2 ⟨⟨q, rfl, hq, hq1⟩, hb2⟩
  have Hq := hide hq
  have Hq1 := hide hq1
  have Hb2 := hide hb2
  clear hq hq1 hb2 HA
  go_wp2_with fail
  refine (HD.out u q w1 _ Hown.out Hb2.out Hq.out Hq1.out Hb1.out.size).mono ?_
  rintro r w3 ⟨⟨x, rfl, hx⟩, hb3⟩
  have Hx := hide hx
  have Hb3 : Hid (Below w.heap.size w w3) := (bthen Hb1.out Hb2.out).trans hb3
  clear hx hb3 HD
  go_wp2
  go_ret
  exact ⟨⟨_, rfl, Hx.out⟩, Hb3.out⟩

theorem filesDrop_ok (v : Value) (l : List Fl) (n : ByteArray) (W : World) (hv : FRow W v l) (hf : Fair l) : Calls Tryd.prog 23 #[v, .string n] W fun r w' => (∃ u, r = .returned u ∧ FRow w' u (dropF l n)) ∧ Below W.heap.size W w' :=
  drop_ok v l n W hv (by have := hf.1; omega)
end Go.Proofs.YtbflmkjlpopeaadDoor
