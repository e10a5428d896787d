/-
  Contract of files.planned over this dump.
-/
import Derived.Test.YtbflmkjlpopeaadGreatDoorFPlan
namespace Go.Proofs.YtbflmkjlpopeaadGreatDoor
open Go.RowKit
open Go.Files (Ln St lt planM kSend kKeep kDrop)

def lenV : Value → Nat
  | .slice _ n _ => n
  | _ => 0
theorem ahead_cons {F T : List Ln} (h : aheadL F T = true) : ∃ f r, F = f :: r ∧ ∀ x ∈ T.head?, lt f.name x.name = true := by
  match F, T, h with
  | f :: r, [], _ => exact ⟨f, r, rfl, fun x hx => by simp at hx⟩
  | f :: r, x :: q, h => exact ⟨f, r, rfl, fun y hy => by simp at hy; subst hy; exact h⟩
theorem ahead_none {F T : List Ln} (h : aheadL F T = false) (k : aheadL T F = false) : (F = [] ∧ T = []) ∨ ∃ f r x q, F = f :: r ∧ T = x :: q ∧ lt f.name x.name = false ∧ lt x.name f.name = false := by
  match F, T, h, k with
  | [], [], _, _ => exact Or.inl ⟨rfl, rfl⟩
  | f :: r, x :: q, h, k => exact Or.inr ⟨f, r, x, q, rfl, rfl, h, k⟩
theorem scs_one (k n : ByteArray) : ∀ u ∈ ([.string k, .string n] : List Value), u.oneCell' = true := by
  intro u hu
  simp at hu
  rcases hu with rfl | rfl <;> rfl

theorem LRow.cut {w : World} {b o cap : Nat} {r : List Ln} (h : (cap ≠ 1 → LRow w (.slice (some ⟨b, o + 3, none⟩) r.length (cap - 1)) r) ∧ (cap = 1 → r = []) ∧ r.length + 1 ≤ cap) :
    LRow w (.slice (if cap = 1 then some ⟨b, o, none⟩ else some ⟨b, o + 3, none⟩) r.length (cap - 1)) r := by
  by_cases h1 : cap = 1
  · obtain rfl := h.2.1 h1
    subst h1
    exact ⟨_, 0, rfl, fun h => by simp at h⟩
  · rw [if_neg h1]
    exact h.1 h1
theorem scs_snoc {w : World} {base : Nat} {v : Value} {T : TypeId} {done : List St} {k n : ByteArray} (h : w.ownsRow base T 2 v (done.length + 1) (scs done ++ [.string k, .string n])) : w.ownsRow base T 2 v (done ++ [(⟨k, n⟩ : St)]).length (scs (done ++ [(⟨k, n⟩ : St)])) := by
  rw [List.length_append, show scs (done ++ [⟨k, n⟩]) = scs done ++ [.string k, .string n] from cs2_snoc done ⟨k, n⟩]
  exact h

theorem own_drewN {w : World} {base size n : Nat} {e : TypeId} {v : Value} {xs : List Value} (k : Nat) (h : w.ownsRow base e size v n xs) : (w.drewN k).ownsRow base e size v n xs := h

set_option maxHeartbeats 4000000 in
set_option maxRecDepth 100000 in
theorem planned_ok (u v : Value) (F T : List Ln) (w : World) (hu : LRow w u F) (hv : LRow w v T) (hF : F.length ≤ 100) (hT : T.length ≤ 100) :
    Calls Tryz.prog 33 #[u, v] w fun r w' => (∃ p, r = .returned p ∧ SRow w' p (planM F T)) ∧ Below w.heap.size w w' := by
  obtain ⟨i0, hi, hz0, hz1, hz2⟩ := info_parts Tryz.info49
  have Hu := hide hu
  have Hv := hide hv
  generalize hR : planM F T = R
  have HR := hide hR
  clear hR hu hv
  go_enter Tryz.func33, Tryz.ntmps33
  go_wp2_with fail
  go_loopw [0, 1, 5] (fun t0 t1 t5 wr => ∃ (F' T' : List Ln) (done : List St), Hid (LRow w t0 F') ∧ Hid (LRow w t1 T') ∧ done.length + (F'.length + T'.length) ≤ 200 ∧ Hid (wr.ownsRow w.heap.size 49 2 t5 done.length (scs done)) ∧ Hid (done ++ planM F' T' = R) ∧ Hid (Below w.heap.size w wr)) (fun t0 t1 _ _ => (lenV t0) + (lenV t1))
  case atStart => exact ⟨F, T, [], Hu.out, Hv.out, by simp; omega, World.ownsRow_nil _ _ _ _, by simpa [Hid] using HR.out, Below.refl _ _⟩
  case round =>
    clear HR Hu Hv
    obtain ⟨F', T', done, HF, HT, hn, Hown, Hpl, Hb⟩ := hrel
    have HA := hide (fun (W : World) (h : Below w.heap.size w W) => aheadOf_ok u0 u1 F' T' W (HF.out.below h) (HT.out.below h) (by omega) (by omega))
    have HA2 := hide (fun (W : World) (h : Below w.heap.size w W) => aheadOf_ok u1 u0 T' F' W (HT.out.below h) (HF.out.below h) (by omega) (by omega))
    obtain ⟨a0, c0, e0, hF0⟩ := HF.out
    subst e0
    obtain ⟨a1, c1, e1, hT0⟩ := HT.out
    subst e1
    generalize F'.length + c0 = cap0 at *
    generalize T'.length + c1 = cap1 at *
    have HF0 := hide hF0
    have HT0 := hide hT0
    clear hF0 hT0
    have hFi : (F'.length : Int) ≤ 200 := by omega
    have hTi : (T'.length : Int) ≤ 200 := by omega
    cases ha : aheadL F' T' with
    | true =>
      obtain ⟨f, r, rfl, hh⟩ := ahead_cons ha
      rw [ha] at HA
      obtain ⟨b, o, rfl, hc⟩ := HF0.out (by simp)
      have d0 := (hc 0 (by simp)).1
      simp only [List.getElem_cons_zero, Nat.zero_mul, Nat.add_zero] at d0
      have Hp2 := hide (Go.Files.planM_send (r := r) hh)
      have hl0 : (0 : Int) < ((f :: r).length : Int) := by simp
      have hd0 : decide (0 < (f :: r).length) = true := by simp
      have Hlb : Hid (b < w.heap.size) := World.block_lt_of_cell? _ _ d0
      have Htl := hide (LRow.tail HF.out)
      clear HA2 hc HF0 HT0 hh ha HF
      go_wp2_with fail
      refine (HA.out _ Hb.out).mono ?_
      rintro r1 w1 ⟨rfl, hb1⟩
      have g0 := (hb1.cell (p := ⟨b, o, none⟩) (Nat.lt_of_lt_of_le Hlb.out Hb.out.size)).trans ((Hb.out.cell (p := ⟨b, o, none⟩) Hlb.out).trans d0)
      have Hb1 := hide (bthen Hb.out hb1)
      have Hown1 := hide (own_below Hown.out hb1)
      have Hs1 : Hid (w.heap.size ≤ w1.heap.size) := Hb1.out.size
      clear hb1 Hown d0 HA
      go_wp2_with (first | (at_builtin; refine wpList_append_own _ rfl (.tmp 37) (.tmp 43) 42 rfl w.heap.size 49 i0 (.agg #[.string ⟨#[]⟩, .string ⟨#[]⟩]) 2 32 Tryz.underlying42 hi hz0 hz1 hz2 rfl (by decide) u5 done.length (scs done) rfl (Hown1.out.alloc _) ⟨w1.heap.size, 0, none⟩ 1 1 [.string kSend, .string f.name] rfl rfl (World.news_of_block (cs := #[.string kSend, .string f.name]) (t := 49) (fr := (0, 0)) (heap_alloc_new w1 _)) (scs_one _ _) (by unfold maxLen; simp at hn; omega) (by simp at hn; omega) (by have := Hs1.out; simp; omega) ?_; intro v5 w5 hown5 hgrow5 _; have Hb5 := hide (Hb1.out.trans ((((Below.refl w.heap.size w1).alloc Hs1.out _)).grown hgrow5 (by have := Hs1.out; simp; omega) (fun k hk => (Hown1.out.lt k hk).1))); have Hown5 := hide hown5; clear hown5 hgrow5))
      exact ⟨⟨r, T', done ++ [(⟨kSend, f.name⟩ : St)], LRow.cut Htl.out, HT.out, by simp at hn ⊢; omega, scs_snoc Hown5.out, by show _ = _; rw [← Hpl.out, Hp2.out, List.append_assoc]; rfl, Hb5.out⟩, by simp [lenV]⟩
    | false =>
      rw [ha] at HA
      cases hb : aheadL T' F' with
      | true =>
        obtain ⟨x, q, rfl, hh⟩ := ahead_cons hb
        rw [hb] at HA2
        obtain ⟨b, o, rfl, hc⟩ := HT0.out (by simp)
        have d0 := (hc 0 (by simp)).1
        simp only [List.getElem_cons_zero, Nat.zero_mul, Nat.add_zero] at d0
        have Hp2 := hide (Go.Files.planM_drop (q := q) hh)
        have hl0 : (0 : Int) < ((x :: q).length : Int) := by simp
        have hd0 : decide (0 < (x :: q).length) = true := by simp
        have Hlb : Hid (b < w.heap.size) := World.block_lt_of_cell? _ _ d0
        have Htl := hide (LRow.tail HT.out)
        clear hc HF0 HT0 hh ha hb HT
        cases F'
        all_goals
          go_wp2_with fail
          refine (HA.out _ Hb.out).mono ?_
          rintro r1 w1 ⟨rfl, hb1⟩
          have g0 := (hb1.cell (p := ⟨b, o, none⟩) (Nat.lt_of_lt_of_le Hlb.out Hb.out.size)).trans ((Hb.out.cell (p := ⟨b, o, none⟩) Hlb.out).trans d0)
          have Hb1 := hide (bthen Hb.out hb1)
          have Hown1 := hide (own_below Hown.out hb1)
          have Hs1 : Hid (w.heap.size ≤ w1.heap.size) := Hb1.out.size
          clear hb1 Hown d0 HA
          go_wp2_with fail
          refine (HA2.out _ Hb1.out).mono ?_
          rintro r1 w2 ⟨rfl, hb2⟩
          have g0 := (hb2.cell (p := ⟨b, o, none⟩) (Nat.lt_of_lt_of_le Hlb.out Hs1.out)).trans g0
          have Hb2 := hide (bthen Hb1.out hb2)
          have Hown2 := hide (own_below Hown1.out hb2)
          have Hs2 : Hid (w.heap.size ≤ w2.heap.size) := Hb2.out.size
          clear hb2 Hown1 Hb1 Hs1 HA2
          go_wp2_with (first | (at_builtin; refine wpList_append_own _ rfl (.tmp 51) (.tmp 57) 42 rfl w.heap.size 49 i0 (.agg #[.string ⟨#[]⟩, .string ⟨#[]⟩]) 2 32 Tryz.underlying42 hi hz0 hz1 hz2 rfl (by decide) u5 done.length (scs done) rfl (Hown2.out.alloc _) ⟨w2.heap.size, 0, none⟩ 1 1 [.string kDrop, .string x.name] rfl rfl (World.news_of_block (cs := #[.string kDrop, .string x.name]) (t := 49) (fr := (0, 0)) (heap_alloc_new w2 _)) (scs_one _ _) (by unfold maxLen; simp at hn; omega) (by simp at hn; omega) (by have := Hs2.out; simp; omega) ?_; intro v5 w5 hown5 hgrow5 _; have Hb5 := hide (Hb2.out.trans ((((Below.refl w.heap.size w2).alloc Hs2.out _)).grown hgrow5 (by have := Hs2.out; simp; omega) (fun k hk => (Hown2.out.lt k hk).1))); have Hown5 := hide hown5; clear hown5 hgrow5))
          exact ⟨⟨_, q, done ++ [(⟨kDrop, x.name⟩ : St)], HF.out, LRow.cut Htl.out, by simp at hn ⊢; omega, scs_snoc Hown5.out, by show _ = _; rw [← Hpl.out, Hp2.out, List.append_assoc]; rfl, Hb5.out⟩, by simp [lenV]⟩
      | false =>
        rw [hb] at HA2
        rcases ahead_none ha hb with ⟨rfl, rfl⟩ | ⟨f, r, x, q, rfl, rfl, h1, h2⟩
        · have hd : R = done := by rw [← Hpl.out, planM]; simp
          subst hd
          have Hr : Hid (SRow wr u5 R) := Row2.of_own Hown.out
          obtain ⟨a5, c5, e5, _⟩ := Hr.out
          subst e5
          clear HA HA2 HF0 HT0 Hown Hpl ha hb
          go_wp2_with fail
          go_ret
          exact ⟨⟨_, rfl, Hr.out⟩, Hb.out⟩
        · obtain ⟨b, o, rfl, hc⟩ := HF0.out (by simp)
          obtain ⟨d0, d1, d2⟩ := hc 0 (by simp)
          simp only [List.getElem_cons_zero, Nat.zero_mul, Nat.add_zero] at d0 d1 d2
          obtain ⟨b', o', rfl, hc'⟩ := HT0.out (by simp)
          obtain ⟨d3, d4, d5⟩ := hc' 0 (by simp)
          simp only [List.getElem_cons_zero, Nat.zero_mul, Nat.add_zero] at d3 d4 d5
          have Hp2 := hide (Go.Files.planM_both (r := r) (q := q) h1 h2)
          have Hlb : Hid (b < w.heap.size) := World.block_lt_of_cell? _ _ d0
          have Hlb' : Hid (b' < w.heap.size) := World.block_lt_of_cell? _ _ d3
          have Htl := hide (LRow.tail HF.out)
          have Htl' := hide (LRow.tail HT.out)
          have HK := hide (fun W => kindOfBoth_ok f x W)
          have Hvb : Hid (u5.ownBlock ≠ some b) := fun e => by have := (Hown.out.lt b e).1; have := Hlb.out; omega
          have Hvb' : Hid (u5.ownBlock ≠ some b') := fun e => by have := (Hown.out.lt b' e).1; have := Hlb'.out; omega
          have Hkk : Hid (kindL f x = if f.n = x.n ∧ f.sum = x.sum then kKeep else kSend) := rfl
          generalize kindL f x = kk at *
          clear hc hc' HF0 HT0 ha hb HF HT h1 h2
          go_wp2_with fail
          refine (HA.out _ Hb.out).mono ?_
          rintro r1 w1 ⟨rfl, hb1⟩
          have Hb1 := hide (bthen Hb.out hb1)
          have Hown1 := hide (own_below Hown.out hb1)
          clear hb1 Hown HA
          go_wp2_with fail
          refine (HA2.out _ Hb1.out).mono ?_
          rintro r1 w2 ⟨rfl, hb2⟩
          have hb2' := bthen Hb1.out hb2
          have p0 := (hb2'.cell (p := ⟨b, o, none⟩) Hlb.out).trans d0
          have p1 := (hb2'.cell (p := ⟨b, o + 1, none⟩) Hlb.out).trans d1
          have p2 := (hb2'.cell (p := ⟨b, o + 2, none⟩) Hlb.out).trans d2
          have p3 := (hb2'.cell (p := ⟨b', o', none⟩) Hlb'.out).trans d3
          have p4 := (hb2'.cell (p := ⟨b', o' + 1, none⟩) Hlb'.out).trans d4
          have p5 := (hb2'.cell (p := ⟨b', o' + 2, none⟩) Hlb'.out).trans d5
          have Hb2 := hide hb2'
          have Hown2 := hide (own_below Hown1.out hb2)
          have Hs2 : Hid (w.heap.size ≤ w2.heap.size) := hb2'.size
          clear hb2 hb2' Hown1 Hb1 HA2 d0 d1 d2 d3 d4 d5
          go_wp2_with fail
          go_region_held3 (fun w' => w'.cell? ⟨b, o, none⟩ = some (.string f.name) ∧ w'.cell? ⟨b, o + 1, none⟩ = some (.int .i64 f.n) ∧ w'.cell? ⟨b, o + 2, none⟩ = some (.int .u32 f.sum) ∧ w'.cell? ⟨b', o', none⟩ = some (.string x.name) ∧ w'.cell? ⟨b', o' + 1, none⟩ = some (.int .i64 x.n) ∧ w'.cell? ⟨b', o' + 2, none⟩ = some (.int .u32 x.sum))
            (first | exact ⟨p0, p1, p2, p3, p4, p5⟩ | exact ⟨q0, q1, q2, q3, q4, q5⟩ | exact ⟨Z0.out _, Z1.out _, Z2.out _, Z3.out _, Z4.out _, Z5.out _⟩ | exact ⟨m0, m1, m2, m3, m4, m5⟩)
            (first
              | (go_at_call 56; refine (HK.out _).mono ?_; rintro r9 w9 ⟨rfl, hb9⟩; have Hb9 := hide hb9; have q0 := (hb9.cell (p := ⟨b, o, none⟩) (Nat.lt_of_lt_of_le Hlb.out Hs2.out)).trans p0; have q1 := (hb9.cell (p := ⟨b, o + 1, none⟩) (Nat.lt_of_lt_of_le Hlb.out Hs2.out)).trans p1; have q2 := (hb9.cell (p := ⟨b, o + 2, none⟩) (Nat.lt_of_lt_of_le Hlb.out Hs2.out)).trans p2; have q3 := (hb9.cell (p := ⟨b', o', none⟩) (Nat.lt_of_lt_of_le Hlb'.out Hs2.out)).trans p3; have q4 := (hb9.cell (p := ⟨b', o' + 1, none⟩) (Nat.lt_of_lt_of_le Hlb'.out Hs2.out)).trans p4; have q5 := (hb9.cell (p := ⟨b', o' + 2, none⟩) (Nat.lt_of_lt_of_le Hlb'.out Hs2.out)).trans p5; have hs9 : w.heap.size ≤ w9.heap.size := Nat.le_trans Hs2.out hb9.size; have Hs9 := hide hs9; have Hown9 := hide (own_below Hown2.out.drew Hb9.out); have Z0 := hide (fun obj => (((Below.refl w9.heap.size w9).alloc (Nat.le_refl _) obj).cell (p := ⟨b, o, none⟩) (show b < w9.heap.size by have := Hlb.out; omega)).trans q0); have Z1 := hide (fun obj => (((Below.refl w9.heap.size w9).alloc (Nat.le_refl _) obj).cell (p := ⟨b, o + 1, none⟩) (show b < w9.heap.size by have := Hlb.out; omega)).trans q1); have Z2 := hide (fun obj => (((Below.refl w9.heap.size w9).alloc (Nat.le_refl _) obj).cell (p := ⟨b, o + 2, none⟩) (show b < w9.heap.size by have := Hlb.out; omega)).trans q2); have Z3 := hide (fun obj => (((Below.refl w9.heap.size w9).alloc (Nat.le_refl _) obj).cell (p := ⟨b', o', none⟩) (show b' < w9.heap.size by have := Hlb'.out; omega)).trans q3); have Z4 := hide (fun obj => (((Below.refl w9.heap.size w9).alloc (Nat.le_refl _) obj).cell (p := ⟨b', o' + 1, none⟩) (show b' < w9.heap.size by have := Hlb'.out; omega)).trans q4); have Z5 := hide (fun obj => (((Below.refl w9.heap.size w9).alloc (Nat.le_refl _) obj).cell (p := ⟨b', o' + 2, none⟩) (show b' < w9.heap.size by have := Hlb'.out; omega)).trans q5); clear hb9 hs9)
              | (refine step_append_lies _ (by rfl) _ _ _ (by rfl) w.heap.size 49 i0 _ 2 32 Tryz.underlying42 hi hz0 hz1 hz2 rfl (by omega) u5 done.length (scs done) (by rfl) (Hown9.out.alloc _)
                  ⟨w9.heap.size, 0, none⟩ 1 1 [.string kk, .string f.name] (by rfl) (by rfl) (World.news_of_block (cs := #[.string kk, .string f.name]) (t := 49) (fr := (0, 0)) (heap_alloc_new w9 _)) (scs_one _ _)
                  (by omega) (by unfold maxLen; simp at hn; omega) (by simp at hn; omega) (by have := Hs9.out; simp; omega) (w9.heap.size + 1) (by simp) ?_; intro gg cap w3 hown3 hgrow hat hlt3; have m0 := (hgrow.cell_far ⟨b, o, none⟩ (show b < _ by have := Hlb.out; have := Hs9.out; simp; omega) (Ne.symm Hvb.out)).trans (Z0.out _); have m1 := (hgrow.cell_far ⟨b, o + 1, none⟩ (show b < _ by have := Hlb.out; have := Hs9.out; simp; omega) (Ne.symm Hvb.out)).trans (Z1.out _); have m2 := (hgrow.cell_far ⟨b, o + 2, none⟩ (show b < _ by have := Hlb.out; have := Hs9.out; simp; omega) (Ne.symm Hvb.out)).trans (Z2.out _); have m3 := (hgrow.cell_far ⟨b', o', none⟩ (show b' < _ by have := Hlb'.out; have := Hs9.out; simp; omega) (Ne.symm Hvb'.out)).trans (Z3.out _); have m4 := (hgrow.cell_far ⟨b', o' + 1, none⟩ (show b' < _ by have := Hlb'.out; have := Hs9.out; simp; omega) (Ne.symm Hvb'.out)).trans (Z4.out _); have m5 := (hgrow.cell_far ⟨b', o' + 2, none⟩ (show b' < _ by have := Hlb'.out; have := Hs9.out; simp; omega) (Ne.symm Hvb'.out)).trans (Z5.out _); skip))
          all_goals
            have Hb3 := hide (((Hb2.out.drew.trans (Hb9.out.mono Hs2.out)).alloc Hs9.out _).grown hgrow (by have := Hs9.out; simp; omega) (fun k hk => (Hown9.out.lt k hk).1))
            have Hown3 := hide hown3
            clear hown3 hgrow hat hlt3 m0 m1 m2 m3 m4 m5 q0 q1 q2 q3 q4 q5 p0 p1 p2 p3 p4 p5 Z0 Z1 Z2 Z3 Z4 Z5 Hown9 Hown2 Hb9 Hb2 HK
            have z0 : (0 : Int) ≤ (r.length : Int) := by omega
            have z1 : (0 : Int) ≤ (q.length : Int) := by omega
            go_wp2_with fail
            go_quiet (fail)
            go_wp2_with fail
            exact ⟨⟨r, q, done ++ [(⟨kk, f.name⟩ : St)], LRow.cut Htl.out, LRow.cut Htl'.out, by simp at hn ⊢; omega, own_drewN _ (scs_snoc Hown3.out), by show _ = _; rw [← Hpl.out, Hp2.out, Hkk.out, List.append_assoc]; rfl, Hb3.out.trans ⟨rfl, rfl, rfl, Nat.le_refl _, fun _ _ => rfl⟩⟩, by simp [lenV]; omega⟩
end Go.Proofs.YtbflmkjlpopeaadGreatDoor
