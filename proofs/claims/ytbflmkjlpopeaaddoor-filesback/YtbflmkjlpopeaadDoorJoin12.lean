/-
  Contracts of files.named, slices.IndexFunc (at files, by a name), files.Get over this dump.
  Contracts of files.aheadOf, kindOfBoth, planned over this dump.
-/
import Derived.Test.YtbflmkjlpopeaadDoorJoin03
import Derived.Test.YtbflmkjlpopeaadDoorJoin09
import Derived.Shelf.Abstract
import Derived.Test.YtbflmkjlpopeaadDoorJoin02
import Derived.Deep.RegionHeld3
import Derived.Deep.AppendLies
import Derived.Deep.RegionLaw
import Derived.BigQuiet
import Derived.Deep.QuietTactic
import Derived.Laws.Cover1
namespace Go.Proofs.YtbflmkjlpopeaadDoor
open Go.RowKit
open Go.Files (Fl getF)

set_option maxHeartbeats 1000000 in
theorem named_ok (a : ByteArray) (w : World) :
    Calls Tryd.prog 43 #[.string a] w fun r w' => (∃ q, r = .returned (.func (.func 65) #[] #[.pointer (some ⟨q, 0, none⟩)]) ∧ w'.cell? ⟨q, 0, none⟩ = some (.string a) ∧ w.heap.size ≤ q) ∧ Below w.heap.size w w' := by
  go_enter Tryd.func43, Tryd.ntmps43
  go_wp2
  go_ret
  exact ⟨⟨w.heap.size, rfl, by simp, Nat.le_refl _⟩, (Below.refl _ _).alloc (Nat.le_refl _) _⟩

set_option maxHeartbeats 1000000 in
theorem named1_ok (x : Fl) (a : ByteArray) (q : Nat) (w : World) (hq : w.cell? ⟨q, 0, none⟩ = some (.string a)) :
    Calls Tryd.prog 65 #[.agg #[.string x.name, .string x.data], .pointer (some ⟨q, 0, none⟩)] w fun r w' => r = .returned (.bool (decide (x.name = a))) ∧ Below w.heap.size w w' := by
  have hq' : (w.alloc (.cells #[.string x.name, .string x.data] 62)).cell? ⟨q, 0, none⟩ = some (.string a) := ((Below.refl w.heap.size w).alloc (Nat.le_refl _) _).cell (World.block_lt_of_cell? _ _ hq) |>.trans hq
  obtain ⟨n, d⟩ := x
  simp only at hq' ⊢
  by_cases h : n = a
  · subst h
    go_enter Tryd.func65, Tryd.ntmps65
    go_wp2
    go_ret
    exact ⟨ret_bool (by simp), (Below.refl _ _).alloc (Nat.le_refl _) _⟩
  · have ho := other_bytes h
    go_enter Tryd.func65, Tryd.ntmps65
    go_wp2
    go_ret
    exact ⟨ret_bool (by simp [h]), (Below.refl _ _).alloc (Nat.le_refl _) _⟩

/-- The first place at which a name stands, or -1. -/
def idxF (a : ByteArray) : List Fl → Nat → Int
  | [], _ => -1
  | f :: r, j => if f.name = a then (j : Int) else idxF a r (j + 1)
theorem idxF_step (a : ByteArray) (l : List Fl) (j : Nat) (h : j < l.length) : idxF a (l.drop j) j = if l[j].name = a then (j : Int) else idxF a (l.drop (j + 1)) (j + 1) := by
  rw [List.drop_eq_getElem_cons h, idxF]
theorem idxF_spec (a : ByteArray) : ∀ (l : List Fl) (i : Nat), (idxF a l i = -1 ∧ ∀ j (hj : j < l.length), l[j].name ≠ a) ∨ ∃ (k : Nat) (hk : k < l.length), idxF a l i = ((i + k : Nat) : Int) ∧ l[k].name = a ∧ ∀ j (hj : j < l.length), j < k → l[j].name ≠ a
  | [], i => Or.inl ⟨rfl, fun j hj => by simp at hj⟩
  | f :: r, i => by
    rw [idxF]
    by_cases h : f.name = a
    · rw [if_pos h]
      exact Or.inr ⟨0, by simp, by simp, by simpa using h, fun j hj hj0 => by omega⟩
    · rw [if_neg h]
      rcases idxF_spec a r (i + 1) with ⟨h1, h2⟩ | ⟨k, hk, h1, h2, h3⟩
      · refine Or.inl ⟨h1, fun j hj => ?_⟩
        cases j with
        | zero => simpa using h
        | succ j => simpa using h2 j (by simpa using hj)
      · refine Or.inr ⟨k + 1, by simpa using hk, by rw [h1]; congr 1; omega, by simpa using h2, fun j hj hjk => ?_⟩
        cases j with
        | zero => simpa using h
        | succ j => simpa using h3 j (by simpa using hj) (by omega)

set_option maxHeartbeats 2000000 in
set_option maxRecDepth 100000 in
theorem indexFunc_ok (v : Value) (l : List Fl) (a : ByteArray) (q : Nat) (w : World) (hv : FRow w v l) (hl : l.length ≤ 1000000) (hq : w.cell? ⟨q, 0, none⟩ = some (.string a)) :
    Calls Tryd.prog 42 #[v, .func (.func 65) #[] #[.pointer (some ⟨q, 0, none⟩)]] w fun r w' => r = .returned (.int .i64 (idxF a l 0)) ∧ Below w.heap.size w w' := by
  obtain ⟨s, c, rfl, hv⟩ := hv
  have HV := hide hv
  have HQ := hide hq
  have hl' : (l.length : Int) ≤ 1000000 := by omega
  clear hv hq
  generalize hR : idxF a l 0 = R
  have HR := hide hR
  clear hR
  go_enter Tryd.func42, Tryd.ntmps42
  go_wp2_with fail
  go_loopw [8] (fun t wr => ∃ j : Nat, t = .int .i64 j ∧ j ≤ l.length ∧ Hid (idxF a (l.drop j) j = R) ∧ Hid (Below w.heap.size w wr)) (fun t _ => l.length - (intOf t).toNat)
  case atStart => exact ⟨0, rfl, by omega, HR.out, Below.refl _ _⟩
  case round =>
    clear HR
    obtain ⟨j, rfl, hj, Hsc, Hb⟩ := hrel
    by_cases hlt : j < l.length
    · have hlt' : (j : Int) < l.length := by omega
      obtain ⟨b, o, rfl, hc⟩ := HV.out (by omega)
      obtain ⟨c0, c1⟩ := hc j hlt
      have d0 := (Hb.out.cell (World.block_lt_of_cell? _ _ c0)).trans c0
      have d1 := (Hb.out.cell (World.block_lt_of_cell? _ _ c1)).trans c1
      have Hs := hide (idxF_step a l j hlt)
      rw [Hsc.out] at Hs
      have HN := hide (named1_ok l[j] a q wr ((Hb.out.cell (World.block_lt_of_cell? _ _ HQ.out)).trans HQ.out))
      clear hc c0 c1 Hsc HV
      generalize l[j] = x at *
      by_cases hx : x.name = a
      · have hR := Hs.out
        rw [if_pos hx] at hR
        subst hR
        rw [decide_eq_true hx] at HN
        clear Hs hx
        go_wp2_with fail
        refine HN.out.mono ?_
        rintro r w1 ⟨rfl, hb1⟩
        have Hb1 := hide (bthen Hb.out hb1)
        clear hb1
        go_wp2
        go_ret
        exact ⟨rfl, Hb1.out⟩
      · have hR := Hs.out
        rw [if_neg hx] at hR
        have HR := hide hR
        rw [decide_eq_false hx] at HN
        clear Hs hx hR
        go_wp2_with fail
        refine HN.out.mono ?_
        rintro r w1 ⟨rfl, hb1⟩
        have Hb1 := hide (bthen Hb.out hb1)
        clear hb1
        go_wp2_with fail
        go_roundw
        case rel => exact ⟨j + 1, by go_num, by omega, HR.out.symm, Hb1.out⟩
        case measure => simp [intOf]; omega
    · have hle : (l.length : Int) ≤ (j : Int) := by omega
      have hR : R = -1 := by rw [← Hsc.out, List.drop_eq_nil_of_le (by omega), idxF]
      subst hR
      go_wp2
      go_ret
      exact ⟨rfl, Hb.out⟩

set_option maxHeartbeats 1000000 in
set_option maxRecDepth 100000 in
theorem get_ok (v : Value) (l : List Fl) (a : ByteArray) (w : World) (hv : FRow w v l) (hl : l.length ≤ 1000000) :
    Calls Tryd.prog 20 #[v, .string a] w fun r w' => r = .returned (.tuple #[.string (gOut (getF l a)).1, .bool (gOut (getF l a)).2]) ∧ Below w.heap.size w w' := by
  have HV := hide hv
  have HA := hide (fun W => named_ok a W)
  have HI := hide (fun q W (h : FRow W v l) (k : W.cell? ⟨q, 0, none⟩ = some (.string a)) => indexFunc_ok v l a q W h hl k)
  have hsp := idxF_spec a l 0
  obtain ⟨s, c, rfl, hv⟩ := hv
  rcases hsp with ⟨h1, h2⟩ | ⟨k, hk, h1, h2, h3⟩
  · rw [h1] at HI
    have Hg : Hid (getF l a = none) := Go.Files.getF_none.2 fun f hf => by obtain ⟨j, hj, rfl⟩ := List.getElem_of_mem hf; exact h2 j hj
    clear h1 h2 hv
    go_enter Tryd.func20, Tryd.ntmps20
    go_wp2_with fail
    refine (HA.out _).mono ?_
    rintro r w1 ⟨⟨q, rfl, hq, _⟩, hb1⟩
    have Hq := hide hq
    have Hb1 := hide hb1
    clear hq hb1 HA
    go_wp2_with fail
    refine (HI.out q _ (HV.out.below Hb1.out) Hq.out).mono ?_
    rintro r w2 ⟨rfl, hb2⟩
    have Hb2 := hide (bthen Hb1.out hb2)
    clear hb2
    go_wp2
    go_ret2
    exact ⟨by rw [Hg.out]; rfl, Hb2.out⟩
  · rw [Nat.zero_add] at h1
    rw [h1] at HI
    have Hg := hide (Go.Files.getF_at k hk h2 h3)
    obtain ⟨b, o, rfl, hc⟩ := hv (by omega)
    have c1 := (hc k hk).2
    have hk' : (k : Int) < l.length := by omega
    clear h1 h2 h3 hc hv
    generalize l[k] = x at *
    go_enter Tryd.func20, Tryd.ntmps20
    go_wp2_with fail
    refine (HA.out _).mono ?_
    rintro r w1 ⟨⟨q, rfl, hq, _⟩, hb1⟩
    have Hq := hide hq
    have Hb1 := hide hb1
    clear hq hb1 HA
    go_wp2_with fail
    refine (HI.out q _ (HV.out.below Hb1.out) Hq.out).mono ?_
    rintro r w2 ⟨rfl, hb2⟩
    have Hb2 := hide (bthen Hb1.out hb2)
    have d1 := (Hb2.out.cell (World.block_lt_of_cell? _ _ c1)).trans c1
    clear hb2 c1
    go_wp2
    go_ret2
    exact ⟨by rw [Hg.out]; rfl, Hb2.out⟩

theorem filesGet : FilesGet where
  get := fun v l a W hv hf _ => get_ok v l a W hv (by have := hf.1; omega)
end Go.Proofs.YtbflmkjlpopeaadDoor

namespace Go.Proofs.YtbflmkjlpopeaadDoor
open Go.RowKit
open Go.Files (Ln St lt planM kSend kKeep kDrop)

theorem Tryd.info60 : (Tryd.prog.info? 60).map (fun i => (i.zero, i.size, i.bytes)) = some (some (.agg #[.string ⟨#[]⟩, .string ⟨#[]⟩]), 2, 32) := by kernel_rfl
/-- The first name of one list is one that the other has not. -/
def aheadL : List Ln → List Ln → Bool
  | [], _ => false
  | _ :: _, [] => true
  | f :: _, x :: _ => lt f.name x.name
theorem drewB (w : World) : Below w.heap.size w w.drew := (Below.refl _ _).drew

set_option maxHeartbeats 2000000 in
set_option maxRecDepth 100000 in
theorem aheadOf_ok (u v : Value) (F T : List Ln) (w : World) (hu : LRow w u F) (hv : LRow w v T) (hF : F.length ≤ 1000000) (hT : T.length ≤ 1000000) :
    Calls Tryd.prog 72 #[u, v] w fun r w' => r = .returned (.bool (aheadL F T)) ∧ Below w.heap.size w w' := by
  obtain ⟨a, c, rfl, hu⟩ := hu
  obtain ⟨b, d, rfl, hv⟩ := hv
  cases F with
  | nil =>
    clear hu hv
    have hz : ((List.length ([] : List Ln)) : Int) = 0 := rfl
    go_enter Tryd.func72, Tryd.ntmps72
    go_wp2_with fail
    go_quiet (fail)
    go_wp2
    go_ret
    exact ⟨rfl, (Below.refl _ _).trans ⟨rfl, rfl, rfl, Nat.le_refl _, fun _ _ => rfl⟩⟩
  | cons f r =>
    obtain ⟨b1, o1, rfl, hc⟩ := hu (by simp)
    have c0 := (hc 0 (by simp)).1
    have hpn : 0 < (f :: r).length := by simp
    have hp : (0 : Int) < ((f :: r).length : Int) := by omega
    have hpd : decide (0 < (f :: r).length) = true := by simp
    have hF' : ((f :: r).length : Int) ≤ 1000000 := by omega
    simp only [List.getElem_cons_zero, Nat.zero_mul, Nat.add_zero] at c0
    clear hu hc
    cases T with
    | nil =>
      clear hv
      generalize (f :: r).length = n at *
      go_enter Tryd.func72, Tryd.ntmps72
      go_wp2_with fail
      go_quiet (fail)
      go_wp2
      go_ret
      exact ⟨rfl, (Below.refl _ _).trans ⟨rfl, rfl, rfl, Nat.le_refl _, fun _ _ => rfl⟩⟩
    | cons x q =>
      obtain ⟨b2, o2, rfl, hd⟩ := hv (by simp)
      have d0 := (hd 0 (by simp)).1
      have hqn : 0 < (x :: q).length := by simp
      have hp2 : (0 : Int) < ((x :: q).length : Int) := by omega
      have hne : (((x :: q).length : Int) == 0) = false := by simp; omega
      have hnn : ¬ (x :: q).length = 0 := by simp
      simp only [List.getElem_cons_zero, Nat.zero_mul, Nat.add_zero] at d0
      have Ha : Hid (aheadL (f :: r) (x :: q) = lt f.name x.name) := rfl
      have hlt : Op.bytesLess f.name.toList x.name.toList = lt f.name x.name := rfl
      clear hv hd
      generalize aheadL (f :: r) (x :: q) = R at *
      generalize (f :: r).length = n at *
      generalize (x :: q).length = m at *
      generalize lt f.name x.name = t at *
      go_enter Tryd.func72, Tryd.ntmps72
      go_wp2_with fail
      go_quiet (fail)
      go_wp2
      go_ret
      exact ⟨ret_bool (by rw [Ha.out]), (Below.refl _ _).trans ⟨rfl, rfl, rfl, Nat.le_refl _, fun _ _ => rfl⟩⟩

def kindL (f x : Ln) : ByteArray := if f.n = x.n ∧ f.sum = x.sum then kKeep else kSend
set_option maxHeartbeats 2000000 in
set_option maxRecDepth 100000 in
theorem kindOfBoth_ok (f x : Ln) (w : World) :
    Calls Tryd.prog 73 #[.agg #[.string f.name, .int .i64 f.n, .int .u32 f.sum], .agg #[.string x.name, .int .i64 x.n, .int .u32 x.sum]] w fun r w' => r = .returned (.string (kindL f x)) ∧ Below w.heap.size w w' := by
  obtain ⟨fn, fb, fs⟩ := f
  obtain ⟨xn, xb, xs⟩ := x
  unfold kindL
  simp only
  have hb : Below w.heap.size w ((w.alloc (.cells #[.string fn, .int .i64 fb, .int .u32 fs] 65)).alloc (.cells #[.string xn, .int .i64 xb, .int .u32 xs] 65)) := ((Below.refl _ _).alloc (Nat.le_refl _) _).alloc (by simp) _
  have Hb := hide hb
  clear hb
  by_cases h1 : fb = xb
  · subst h1
    by_cases h2 : fs = xs
    · subst h2
      go_enter Tryd.func73, Tryd.ntmps73
      go_wp2
      go_ret
      exact ⟨by simp [kKeep], Hb.out⟩
    · have h2' : (fs == xs) = false := by simpa using h2
      have Hk : Hid ((if fb = fb ∧ fs = xs then kKeep else kSend) = kSend) := if_neg (fun h => h2 h.2)
      generalize (if fb = fb ∧ fs = xs then kKeep else kSend) = K at *
      clear h2
      go_enter Tryd.func73, Tryd.ntmps73
      go_wp2
      go_ret
      exact ⟨by rw [Hk.out]; rfl, Hb.out⟩
  · have h1' : (fb == xb) = false := by simpa using h1
    have Hk : Hid ((if fb = xb ∧ fs = xs then kKeep else kSend) = kSend) := if_neg (fun h => h1 h.1)
    generalize (if fb = xb ∧ fs = xs then kKeep else kSend) = K at *
    clear h1
    go_enter Tryd.func73, Tryd.ntmps73
    go_wp2
    go_ret
    exact ⟨by rw [Hk.out]; rfl, Hb.out⟩

/-- Behind the first line. -/
theorem LRow.tail {w : World} {b o c : Nat} {x : Ln} {q : List Ln} (h : LRow w (.slice (some ⟨b, o, none⟩) (x :: q).length c) (x :: q)) :
    (c ≠ 1 → LRow w (.slice (some ⟨b, o + 3, none⟩) q.length (c - 1)) q) ∧ (c = 1 → q = []) ∧ q.length + 1 ≤ c := by
  obtain ⟨a', c', e, k⟩ := h
  cases e
  obtain ⟨b', o', e, hc⟩ := k (by simp)
  cases e
  refine ⟨fun _ => ⟨_, c', by simp, fun _ => ⟨b, o + 3, rfl, fun j hj => ?_⟩⟩, fun h1 => ?_, by simp⟩
  · have := hc (j + 1) (by simpa using hj)
    simp only [List.getElem_cons_succ] at this
    rw [show o + (j + 1) * 3 = o + 3 + j * 3 by omega] at this
    exact this
  · cases q with
    | nil => rfl
    | cons y r => simp at h1; omega
end Go.Proofs.YtbflmkjlpopeaadDoor
