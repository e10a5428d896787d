/-
  Contracts of files.aheadOf, kindOfBoth, planned over this dump.
-/
import Derived.Test.YtbflmkjlpopeaadGreatDoorJoin03
import Derived.Test.YtbflmkjlpopeaadGreatDoorJoin17
import Derived.Deep.RegionHeld3
import Derived.Deep.AppendLies
import Derived.Deep.RegionLaw
import Derived.BigQuiet
import Derived.Deep.QuietTactic
import Derived.Laws.Cover1
namespace Go.Proofs.YtbflmkjlpopeaadGreatDoor
open Go.RowKit
open Go.Files (Ln St lt planM kSend kKeep kDrop)

theorem Tryz.info49 : (Tryz.prog.info? 49).map (fun i => (i.zero, i.size, i.bytes)) = some (some (.agg #[.string ⟨#[]⟩, .string ⟨#[]⟩]), 2, 32) := by kernel_rfl
/-- The first name of one list is one that the other has not. -/
def aheadL : List Ln → List Ln → Bool
  | [], _ => false
  | _ :: _, [] => true
  | f :: _, x :: _ => lt f.name x.name
theorem drewB (w : World) : Below w.heap.size w w.drew := (Below.refl _ _).drew

set_option maxHeartbeats 2000000 in
set_option maxRecDepth 100000 in
theorem aheadOf_ok (u v : Value) (F T : List Ln) (w : World) (hu : LRow w u F) (hv : LRow w v T) (hF : F.length ≤ 1000000) (hT : T.length ≤ 1000000) :
    Calls Tryz.prog 55 #[u, v] w fun r w' => r = .returned (.bool (aheadL F T)) ∧ Below w.heap.size w w' := by
  obtain ⟨a, c, rfl, hu⟩ := hu
  obtain ⟨b, d, rfl, hv⟩ := hv
  cases F with
  | nil =>
    clear hu hv
    have hz : ((List.length ([] : List Ln)) : Int) = 0 := rfl
    go_enter Tryz.func55, Tryz.ntmps55
    go_wp2_with fail
    go_quiet (fail)
    go_wp2
    go_ret
    exact ⟨rfl, (Below.refl _ _).trans ⟨rfl, rfl, rfl, Nat.le_refl _, fun _ _ => rfl⟩⟩
  | cons f r =>
    obtain ⟨b1, o1, rfl, hc⟩ := hu (by simp)
    have c0 := (hc 0 (by simp)).1
    have hpn : 0 < (f :: r).length := by simp
    have hp : (0 : Int) < ((f :: r).length : Int) := by omega
    have hpd : decide (0 < (f :: r).length) = true := by simp
    have hF' : ((f :: r).length : Int) ≤ 1000000 := by omega
    simp only [List.getElem_cons_zero, Nat.zero_mul, Nat.add_zero] at c0
    clear hu hc
    cases T with
    | nil =>
      clear hv
      generalize (f :: r).length = n at *
      go_enter Tryz.func55, Tryz.ntmps55
      go_wp2_with fail
      go_quiet (fail)
      go_wp2
      go_ret
      exact ⟨rfl, (Below.refl _ _).trans ⟨rfl, rfl, rfl, Nat.le_refl _, fun _ _ => rfl⟩⟩
    | cons x q =>
      obtain ⟨b2, o2, rfl, hd⟩ := hv (by simp)
      have d0 := (hd 0 (by simp)).1
      have hqn : 0 < (x :: q).length := by simp
      have hp2 : (0 : Int) < ((x :: q).length : Int) := by omega
      have hne : (((x :: q).length : Int) == 0) = false := by simp; omega
      have hnn : ¬ (x :: q).length = 0 := by simp
      simp only [List.getElem_cons_zero, Nat.zero_mul, Nat.add_zero] at d0
      have Ha : Hid (aheadL (f :: r) (x :: q) = lt f.name x.name) := rfl
      have hlt : Op.bytesLess f.name.toList x.name.toList = lt f.name x.name := rfl
      clear hv hd
      generalize aheadL (f :: r) (x :: q) = R at *
      generalize (f :: r).length = n at *
      generalize (x :: q).length = m at *
      generalize lt f.name x.name = t at *
      go_enter Tryz.func55, Tryz.ntmps55
      go_wp2_with fail
      go_quiet (fail)
      go_wp2
      go_ret
      exact ⟨ret_bool (by rw [Ha.out]), (Below.refl _ _).trans ⟨rfl, rfl, rfl, Nat.le_refl _, fun _ _ => rfl⟩⟩

def kindL (f x : Ln) : ByteArray := if f.n = x.n ∧ f.sum = x.sum then kKeep else kSend
set_option maxHeartbeats 2000000 in
set_option maxRecDepth 100000 in
theorem kindOfBoth_ok (f x : Ln) (w : World) :
    Calls Tryz.prog 56 #[.agg #[.string f.name, .int .i64 f.n, .int .u32 f.sum], .agg #[.string x.name, .int .i64 x.n, .int .u32 x.sum]] w fun r w' => r = .returned (.string (kindL f x)) ∧ Below w.heap.size w w' := by
  obtain ⟨fn, fb, fs⟩ := f
  obtain ⟨xn, xb, xs⟩ := x
  unfold kindL
  simp only
  have hb : Below w.heap.size w ((w.alloc (.cells #[.string fn, .int .i64 fb, .int .u32 fs] 60)).alloc (.cells #[.string xn, .int .i64 xb, .int .u32 xs] 60)) := ((Below.refl _ _).alloc (Nat.le_refl _) _).alloc (by simp) _
  have Hb := hide hb
  clear hb
  by_cases h1 : fb = xb
  · subst h1
    by_cases h2 : fs = xs
    · subst h2
      go_enter Tryz.func56, Tryz.ntmps56
      go_wp2
      go_ret
      exact ⟨by simp [kKeep], Hb.out⟩
    · have h2' : (fs == xs) = false := by simpa using h2
      have Hk : Hid ((if fb = fb ∧ fs = xs then kKeep else kSend) = kSend) := if_neg (fun h => h2 h.2)
      generalize (if fb = fb ∧ fs = xs then kKeep else kSend) = K at *
      clear h2
      go_enter Tryz.func56, Tryz.ntmps56
      go_wp2
      go_ret
      exact ⟨by rw [Hk.out]; rfl, Hb.out⟩
  · have h1' : (fb == xb) = false := by simpa using h1
    have Hk : Hid ((if fb = xb ∧ fs = xs then kKeep else kSend) = kSend) := if_neg (fun h => h1 h.1)
    generalize (if fb = xb ∧ fs = xs then kKeep else kSend) = K at *
    clear h1
    go_enter Tryz.func56, Tryz.ntmps56
    go_wp2
    go_ret
    exact ⟨by rw [Hk.out]; rfl, Hb.out⟩

/-- Behind the first line. -/
theorem LRow.tail {w : World} {b o c : Nat} {x : Ln} {q : List Ln} (h : LRow w (.slice (some ⟨b, o, none⟩) (x :: q).length c) (x :: q)) :
    (c ≠ 1 → LRow w (.slice (some ⟨b, o + 3, none⟩) q.length (c - 1)) q) ∧ (c = 1 → q = []) ∧ q.length + 1 ≤ c := by
  obtain ⟨a', c', e, k⟩ := h
  cases e
  obtain ⟨b', o', e, hc⟩ := k (by simp)
  cases e
  refine ⟨fun _ => ⟨_, c', by simp, fun _ => ⟨b, o + 3, rfl, fun j hj => ?_⟩⟩, fun h1 => ?_, by simp⟩
  · have := hc (j + 1) (by simpa using hj)
    simp only [List.getElem_cons_succ] at this
    rw [show o + (j + 1) * 3 = o + 3 + j * 3 by omega] at this
    exact this
  · cases q with
    | nil => rfl
    | cons y r => simp at h1; omega
end Go.Proofs.YtbflmkjlpopeaadGreatDoor
