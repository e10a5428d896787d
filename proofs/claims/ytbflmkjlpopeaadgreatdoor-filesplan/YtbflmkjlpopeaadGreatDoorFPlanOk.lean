/-
  Package files meets what FilesPlan asks of it.
-/
import Derived.Test.YtbflmkjlpopeaadGreatDoorFpWalk
import Derived.Test.YtbflmkjlpopeaadGreatDoorJoin15
import Derived.Test.YtbflmkjlpopeaadGreatDoorJoin19
import Derived.Test.YtbflmkjlpopeaadGreatDoorFPlans
import Derived.Test.YtbflmkjlpopeaadGreatDoorJoin24
import Derived.Test.YtbflmkjlpopeaadGreatDoorFReads
namespace Go.Proofs.YtbflmkjlpopeaadGreatDoor
open Go.RowKit
open Go.Files (Ln faultF keyL planM rdL)

theorem planAll (a : Nat → Addr) : FilesAll fun W => Sents W a where
  put := fun v l n d W hv hf ha _ hS => (put_ok v l n d (fvOf a) W hv hf.1 (fun x hx => (hf.2 x hx).1) ha hS.fer).mono fun _ _ ⟨⟨u, x, h, hu, hx⟩, hb⟩ => ⟨⟨u, x, h, hu, hx.nilOr⟩, hb⟩
  list := fun v l W hv hf hS => (list_ok v l (fvOf a) W hv hf hS.fer).mono fun _ _ ⟨⟨u, x, h, hu, hx⟩, hb⟩ => ⟨⟨u, x, h, hu, hx.nilOr⟩, hb⟩
theorem FX.errX {a : Nat → Addr} {w : World} {x : Value} {f : Nat × Int} (h : FX (fvOf a) w x f) (hc : f.1 = 0 ∨ f.1 = 8 ∨ f.1 = 5 ∨ f.1 = 2 ∨ f.1 = 9) : ErrX a w x f.1 f.2 := by
  obtain ⟨c, at_⟩ := f
  simp only at hc ⊢
  rcases h with ⟨h0, rfl⟩ | ⟨h0, h⟩
  · simp only at h0
    exact Or.inl ⟨h0, rfl⟩
  · simp only at h0 h
    obtain ⟨k, hk, rfl, ev⟩ := errF_sent (a := a) (hc.resolve_left h0)
    rw [ev] at h
    refine Or.inr ⟨k, hk, rfl, ?_⟩
    rcases h with ⟨rfl, rfl⟩ | ⟨p, rfl, c0, c1⟩
    · exact Or.inl ⟨rfl, rfl⟩
    · exact Or.inr ⟨p, rfl, c0, c1⟩
theorem planOut_code (F T : List Ln) : (planOut F T).2.1 = 0 ∨ (planOut F T).2.1 = 8 ∨ (planOut F T).2.1 = 5 ∨ (planOut F T).2.1 = 2 ∨ (planOut F T).2.1 = 9 := by
  unfold planOut
  split
  · split
    · exact Or.inl rfl
    · exact Go.Files.faultF_code _
  · exact Go.Files.faultF_code _
def fvtOf (a : Nat → Addr) : FVT := ⟨fvOf a, 164, .pointer (some (a 0))⟩
theorem Sents.fert {w : World} {a : Nat → Addr} (h : Sents w a) : FErT (fvtOf a) w := ⟨h.fer, h.c0⟩
theorem codes_errT {a : Nat → Addr} {c : Nat} {w : World} (hS : Sents w a) (h : c = 1 ∨ c = 8 ∨ c = 5 ∨ c = 2 ∨ c = 9) : Codes w (errT (fvtOf a) c) c := by
  rcases h with rfl | h
  · exact codes_bare w a hS 0 (by decide)
  · obtain ⟨k, hk, rfl, ev⟩ := errF_sent (a := a) h
    unfold errT
    rw [if_neg (by omega), show (fvtOf a).f = fvOf a from rfl, ev]
    exact codes_bare w a hS k hk
theorem planOk (a : Nat → Addr) : PlanOk a where
  text := fun v l W hv hf hS => (ltext_ok v l (fvOf a) W hv (by have := hf.1; omega) (fun x hx => (hf.2 x hx).1) (fun k => fine_of k hf) hS.fer).mono fun _ _ ⟨⟨x, h, hx⟩, hb⟩ => ⟨⟨x, h, (hx.errX (Go.Files.faultF_code _)).errOf (hS.below hb)⟩, hb⟩
  read := fun s W hs hS => by
    refine (lRead_ok (fvtOf a) s W hs hS.fert).mono ?_
    rintro r w' ⟨h, hb⟩
    refine ⟨?_, hb⟩
    unfold rdOutL
    cases hr : rdL s.data.toList with
    | ok l =>
      rw [hr] at h
      obtain ⟨v, rfl, hv⟩ := h
      exact ⟨v, _, rfl, hv, codes_nil w'⟩
    | error c =>
      rw [hr] at h
      obtain ⟨rfl, hc⟩ := h
      exact ⟨_, _, rfl, Row3c.nil _, codes_errT (hS.below hb) hc⟩
  plan := fun u v F T W hu hv hF hT hS => (plan_ok u v F T (fvOf a) W hu hv (by have := hF.1; omega) (by have := hT.1; omega) (fun x hx => (hF.2 x hx).1) (fun x hx => (hT.2 x hx).1) hS.fer).mono fun _ _ ⟨⟨p, x, h, hp, hx⟩, hb⟩ => ⟨⟨p, x, h, hp, hx.errX (planOut_code F T)⟩, hb⟩
end Go.Proofs.YtbflmkjlpopeaadGreatDoor
