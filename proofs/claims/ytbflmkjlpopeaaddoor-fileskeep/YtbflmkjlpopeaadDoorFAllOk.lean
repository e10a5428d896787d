/-
  Package files meets what the laws ask of Put, List and Plan where it is asked no more than whether there is an error.
-/
import Derived.Test.YtbflmkjlpopeaadDoorJoin04
import Derived.Test.YtbflmkjlpopeaadDoorJoin11
import Derived.Test.YtbflmkjlpopeaadDoorJoin12
import Derived.Test.YtbflmkjlpopeaadDoorFPlans
namespace Go.Proofs.YtbflmkjlpopeaadDoor
open Go.RowKit
open Go.Files (Well keyL planM faultF)

theorem filesAll (e : FV) (Env : World → Prop) (hE : ∀ w, Env w → FEr e w) : FilesAll Env where
  put := fun v l a d W hv hf ha _ hS => (put_ok v l a d e W hv hf.1 (fun x hx => (hf.2 x hx).1) ha (hE W hS)).mono fun _ _ ⟨⟨u, x, h, hu, hx⟩, hb⟩ => ⟨⟨u, x, h, hu, hx.nilOr⟩, hb⟩
  list := fun v l W hv hf hS => (list_ok v l e W hv hf (hE W hS)).mono fun _ _ ⟨⟨u, x, h, hu, hx⟩, hb⟩ => ⟨⟨u, x, h, hu, hx.nilOr⟩, hb⟩
theorem planOut_well {F T : List Go.Files.Ln} (hF : Well (F.map keyL)) (hT : Well (T.map keyL)) : planOut F T = (planM F T, 0, -1) := by
  unfold planOut
  rw [if_pos (Go.Files.faultF_zero.2 hF), if_pos (Go.Files.faultF_zero.2 hT)]
theorem linesPlan (e : FV) (Env : World → Prop) (hE : ∀ w, Env w → FEr e w) : LinesPlan Env where
  plan := fun u v F T W hu hv hwF hwT hfF hfT hS => by
    have h1 := hwF.len
    have h2 := hwT.len
    rw [List.length_map] at h1 h2
    have h := plan_ok u v F T e W hu hv (by omega) (by omega) (fun x hx => by have := (hfF x hx).1; omega) (fun x hx => by have := (hfT x hx).1; omega) (hE W hS)
    rw [planOut_well hwF hwT] at h
    refine h.mono ?_
    rintro r w' ⟨⟨p, x, rfl, hp, hx⟩, hb⟩
    obtain rfl := hx.nilOr.none rfl
    exact ⟨⟨p, rfl, hp⟩, hb⟩
end Go.Proofs.YtbflmkjlpopeaadDoor
