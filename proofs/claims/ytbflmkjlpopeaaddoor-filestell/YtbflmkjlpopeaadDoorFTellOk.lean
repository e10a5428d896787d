/-
  Package files meets what FilesTell asks of it.
-/
import Derived.Test.YtbflmkjlpopeaadDoorFtWalk
import Derived.Test.YtbflmkjlpopeaadDoorJoin11
import Derived.Test.YtbflmkjlpopeaadDoorJoin15
import Derived.Test.YtbflmkjlpopeaadDoorFDrop
namespace Go.Proofs.YtbflmkjlpopeaadDoor
open Go.RowKit
open Go.Files (Fl faultF keyF putF insF)

theorem FX.errOf {a : Nat → Addr} {w : World} {x : Value} {f : Nat × Int} (h : FX (fvOf a) w x f) (hS : Sents w a) (hc : f.1 = 0 ∨ f.1 = 8 ∨ f.1 = 5 ∨ f.1 = 2 ∨ f.1 = 9) : ErrOf w x f.1 f.2 := by
  obtain ⟨c, at_⟩ := f
  simp only at hc ⊢
  rcases h with ⟨h0, rfl⟩ | ⟨h0, h⟩
  · simp only at h0
    subst h0
    exact errOf_nil w at_
  · simp only at h0 h
    obtain ⟨k, hk, rfl, ev⟩ := errF_sent (a := a) (hc.resolve_left h0)
    rw [ev] at h
    rcases h with ⟨rfl, rfl⟩ | ⟨p, rfl, c0, c1⟩
    · exact errOf_bare w a hS k hk
    · exact errOf_at w a hS k hk p at_ c0 c1
theorem putF_code (l : List Fl) (a d : ByteArray) : (putF l a d).2.1 = 0 ∨ (putF l a d).2.1 = 8 ∨ (putF l a d).2.1 = 5 ∨ (putF l a d).2.1 = 2 ∨ (putF l a d).2.1 = 9 := by
  unfold putF
  split
  · split
    · exact Or.inl rfl
    · exact Go.Files.faultF_code _
  · exact Go.Files.faultF_code _
theorem tellOk (a : Nat → Addr) : TellOk a where
  name := fun s W hs => (name_ok s W hs).mono fun _ _ ⟨h, hw⟩ => ⟨h, by rw [hw]; exact Below.refl _ _⟩
  check := fun v l W hv hf hS => (fcheck_ok v l (fvOf a) W hv (by have := hf.1; omega) (fun x hx => (hf.2 x hx).1) hS.fer).mono fun _ _ ⟨⟨x, e, hx⟩, hb⟩ => ⟨⟨x, e, hx.errOf (hS.below hb) (Go.Files.faultF_code _)⟩, hb⟩
  get := filesGet
  drop := fun v l n W hv hf _ => filesDrop_ok v l n W hv hf
  put := fun v l n d W hv hf hn _ hS => (put_ok v l n d (fvOf a) W hv hf.1 (fun x hx => (hf.2 x hx).1) hn hS.fer).mono fun _ _ ⟨⟨u, x, e, hu, hx⟩, hb⟩ => ⟨⟨u, x, e, hu, hx.errOf (hS.below hb) (putF_code l n d)⟩, hb⟩
  list := fun v l W hv hf hS => (list_ok v l (fvOf a) W hv hf hS.fer).mono fun _ _ ⟨⟨u, x, e, hu, hx⟩, hb⟩ => ⟨⟨u, x, e, hu, hx.errOf (hS.below hb) (Go.Files.faultF_code _)⟩, hb⟩
end Go.Proofs.YtbflmkjlpopeaadDoor
