/-
  Package files meets what FilesBack asks of it.
-/
import Derived.Test.YtbflmkjlpopeaadDoorFbWalk
import Derived.Test.YtbflmkjlpopeaadDoorJoin16
import Derived.Test.YtbflmkjlpopeaadDoorFReads
namespace Go.Proofs.YtbflmkjlpopeaadDoor
open Go.RowKit
open Go.Files (FineL encL encNs encNs_length)

theorem backAll (e : FVT) : FilesAll fun w => FErT e w := filesAll e.f (fun w => FErT e w) fun _ h => h.er
theorem backLines (e : FVT) : LinesAll fun w => FErT e w where
  toLinesPlan := linesPlan e.f (fun w => FErT e w) fun _ h => h.er
  text := fun v l W hv hf hw he => by
    have h1 := hw.len
    rw [List.length_map] at h1
    have h0 := Go.Files.faultF_zero.2 hw
    have h := ltext_ok v l e.f W hv (by omega) (fun x hx => by have := (hf x hx).1; omega) (fun _ => hf) he.er
    rw [if_pos h0] at h
    refine h.mono ?_
    rintro r w' ⟨⟨x, rfl, hx⟩, hb⟩
    obtain rfl := hx.nilOr.none h0
    exact ⟨rfl, hb⟩
  read := fun l W hf hw he => by
    have h1 := hw.len
    rw [List.length_map] at h1
    have h2 := encNs_length hf
    have h3 := Go.Num.enc_length_le l.length
    have h := lRead_ok e (str (encL l)) W (by rw [str_len, encL, List.length_append]; omega) he
    rw [strL, Go.Files.rdL_enc l hf hw] at h
    refine h.mono ?_
    rintro r w' ⟨⟨v, rfl, hv⟩, hb⟩
    exact ⟨⟨v, rfl, hv⟩, hb⟩
end Go.Proofs.YtbflmkjlpopeaadDoor
