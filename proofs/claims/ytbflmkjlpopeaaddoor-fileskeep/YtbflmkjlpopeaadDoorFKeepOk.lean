/-
  Package files meets what FilesKeep asks of it.
-/
import Derived.Test.YtbflmkjlpopeaadDoorFkWalk
import Derived.Test.YtbflmkjlpopeaadDoorFAllOk
import Derived.Test.YtbflmkjlpopeaadDoorFDrop
namespace Go.Proofs.YtbflmkjlpopeaadDoor
open Go.RowKit

theorem keepAll (e : FV) : FilesAll fun w => FEr e w := filesAll e (fun w => FEr e w) fun _ h => h
theorem keepLines (e : FV) : LinesPlan fun w => FEr e w := linesPlan e (fun w => FEr e w) fun _ h => h
theorem filesDrop : FilesDrop where
  drop := fun v l n W hv hf _ => filesDrop_ok v l n W hv hf
end Go.Proofs.YtbflmkjlpopeaadDoor
