/-
  Package basis meets what the laws ask of it.
-/
import Derived.Test.YtogpjblikphpcaaDoorBkText
import Derived.Test.YtogpjblikphpcaaDoorBkFar
import Derived.Test.YtogpjblikphpcaaDoorBkMarks
namespace Go.Proofs.YtogpjblikphpcaaDoor
open Go.RowKit
open Go.Basis

theorem basisAll {a : Nat → Addr} {e : TypeId × Value} {W0 : World} (hE : BkEnv a e W0) : BasisAll a (fun w => Below W0.heap.size W0 w) where
  env := fun h k => bthen h k
  text := fun m W hs h0 h1 hW => text_ok' m W (hE.below hW) hs h0 h1
  read := fun s W hs hW => read_ok' s W (hE.below hW) hs
  far := fun v l nm data W hl hn hd hv _ => far_ok v l nm data W hv hl (by omega) (by omega)
  marks := fun nm data step W hn hd hW => marksX_ok nm data step W (hE.below hW).err hn hd
end Go.Proofs.YtogpjblikphpcaaDoor
