/-
  A mark held against itself.
-/
import Derived.Test.YtogpjblikphpcaaDoorBasisAll
import Derived.Laws.StructEq
namespace Go.Proofs.YtogpjblikphpcaaDoor
open Go.RowKit
open Go.Basis

theorem Tryd.mkHeld : Tryd.prog.stoodInHeld 33 = false := by kernel_rfl
set_option maxRecDepth 100000 in
theorem mk_neq (f : Mk) (w : World) : (binOp .neq 33 (mkV f) (mkV f)).run Tryd.prog w = .ok (.bool false) w := by
  have hf : Tryd.prog.fieldsOf 33 = (match Tryd.prog.underlying 33 with | some (.struct fs) => fs | _ => #[]) := rfl
  rw [Tryd.underlying33] at hf
  simp only at hf
  unfold mkV
  generalize f.name = e1
  generalize f.n = s1
  generalize f.c = d1
  rw [run_neq_struct, run_equalIn_struct _ _ _ _ _ (by rw [hf]; exact Tryd.underlying33) Tryd.mkHeld, hf]
  simp only [Op.eqFields]
  go_simp
end Go.Proofs.YtogpjblikphpcaaDoor
