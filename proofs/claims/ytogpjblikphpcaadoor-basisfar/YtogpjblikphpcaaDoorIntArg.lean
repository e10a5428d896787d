/-
  An argument of type int is one.
-/
import Derived.Test.YtogpjblikphpcaaDoorLaidCore
import Derived.WideShapes
namespace Go.Proofs.YtogpjblikphpcaaDoor
open Go.ChangeShapes Go.WideShapes

theorem i64_min : IntKind.i64.min = -9223372036854775808 := rfl
theorem i64_max : IntKind.i64.max = 9223372036854775807 := rfl
set_option maxRecDepth 100000 in
theorem int_bound {W : World} {base : Nat} {n : Int} (h : Value.okWide Tryd.prog W .any base 3 (.int .i64 n)) : -9223372036854775808 ≤ n ∧ n ≤ 9223372036854775807 := by
  simp only [Value.okWide, Tryd.underlying3, Cell.okWide, Cell.ok, IntKind.has, i64_min, i64_max] at h
  simp at h
  omega
end Go.Proofs.YtogpjblikphpcaaDoor
