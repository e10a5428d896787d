/-
  What the laws FilesKeep and FilesBack ask of package files, as contracts over whatever the errors' variables hold; lines held against one another.
  Small facts that the walks of FilesKeep and FilesBack share.
-/
import Derived.Test.YtbflmkjlpopeaadDoorJoin03
import Derived.Test.YtbflmkjlpopeaadDoorJoin04
import Derived.Laws.StructEq
namespace Go.Proofs.YtbflmkjlpopeaadDoor
open Go.RowKit
open Go.Files (Fl Ln St faultF keyL keyF rdL encL planM lineOf Well dropF)

theorem lnOf_eq : lnOf = lineOf := rfl
/-- Where it is asked no more than whether there is an error. -/
structure LinesPlan (Env : World → Prop) : Prop where
  plan : ∀ u v F T W, LRow W u F → LRow W v T → Well (F.map keyL) → Well (T.map keyL) → (∀ x ∈ F, Go.Files.FineL x) → (∀ x ∈ T, Go.Files.FineL x) → Env W → Calls Tryd.prog 30 #[u, v] W fun r w' => (∃ p, r = .returned (.tuple #[p, .nilIface]) ∧ SRow w' p (planM F T)) ∧ Below W.heap.size W w'

theorem Tryd.lineGuard : Tryd.prog.eqGuardType Tryd.prog.depth 65 = false := by kernel_rfl
theorem Tryd.lineHeld : Tryd.prog.stoodInHeld 65 = false := by kernel_rfl
set_option maxRecDepth 100000 in
/-- A line is no other one than itself. -/
theorem line_neq (x : Ln) (w : World) : (binOp .neq 65 (.agg #[.string x.name, .int .i64 x.n, .int .u32 x.sum]) (.agg #[.string x.name, .int .i64 x.n, .int .u32 x.sum])).run Tryd.prog w = .ok (.bool false) w := by
  have hf : Tryd.prog.fieldsOf 65 = (match Tryd.prog.underlying 65 with | some (.struct fs) => fs | _ => #[]) := rfl
  rw [Tryd.underlying65] at hf
  simp only at hf
  rw [run_neq_struct, run_equalIn_struct _ _ _ _ _ (by rw [hf]; exact Tryd.underlying65) Tryd.lineHeld, hf]
  simp only [Op.eqFields]
  go_simp
end Go.Proofs.YtbflmkjlpopeaadDoor

namespace Go.Proofs.YtbflmkjlpopeaadDoor
open Go.RowKit
open Go.Files (Fl Ln St lt getF faultF keyL keyF encL planM lineOf Well StepOk kSend kKeep kDrop FineL)

theorem plan_len0 : ∀ F T : List Ln, (planM F T).length ≤ F.length + T.length
  | [], t => by rw [planM]; simp
  | f :: r, [] => by rw [planM]; have := plan_len0 r []; simp at this ⊢; omega
  | f :: r, x :: q => by
    rw [planM]
    split
    · have := plan_len0 (f :: r) q; simp at this ⊢; omega
    · split
      · have := plan_len0 r q; simp at this ⊢; omega
      · have := plan_len0 r (x :: q); simp at this ⊢; omega
termination_by a b => a.length + b.length
theorem leq_false {a p : ByteArray} (h : lt p a = true) : (Op.bytesLess a.toList p.toList || a.toList == p.toList) = false := by rw [leq_lt, h]; rfl

theorem rise_at {P : List St} (h : Go.Files.Rise (P.map (·.name))) {i j : Nat} (hij : i < j) (hj : j < P.length) : lt (P[i]'(by omega)).name P[j].name = true := by
  have := List.pairwise_iff_getElem.1 h i j (by simp; omega) (by simpa using hj) hij
  simpa using this
theorem bytes_inj {u v : ByteArray} (h : u.toList = v.toList) : u = v := by
  rw [ByteArray.toList_eq, ByteArray.toList_eq] at h
  cases u; cases v
  simp only at h
  congr
  exact Array.toList_inj.1 h

end Go.Proofs.YtbflmkjlpopeaadDoor
