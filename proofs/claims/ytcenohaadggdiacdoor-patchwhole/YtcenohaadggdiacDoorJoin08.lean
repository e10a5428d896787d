/-
  The five errors that package delta meets, in a world.
  An error that is a fault, behind whatever happens; what package delta's Check answers is the fault of its ops.
-/
import Derived.Test.YtcenohaadggdiacDoorJoin03
import Derived.Test.YtcenohaadggdiacDoorJoin06
import Derived.Test.YtcenohaadggdiacDoorJoin07
namespace Go.Proofs.YtcenohaadggdiacDoor
open Go.RowKit

structure OEr (e : OV) (w : World) : Prop where
  er : Er e.e w
  shape : w.cell? ⟨5, 0, none⟩ = some (.iface e.tS e.xS)
  kind : w.cell? ⟨6, 0, none⟩ = some (.iface e.tK e.xK)
theorem OEr.below {e : OV} {w w' : World} (h : OEr e w) (hb : Below w.heap.size w w') : OEr e w' :=
  ⟨h.er.below hb, (hb.cell (World.block_lt_of_cell? _ _ h.shape)).trans h.shape, (hb.cell (World.block_lt_of_cell? _ _ h.kind)).trans h.kind⟩
theorem OEr.three {e : OV} {w : World} (h : OEr e w) : OEr3 e w := ⟨h.er.bound, h.shape, h.kind⟩
instance (e : OV) (w : World) : Coe (OEr e w) (OEr3 e w) := ⟨OEr.three⟩
end Go.Proofs.YtcenohaadggdiacDoor

namespace Go.Proofs.YtcenohaadggdiacDoor
open Go.RowKit
open Go.Delta (Opx)

/-- The five errors among the twelve. -/
def ovOf (a : Nat → Addr) : OV := ⟨evOf a, 161, .pointer (some (a 2)), 161, .pointer (some (a 3))⟩
theorem Sents.oer {w : World} {a : Nat → Addr} (h : Sents w a) : OEr (ovOf a) w := ⟨h.er, h.c2, h.c3⟩
theorem errO_sent {a : Nat → Addr} {c : Nat} (h : c = 1 ∨ c = 2 ∨ c = 3 ∨ c = 4) : ∃ k, k < 12 ∧ c = k + 1 ∧ errO (ovOf a) c = .iface 161 (.pointer (some (a k))) := by
  rcases h with rfl | rfl | rfl | rfl
  · exact ⟨0, by decide, rfl, rfl⟩
  · exact ⟨1, by decide, rfl, rfl⟩
  · exact ⟨2, by decide, rfl, rfl⟩
  · exact ⟨3, by decide, rfl, rfl⟩
theorem coded_errO (a : Nat → Addr) (c : Nat) (w : World) (h : Sents w a) (hc : c = 0 ∨ c = 1 ∨ c = 2 ∨ c = 3 ∨ c = 4) :
    Calls Tryd.prog 27 #[errO (ovOf a) c, .int .i64 c] w fun r w' => r = .returned (.bool true) ∧ Below w.heap.size w w' := by
  rcases hc with rfl | hc
  · refine (coded_nil 0 w).mono ?_
    rintro r w' ⟨rfl, rfl⟩
    exact ⟨rfl, Below.refl _ _⟩
  · obtain ⟨k, hk, rfl, e⟩ := errO_sent (a := a) hc
    rw [e]
    refine (coded_sent k hk a _ w h).mono ?_
    rintro r w' ⟨rfl, hb⟩
    exact ⟨ret_bool (by simp), hb⟩

/-- An error that is the fault (c, at), behind whatever happens. -/
def Tells (w' : World) (x : Value) (c : Nat) (at_ : Int) : Prop :=
  ∀ W, Below w'.heap.size w' W → Calls Tryd.prog 24 #[x, .agg #[.int .i64 c, .int .i64 at_]] W fun r W' => r = .returned (.bool true) ∧ Below W.heap.size W W'
theorem Tells.below {w w' : World} {x : Value} {c : Nat} {at_ : Int} (h : Tells w x c at_) (hb : Below w.heap.size w w') : Tells w' x c at_ := fun W hW => h W (bthen hb hW)
theorem tells_nil (w : World) (at_ : Int) : Tells w .nilIface 0 at_ := fun W _ =>
  faulted_zero .nilIface (-1) at_ W (fun W' _ => (code_nil W').mono fun _ _ ⟨h1, h2⟩ => ⟨h1, by rw [h2]; exact Below.refl _ _⟩)
theorem tells_bare (w : World) (a : Nat → Addr) (hS : Sents w a) (j : Nat) (hj : j < 12) : Tells w (.iface 161 (.pointer (some (a j)))) (j + 1) (-1) := fun W hW => by
  refine faulted_at _ _ (-1) W (by omega) (fun W' hW' => ?_)
  rw [show ((j + 1 : Nat) : Int) = (j : Int) + 1 by omega]
  exact code_sent j hj a W' ((hS.below hW).below hW')
theorem tells_at (w : World) (a : Nat → Addr) (hS : Sents w a) (j : Nat) (hj : j < 12) (p : Nat) (at_ : Int) (c0 : w.cell? ⟨p, 0, none⟩ = some (.int .i64 at_)) (c1 : w.cell? ⟨p, 1, none⟩ = some (.iface 161 (.pointer (some (a j))))) :
    Tells w (.iface 66 (.pointer (some ⟨p, 0, none⟩))) (j + 1) at_ := fun W hW => by
  refine faulted_at _ _ at_ W (by omega) (fun W' hW' => ?_)
  rw [show ((j + 1 : Nat) : Int) = (j : Int) + 1 by omega]
  have d0 := (hW.cell (World.block_lt_of_cell? _ _ c0)).trans c0
  have d1 := (hW.cell (World.block_lt_of_cell? _ _ c1)).trans c1
  exact code_fault j hj at_ p a W' ((hS.below hW).below hW') ((hW'.cell (World.block_lt_of_cell? _ _ d0)).trans d0) ((hW'.cell (World.block_lt_of_cell? _ _ d1)).trans d1)

theorem tells_ocheck {a : Nat → Addr} {base : Nat} {l : List Opx} {w' : World} {x : Value} (hS : Sents w' a) (h : OCheckRes (ovOf a) base (Go.Delta.faultO l) w' (.returned x)) : Tells w' x (Go.Delta.faultO l).1 (Go.Delta.faultO l).2 := by
  have hcode := faultO_code l
  generalize Go.Delta.faultO l = f at *
  obtain ⟨c, at_⟩ := f
  simp only at hcode ⊢
  unfold OCheckRes at h
  by_cases hc : c = 0
  · subst hc
    rw [if_pos rfl] at h
    obtain rfl : x = .nilIface := by injection h
    exact tells_nil _ _
  · rw [if_neg hc] at h
    obtain ⟨j, hj, hcj, e⟩ := errO_sent (a := a) (c := c) (by omega)
    subst hcj
    obtain ⟨p, hr, _, c0, c1⟩ := h
    have hx : x = .iface 66 (.pointer (some ⟨p, 0, none⟩)) := by injection hr
    simp only at c0 c1
    rw [e] at c1
    rw [hx]
    exact tells_at _ a hS j hj p at_ c0 c1
theorem ocheck_uni (v : Value) (l : List Opx) (a : Nat → Addr) (w : World) (hv : ORow w v l) (hl : l.length ≤ 1000000) (hs : Short l) (hS : Sents w a) :
    Calls Tryd.prog 13 #[v] w fun r w' => (∃ x, r = .returned x ∧ Tells w' x (Go.Delta.faultO l).1 (Go.Delta.faultO l).2) ∧ Below w.heap.size w w' := by
  refine (ocheck_ok v l (ovOf a) w hv hl hs hS.oer).mono ?_
  rintro r w' ⟨hr, hb⟩
  refine ⟨?_, hb⟩
  have hx : ∃ x, r = .returned x := by
    unfold OCheckRes at hr
    split at hr
    · exact ⟨_, hr⟩
    · obtain ⟨p, hr, _⟩ := hr; exact ⟨_, hr⟩
  obtain ⟨x, rfl⟩ := hx
  exact ⟨x, rfl, tells_ocheck (hS.below hb) hr⟩
end Go.Proofs.YtcenohaadggdiacDoor
