/-
  Objects that lie apart: what a call may turn is the blocks of the object that it is given, and new ones. No function of the program.
-/
import Derived.Test.YtogpjblikphpcaaGreatDoorBase
import Derived.Deep.AppendLies
namespace Go.Proofs.YtogpjblikphpcaaGreatDoor
open Go.RowKit

/-- A set of blocks. -/
abbrev Foot := Nat → Prop
/-- Nothing but the blocks M has turned; they are M' now (new ones among them). -/
structure Step (M : Foot) (w w' : World) (M' : Foot) : Prop where
  os : w'.os = w.os
  tape : w'.tape = w.tape
  output : w'.output = w.output
  size : w.heap.size ≤ w'.heap.size
  block : ∀ k, k < w.heap.size → ¬ M k → w'.heap[k]? = w.heap[k]?
  foot : ∀ k, M' k → M k ∨ w.heap.size ≤ k
def Foot.none : Foot := fun _ => False
theorem Step.refl (M : Foot) (w : World) : Step M w w M := ⟨rfl, rfl, rfl, Nat.le_refl _, fun _ _ _ => rfl, fun _ h => .inl h⟩
theorem Step.trans {M M' M'' : Foot} {a b c : World} (h : Step M a b M') (k : Step M' b c M'') : Step M a c M'' := by
  refine ⟨k.os.trans h.os, k.tape.trans h.tape, k.output.trans h.output, Nat.le_trans h.size k.size, fun i hi hn => ?_, fun i hi => ?_⟩
  · rw [k.block i (by have := h.size; omega) (fun hm => by rcases h.foot i hm with e | e; exact hn e; omega), h.block i hi hn]
  · rcases k.foot i hi with e | e
    · exact h.foot i e
    · have := h.size; exact .inr (by omega)
theorem Step.of_below {w w' : World} (h : Below w.heap.size w w') (M : Foot) : Step M w w' M := ⟨h.os, h.tape, h.output, h.size, fun k hk _ => h.block k hk, fun _ h => .inl h⟩
theorem Step.drew {M M' : Foot} {a w : World} (h : Step M a w M') : Step M a w.drew M' := ⟨h.os, h.tape, h.output, h.size, h.block, h.foot⟩
theorem Step.less {M M' N : Foot} {a w : World} (h : Step M a w M') (hn : ∀ k, N k → M' k) : Step M a w N := ⟨h.os, h.tape, h.output, h.size, h.block, fun k hk => h.foot k (hn k hk)⟩
theorem Step.setCell {M : Foot} {w : World} {p : Addr} (hp : M p.block) (u : Value) : Step M w (w.setCell p u) M :=
  ⟨rfl, rfl, rfl, by simp [World.setCell], fun k _ hn => Below.heap_setCell _ _ _ _ (fun e => hn (e ▸ hp)), fun _ h => .inl h⟩
theorem Step.alloc {M : Foot} (w : World) (o : Obj) : Step M w (w.alloc o) (fun k => M k ∨ k = w.heap.size) :=
  ⟨rfl, rfl, rfl, by simp, fun k hk _ => Below.heap_alloc _ _ _ hk, fun k h => by rcases h with h | h; exact .inl h; exact .inr (by omega)⟩
theorem Step.grown {M : Foot} {w w' : World} {row : Option Nat} (hg : w.grownBy w' row) (hr : ∀ k, row = some k → M k) : Step M w w' M :=
  ⟨hg.os, hg.tape, hg.output, hg.size, fun k hk hn => hg.block k hk (fun e => hn (hr k e.symm)), fun _ h => .inl h⟩
theorem Step.below {M M' : Foot} {w w' : World} {B : Nat} (h : Step M w w' M') (hB : B ≤ w.heap.size) (hM : ∀ k, M k → B ≤ k) : Below B w w' ∧ ∀ k, M' k → B ≤ k :=
  ⟨⟨h.os, h.tape, h.output, h.size, fun k hk => h.block k (by omega) (fun hm => by have := hM k hm; omega)⟩, fun k hk => by rcases h.foot k hk with e | e; exact hM k e; omega⟩

/-- What may be said of an object that lies in the blocks M. -/
abbrev Fam := Foot → World → Prop
structure Fine (A : Fam) : Prop where
  lt : ∀ {M w}, A M w → ∀ k, M k → k < w.heap.size
  keep : ∀ {M w w'}, A M w → w.heap.size ≤ w'.heap.size → (∀ k, M k → w'.heap[k]? = w.heap[k]?) → A M w'
theorem Fine.step {A : Fam} (hA : Fine A) {M N N' : Foot} {w w' : World} (h : A M w) (hs : Step N w w' N') (hd : ∀ k, M k → ¬ N k) : A M w' ∧ ∀ k, M k → ¬ N' k :=
  ⟨hA.keep h hs.size fun k hk => hs.block k (hA.lt h k hk) (hd k hk), fun k hk hn => by
    rcases hs.foot k hn with e | e
    · exact hd k hk e
    · have := hA.lt h k hk; omega⟩
/-- Objects that lie apart. -/
def Star : List Fam → Foot → World → Prop
  | [], M, _ => ∀ k, ¬ M k
  | A :: L, M, w => ∃ M1 M2, Fine A ∧ A M1 w ∧ Star L M2 w ∧ (∀ k, M1 k → ¬ M2 k) ∧ ∀ k, M k ↔ M1 k ∨ M2 k
theorem Star.nil {M : Foot} {w : World} (h : ∀ k, ¬ M k) : Star [] M w := h
theorem Star.nil_inv {M : Foot} {w : World} (h : Star [] M w) : ∀ k, ¬ M k := h
theorem Star.cons {A : Fam} {L : List Fam} {M1 M2 M : Foot} {w : World} (hA : Fine A) (h1 : A M1 w) (h2 : Star L M2 w) (hd : ∀ k, M1 k → ¬ M2 k) (hm : ∀ k, M k ↔ M1 k ∨ M2 k) : Star (A :: L) M w := ⟨M1, M2, hA, h1, h2, hd, hm⟩
theorem Star.cons_inv {A : Fam} {L : List Fam} {M : Foot} {w : World} (h : Star (A :: L) M w) : ∃ M1 M2, Fine A ∧ A M1 w ∧ Star L M2 w ∧ (∀ k, M1 k → ¬ M2 k) ∧ ∀ k, M k ↔ M1 k ∨ M2 k := h
theorem Star.fine : ∀ L, Fine (Star L)
  | [] => ⟨fun h k hk => absurd hk (h.nil_inv k), fun h _ _ => .nil h.nil_inv⟩
  | A :: L => ⟨fun h k hk => by
      obtain ⟨M1, M2, hA, h1, h2, hd, hm⟩ := h.cons_inv
      rcases (hm k).1 hk with e | e; exact hA.lt h1 k e; exact (Star.fine L).lt h2 k e,
    fun h hs hk => by
      obtain ⟨M1, M2, hA, h1, h2, hd, hm⟩ := h.cons_inv
      exact .cons hA (hA.keep h1 hs fun k e => hk k ((hm k).2 (.inl e))) ((Star.fine L).keep h2 hs fun k e => hk k ((hm k).2 (.inr e))) hd hm⟩
theorem Star.append : ∀ {L1 L2 : List Fam} {M1 M2 M : Foot} {w : World}, Star L1 M1 w → Star L2 M2 w → (∀ k, M1 k → ¬ M2 k) → (∀ k, M k ↔ M1 k ∨ M2 k) → Star (L1 ++ L2) M w
  | [], L2, M1, M2, M, w, h1, h2, hd, hm => by
    have h := h1.nil_inv
    · have : M = M2 := funext fun k => propext ⟨fun e => ((hm k).1 e).resolve_left (h k), fun e => (hm k).2 (.inr e)⟩
      rw [this]; exact h2
  | A :: L1, L2, M1, M2, M, w, h1, h2, hd, hm => by
    obtain ⟨N1, N2, hA, k1, k2, kd, km⟩ := h1.cons_inv
    refine .cons hA k1 (Star.append (M := fun k => N2 k ∨ M2 k) k2 h2 (fun k e => hd k ((km k).2 (.inr e))) (fun _ => Iff.rfl)) (fun k e f => ?_) (fun k => ?_)
    · rcases f with f | f
      · exact kd k e f
      · exact hd k ((km k).2 (.inl e)) f
    · rw [hm k, km k, or_assoc]
theorem Star.split : ∀ {L1 L2 : List Fam} {M : Foot} {w : World}, Star (L1 ++ L2) M w → ∃ M1 M2, Star L1 M1 w ∧ Star L2 M2 w ∧ (∀ k, M1 k → ¬ M2 k) ∧ ∀ k, M k ↔ M1 k ∨ M2 k
  | [], L2, M, w, h => ⟨Foot.none, M, .nil (fun _ e => e), h, fun _ e => e.elim, fun k => ⟨.inr, fun e => e.elim False.elim id⟩⟩
  | A :: L1, L2, M, w, h => by
    obtain ⟨N1, N2, hA, k1, k2, kd, km⟩ := Star.cons_inv h
    obtain ⟨P1, P2, p1, p2, pd, pm⟩ := Star.split k2
    refine ⟨fun k => N1 k ∨ P1 k, P2, .cons hA k1 p1 (fun k e f => kd k e ((pm k).2 (.inl f))) (fun _ => Iff.rfl), p2, fun k e f => ?_, fun k => ?_⟩
    · rcases e with e | e
      · exact kd k e ((pm k).2 (.inr f))
      · exact pd k e f
    · rw [km k, pm k, or_assoc]
theorem Star.swap {L1 L2 : List Fam} {M : Foot} {w : World} (h : Star (L1 ++ L2) M w) : Star (L2 ++ L1) M w := by
  obtain ⟨M1, M2, h1, h2, hd, hm⟩ := Star.split h
  exact Star.append h2 h1 (fun k e f => hd k f e) (fun k => by rw [hm k, or_comm])

/-- Where a call stands: from the blocks M0 it has come to objects that lie apart. -/
def Sep (M0 : Foot) (w0 : World) (L : List Fam) (w : World) : Prop := ∃ M, Star L M w ∧ Step M0 w0 w M
theorem Sep.start (w : World) : Sep Foot.none w [] w := ⟨Foot.none, .nil (fun _ e => e), Step.refl _ _⟩
theorem Sep.of_star {L : List Fam} {M : Foot} {w : World} (h : Star L M w) : Sep M w L w := ⟨M, h, Step.refl _ _⟩
theorem Sep.below {w0 w : World} {L : List Fam} (h : Sep Foot.none w0 L w) : Below w0.heap.size w0 w := by
  obtain ⟨M, _, h⟩ := h
  exact (h.below (Nat.le_refl _) (fun _ e => e.elim)).1
theorem Sep.size {M0 : Foot} {w0 w : World} {L : List Fam} (h : Sep M0 w0 L w) : w0.heap.size ≤ w.heap.size := by
  obtain ⟨M, _, h⟩ := h
  exact h.size
theorem Sep.keep {M0 : Foot} {w0 w w' : World} {L : List Fam} (h : Sep M0 w0 L w) (hb : Below w.heap.size w w') : Sep M0 w0 L w' := by
  obtain ⟨M, h1, h2⟩ := h
  exact ⟨M, (Star.fine L).keep h1 hb.size fun k hk => hb.block k ((Star.fine L).lt h1 k hk), h2.trans (Step.of_below hb M)⟩
theorem Sep.drew {M0 : Foot} {w0 w : World} {L : List Fam} (h : Sep M0 w0 L w) : Sep M0 w0 L w.drew := h.keep (Below.refl _ _).drew
theorem Sep.alloc {M0 : Foot} {w0 w : World} {L : List Fam} (h : Sep M0 w0 L w) (o : Obj) : Sep M0 w0 L (w.alloc o) := h.keep ((Below.refl _ _).alloc (Nat.le_refl _) _)
/-- The first of them turn. -/
theorem Sep.turns {M0 : Foot} {w0 w w' : World} {L0 L L1 : List Fam} (h : Sep M0 w0 (L0 ++ L) w) (ht : ∀ M, Star L0 M w → ∃ M', Star L1 M' w' ∧ Step M w w' M') : Sep M0 w0 (L1 ++ L) w' := by
  obtain ⟨M, h1, h2⟩ := h
  obtain ⟨M1, M2, k1, k2, kd, km⟩ := Star.split h1
  obtain ⟨M', t1, t2⟩ := ht M1 k1
  obtain ⟨s1, s2⟩ := (Star.fine L).step k2 t2 (fun k e f => kd k f e)
  refine ⟨fun k => M' k ∨ M2 k, Star.append t1 s1 (fun k e f => s2 k f e) (fun _ => Iff.rfl), h2.trans ⟨t2.os, t2.tape, t2.output, t2.size, fun k hk hn => t2.block k hk (fun e => hn ((km k).2 (.inl e))), fun k e => ?_⟩⟩
  rcases e with e | e
  · exact (t2.foot k e).imp (fun f => (km k).2 (.inl f)) id
  · exact .inl ((km k).2 (.inr e))
theorem Sep.turn {M0 : Foot} {w0 w w' : World} {A : Fam} {L L1 : List Fam} (h : Sep M0 w0 (A :: L) w) (ht : ∀ M, A M w → ∃ M', Star L1 M' w' ∧ Step M w w' M') : Sep M0 w0 (L1 ++ L) w' := by
  refine Sep.turns (L0 := [A]) h fun M hM => ?_
  obtain ⟨M1, M2, hA, k1, k2, kd, km⟩ := hM.cons_inv
  have h := k2.nil_inv
  · have : M = M1 := funext fun k => propext ⟨fun e => ((km k).1 e).resolve_right (h k), fun e => (km k).2 (.inl e)⟩
    rw [this]; exact ht M1 k1
/-- New ones. -/
theorem Sep.more {M0 : Foot} {w0 w w' : World} {L L1 : List Fam} {M' : Foot} (h : Sep M0 w0 L w) (hb : Below w.heap.size w w') (h1 : Star L1 M' w') (hf : ∀ k, M' k → w.heap.size ≤ k) : Sep M0 w0 (L1 ++ L) w' := by
  refine Sep.turns (L0 := []) h fun M hM => ?_
  have hn := hM.nil_inv
  exact ⟨M', h1, ⟨hb.os, hb.tape, hb.output, hb.size, fun k hk _ => hb.block k hk, fun k e => .inr (hf k e)⟩⟩
theorem Sep.swap {M0 : Foot} {w0 w : World} {L1 L2 : List Fam} (h : Sep M0 w0 (L1 ++ L2) w) : Sep M0 w0 (L2 ++ L1) w := by
  obtain ⟨M, h1, h2⟩ := h
  exact ⟨M, h1.swap, h2⟩
theorem Sep.drop {M0 : Foot} {w0 w : World} {A : Fam} {L : List Fam} (h : Sep M0 w0 (A :: L) w) : Sep M0 w0 L w := by
  obtain ⟨M, h1, h2⟩ := h
  obtain ⟨M1, M2, hA, k1, k2, kd, km⟩ := h1.cons_inv
  exact ⟨M2, k2, h2.less fun k e => (km k).2 (.inr e)⟩
theorem Star.sw {A C : Fam} {L : List Fam} {M : Foot} {w : World} (h1 : Star (A :: C :: L) M w) : Star (C :: A :: L) M w := by
  obtain ⟨M1, M2, hA, a1, a2, ad, am⟩ := h1.cons_inv
  obtain ⟨N1, N2, hC, c1, c2, cd, cm⟩ := a2.cons_inv
  refine .cons hC c1 (.cons hA a1 c2 (fun k e f => ad k e ((cm k).2 (.inr f))) (fun _ => Iff.rfl)) (fun k e f => ?_) (fun k => ?_)
  · rcases f with f | f
    · exact ad k f ((cm k).2 (.inl e))
    · exact cd k e f
  · rw [am k, cm k]; exact ⟨fun e => e.elim (fun f => .inr (.inl f)) (fun f => f.elim .inl (fun g => .inr (.inr g))), fun e => e.elim (fun f => .inr (.inl f)) (fun f => f.elim .inl (fun g => .inr (.inr g)))⟩
theorem Star.under {A : Fam} {L L' : List Fam} {w : World} (hL : ∀ M, Star L M w → Star L' M w) {M : Foot} (h : Star (A :: L) M w) : Star (A :: L') M w := by
  obtain ⟨M1, M2, hA, a1, a2, ad, am⟩ := h.cons_inv
  exact .cons hA a1 (hL _ a2) ad am
theorem Sep.sw {M0 : Foot} {w0 w : World} {A C : Fam} {L : List Fam} (h : Sep M0 w0 (A :: C :: L) w) : Sep M0 w0 (C :: A :: L) w := by
  obtain ⟨M, h1, h2⟩ := h
  exact ⟨M, h1.sw, h2⟩
theorem Sep.sw2 {M0 : Foot} {w0 w : World} {A C D : Fam} {L : List Fam} (h : Sep M0 w0 (A :: C :: D :: L) w) : Sep M0 w0 (A :: D :: C :: L) w := by
  obtain ⟨M, h1, h2⟩ := h
  exact ⟨M, h1.under fun _ h => h.sw, h2⟩
/-- The third one ahead. -/
theorem Sep.third {M0 : Foot} {w0 w : World} {A C D : Fam} {L : List Fam} (h : Sep M0 w0 (A :: C :: D :: L) w) : Sep M0 w0 (D :: A :: C :: L) w := h.sw2.sw
theorem Sep.fourth {M0 : Foot} {w0 w : World} {A C D E : Fam} {L : List Fam} (h : Sep M0 w0 (A :: C :: D :: E :: L) w) : Sep M0 w0 (E :: A :: C :: D :: L) w := by
  obtain ⟨M, h1, h2⟩ := h
  exact Sep.third ⟨M, h1.under fun _ h => h.under fun _ h => h.sw, h2⟩
theorem Sep.head {M0 : Foot} {w0 w : World} {A : Fam} {L : List Fam} (h : Sep M0 w0 (A :: L) w) : ∃ M, A M w ∧ Fine A := by
  obtain ⟨M, h1, _⟩ := h
  obtain ⟨M1, M2, hA, a1, _⟩ := h1.cons_inv
  exact ⟨M1, a1, hA⟩
/-- What a call does with the objects that it is given. -/
def Tri (P : Program) (f : FuncId) (args : Array Value) (L0 : List Fam) (φ : Ending → List Fam → Prop) (W : World) : Prop :=
  ∀ M, Star L0 M W → Calls P f args W fun r w' => ∃ L1, φ r L1 ∧ Sep M W L1 w'
theorem Sep.call {P : Program} {f : FuncId} {args : Array Value} {M0 : Foot} {w0 w : World} {L0 L : List Fam} {φ : Ending → List Fam → Prop} (h : Sep M0 w0 (L0 ++ L) w)
    (hc : Tri P f args L0 φ w) : Calls P f args w fun r w' => ∃ L1, φ r L1 ∧ Sep M0 w0 (L1 ++ L) w' := by
  obtain ⟨M, h1, h2⟩ := h
  obtain ⟨M1, M2, k1, k2, kd, km⟩ := Star.split h1
  refine (hc M1 k1).mono ?_
  rintro r w' ⟨L1, hφ, M', t1, t2⟩
  refine ⟨L1, hφ, ?_⟩
  obtain ⟨s1, s2⟩ := (Star.fine L).step k2 t2 (fun k e f => kd k f e)
  refine ⟨fun k => M' k ∨ M2 k, Star.append t1 s1 (fun k e f => s2 k f e) (fun _ => Iff.rfl), h2.trans ⟨t2.os, t2.tape, t2.output, t2.size, fun k hk hn => t2.block k hk (fun e => hn ((km k).2 (.inl e))), fun k e => ?_⟩⟩
  rcases e with e | e
  · exact (t2.foot k e).imp (fun f => (km k).2 (.inl f)) id
  · exact .inl ((km k).2 (.inr e))
/-- A call that makes memory alone, or none. -/
theorem Tri.of_below {P : Program} {f : FuncId} {args : Array Value} {L0 : List Fam} {ψ : Ending → Prop} {W : World} (h : ∀ M, Star L0 M W → Calls P f args W fun r w' => ψ r ∧ Below W.heap.size W w') :
    Tri P f args L0 (fun r L => ψ r ∧ L = L0) W := fun M hM => (h M hM).mono fun _ _ ⟨a, b⟩ => ⟨L0, ⟨a, rfl⟩, (Sep.of_star hM).keep b⟩

/-- One object alone. -/
theorem Star.one {A : Fam} {M : Foot} {w : World} (hA : Fine A) (h : A M w) : Star [A] M w :=
  .cons hA h (M2 := Foot.none) (.nil (fun _ e => e)) (fun _ _ e => e) (fun _ => ⟨.inl, fun e => e.elim id False.elim⟩)
theorem Star.two {A C : Fam} {M N : Foot} {w : World} (hA : Fine A) (hC : Fine C) (h : A M w) (k : C N w) (hd : ∀ i, M i → ¬ N i) : Star [A, C] (fun i => M i ∨ N i) w :=
  .cons hA h (Star.one hC k) hd (fun _ => Iff.rfl)

/-- A row that is owned. -/
def OwnF (e : TypeId) (size : Nat) (v : Value) (n : Nat) (xs : List Value) : Fam := fun M w => w.ownsRow 0 e size v n xs ∧ ∀ k, M k ↔ v.ownBlock = some k
theorem OwnF.fine (e : TypeId) (size : Nat) (v : Value) (n : Nat) (xs : List Value) : Fine (OwnF e size v n xs) := by
  refine ⟨fun h k hk => ((World.ownsRow.lt h.1) k ((h.2 k).1 hk)).2, fun h hs hk => ⟨?_, h.2⟩⟩
  rcases h.1 with ⟨h1, h2 | ⟨g, c, cur, e1, e2, e3, e4⟩⟩
  · exact ⟨h1, Or.inl h2⟩
  · exact ⟨h1, Or.inr ⟨g, c, cur, e1, e2, (hk g ((h.2 g).2 (by rw [e1]; rfl))).trans e3, e4⟩⟩
theorem OwnF.nil (e : TypeId) (size : Nat) (w : World) : OwnF e size (.slice none 0 0) 0 [] Foot.none w := ⟨World.ownsRow_nil w 0 e size, fun k => ⟨False.elim, fun h => by simp [Value.ownBlock] at h⟩⟩
/-- An append to a row: by where the new one lies. -/
theorem OwnF.append {e : TypeId} {size n m : Nat} {v v' : Value} {xs news : List Value} {M : Foot} {w w' : World} (h : OwnF e size v n xs M w) (hown : w'.ownsRow 0 e size v' m news) (hg : w.grownBy w' v.ownBlock) (hat : v'.ownBlock = v.ownBlock ∨ v'.ownBlock = some w.heap.size) :
    ∃ M', Star [OwnF e size v' m news] M' w' ∧ Step M w w' M' := by
  refine ⟨fun k => v'.ownBlock = some k, Star.one (OwnF.fine _ _ _ _ _) ⟨hown, fun _ => Iff.rfl⟩, ⟨hg.os, hg.tape, hg.output, hg.size, fun k hk hn => hg.block k hk (fun e' => hn ((h.2 k).2 e'.symm)), fun k hk => ?_⟩⟩
  rcases hat with e | e
  · rw [e] at hk; exact .inl ((h.2 k).2 hk)
  · rw [e] at hk; exact .inr (by simp at hk; omega)

section one
variable {α : Type}
/-- A slice of one cell an element that reads as this list. -/
def Row1 (f : α → Value) (w : World) (v : Value) (l : List α) : Prop :=
  ∃ a c, v = .slice a l.length c ∧ (0 < l.length → ∃ b o, a = some ⟨b, o, none⟩ ∧ ∀ j (h : j < l.length), w.cell? ⟨b, o + j, none⟩ = some (f l[j]))
variable {f : α → Value}
theorem Row1.below {w w' : World} {v : Value} {l : List α} (h : Row1 f w v l) (hb : Below w.heap.size w w') : Row1 f w' v l := by
  obtain ⟨a, c, rfl, h⟩ := h
  refine ⟨a, c, rfl, fun hp => ?_⟩
  obtain ⟨b, o, rfl, h'⟩ := h hp
  exact ⟨b, o, rfl, fun j hj => (hb.cell (World.block_lt_of_cell? _ _ (h' j hj))).trans (h' j hj)⟩
theorem Row1.nil (w : World) : Row1 f w (.slice none 0 0) [] := ⟨none, 0, rfl, fun h => by simp at h⟩
theorem Row1.of_own {w : World} {base n : Nat} {T : TypeId} {v : Value} {l : List α} (h : w.ownsRow base T 1 v n (l.map f)) : Row1 f w v l := by
  have hl : l.length = n := by have := h.1; rw [List.length_map] at this; omega
  subst hl
  rcases h.2 with ⟨rfl, h0⟩ | ⟨q, c, cur, rfl, _⟩
  · exact ⟨none, 0, by rw [h0], fun hp => by omega⟩
  · refine ⟨_, c, rfl, fun _ => ⟨q, 0, rfl, fun j hj => ?_⟩⟩
    have k := h.cells (g := q) rfl j (f l[j]) (by rw [List.getElem?_map, List.getElem?_eq_getElem hj]; rfl)
    rw [Go.WideShapes.add_plain] at k
    simpa using k
/-- The same, as an object. -/
def RowF (f : α → Value) (v : Value) (l : List α) : Fam := fun M w => (∃ a c, v = .slice a l.length c ∧ (a = none → c = 0) ∧ (0 < l.length → ∃ b o, a = some ⟨b, o, none⟩ ∧ M b ∧ ∀ j (h : j < l.length), w.cell? ⟨b, o + j, none⟩ = some (f l[j]))) ∧ ∀ k, M k → k < w.heap.size
theorem RowF.fine (f : α → Value) (v : Value) (l : List α) : Fine (RowF f v l) := by
  refine ⟨fun h => h.2, fun h hs hk => ⟨?_, fun k e => Nat.lt_of_lt_of_le (h.2 k e) hs⟩⟩
  obtain ⟨⟨a, c, e, h0, h1⟩, h2⟩ := h
  refine ⟨a, c, e, h0, fun hp => ?_⟩
  obtain ⟨b, o, e2, hM, h'⟩ := h1 hp
  exact ⟨b, o, e2, hM, fun j hj => (World.cell?_of_block (a := ⟨b, o + j, none⟩) (hk b hM)).trans (h' j hj)⟩
theorem RowF.row {v : Value} {l : List α} {M : Foot} {w : World} (h : RowF f v l M w) : Row1 f w v l := by
  obtain ⟨⟨a, c, e, _, h1⟩, _⟩ := h
  refine ⟨a, c, e, fun hp => ?_⟩
  obtain ⟨b, o, e2, _, h'⟩ := h1 hp
  exact ⟨b, o, e2, h'⟩
theorem RowF.nil (w : World) : RowF f (.slice none 0 0) [] Foot.none w := ⟨⟨none, 0, rfl, fun _ => rfl, fun h => by simp at h⟩, fun _ h => h.elim⟩
theorem RowF.of_own {M : Foot} {w : World} {n : Nat} {T : TypeId} {v : Value} {l : List α} (h : OwnF T 1 v n (l.map f) M w) : RowF f v l M w := by
  refine ⟨?_, (OwnF.fine _ _ _ _ _).lt h⟩
  have hl : l.length = n := by have := h.1.1; rw [List.length_map] at this; omega
  obtain ⟨a, c, rfl, h1⟩ := Row1.of_own h.1
  refine ⟨a, c, rfl, fun ha => ?_, fun hp => ?_⟩
  · subst ha
    rcases h.1.2 with ⟨e, _⟩ | ⟨q, c', cur, e, _⟩
    · simp only [Value.slice.injEq] at e; exact e.2.2
    · simp at e
  · obtain ⟨b, o, rfl, h'⟩ := h1 hp
    exact ⟨b, o, rfl, (h.2 b).2 rfl, h'⟩
theorem Sep.rowForm {M0 : Foot} {w0 w : World} {v : Value} {l : List α} {L : List Fam} (h : Sep M0 w0 (RowF f v l :: L) w) : ∃ a c, v = .slice a l.length c ∧ (a = none → c = 0) := by
  obtain ⟨M, hM, _⟩ := h.head
  obtain ⟨⟨a, c, e, h0, _⟩, _⟩ := hM
  exact ⟨a, c, e, h0⟩
theorem Sep.row {M0 : Foot} {w0 w : World} {v : Value} {l : List α} {L : List Fam} (h : Sep M0 w0 (RowF f v l :: L) w) : Row1 f w v l := by
  obtain ⟨M, hM, _⟩ := h.head
  exact hM.row
end one
/-- A slice that lies in none of these blocks. -/
def Out (M : Foot) (v : Value) : Prop := ∀ a n c, v = .slice (some a) n c → 0 < n → ¬ M a.block
theorem Row1.step {α : Type} {f : α → Value} {M M' : Foot} {w w' : World} {v : Value} {l : List α} (h : Row1 f w v l) (ho : Out M v) (hs : Step M w w' M') : Row1 f w' v l ∧ Out M' v := by
  obtain ⟨a, c, rfl, h⟩ := h
  refine ⟨⟨a, c, rfl, fun hp => ?_⟩, fun a' n' c' e hp hm => ?_⟩
  · obtain ⟨b, o, rfl, h'⟩ := h hp
    refine ⟨b, o, rfl, fun j hj => ?_⟩
    have hlt := World.block_lt_of_cell? _ _ (h' j hj)
    exact (World.cell?_of_block (a := ⟨b, o + j, none⟩) (hs.block b hlt (ho _ _ _ rfl hp))).trans (h' j hj)
  · cases e
    obtain ⟨b, o, e, h'⟩ := h hp
    cases e
    have hlt := World.block_lt_of_cell? _ _ (h' 0 hp)
    rcases hs.foot _ hm with k | k
    · exact ho _ _ _ rfl hp k
    · simp only at hlt k; omega
/-- A call that reads a slice among the objects. -/
theorem Tri.row {α : Type} {f : α → Value} {P : Program} {F : FuncId} {args : Array Value} {A : Fam} {v : Value} {l : List α} {φ : Ending → List Fam → Prop} {W : World}
    (h : ∀ M, Star [A] M W → Row1 f W v l → Out M v → Calls P F args W fun r w' => ∃ L1, φ r L1 ∧ Sep M W L1 w') :
    Tri P F args [A, RowF f v l] (fun r L => ∃ L1, φ r L1 ∧ L = L1 ++ [RowF f v l]) W := by
  intro M hM
  obtain ⟨M1, M2, hA, k1, k2, kd, km⟩ := hM.cons_inv
  obtain ⟨N1, N2, hR, r1, r2, rd, rm⟩ := k2.cons_inv
  have hr := r1.row
  have ho : Out M1 v := by
    intro a n c e hp hm
    subst e
    obtain ⟨⟨a', c', e, _, h1⟩, _⟩ := r1
    cases e
    obtain ⟨b, o, e, hb, _⟩ := h1 hp
    cases e
    exact kd _ hm ((rm _).2 (.inl hb))
  have hS : Sep M W ([A] ++ [RowF f v l]) W := Sep.of_star hM
  refine (h M1 (Star.one hA k1) hr ho).mono ?_
  rintro r w' ⟨L1, hφ, M', t1, t2⟩
  refine ⟨L1 ++ [RowF f v l], ⟨L1, hφ, rfl⟩, ?_⟩
  obtain ⟨s1, s2⟩ := (Star.fine [RowF f v l]).step k2 t2 (fun k e f => kd k f e)
  refine ⟨fun k => M' k ∨ M2 k, Star.append t1 s1 (fun k e f => s2 k f e) (fun _ => Iff.rfl), ⟨t2.os, t2.tape, t2.output, t2.size, fun k hk hn => t2.block k hk (fun e => hn ((km k).2 (.inl e))), fun k e => ?_⟩⟩
  rcases e with e | e
  · exact (t2.foot k e).imp (fun f => (km k).2 (.inl f)) id
  · exact .inl ((km k).2 (.inr e))
/-- A call that reads a slice that was there ahead of all of them. -/
theorem Sep.callOld {α : Type} {f : α → Value} {P : Program} {F : FuncId} {args : Array Value} {w0 w : World} {A : Fam} {L : List Fam} {v : Value} {l : List α} {φ : Ending → List Fam → Prop} (hS : Sep Foot.none w0 (A :: L) w) (hv : Row1 f w0 v l)
    (h : ∀ M, Star [A] M w → Row1 f w v l → Out M v → Calls P F args w fun r w' => ∃ L1, φ r L1 ∧ Sep M w L1 w') : Calls P F args w fun r w' => ∃ L1, φ r L1 ∧ Sep Foot.none w0 (L1 ++ L) w' := by
  have hb := hS.below
  have hw := hv.below hb
  have hS' : Sep Foot.none w0 ([A] ++ L) w := hS
  obtain ⟨M, h1, h2⟩ := hS'
  obtain ⟨M1, M2, k1, k2, kd, km⟩ := Star.split h1
  have ho : Out M1 v := by
    intro a n c e hp hm
    obtain ⟨a', c', e', h3⟩ := hv
    subst e'
    cases e
    obtain ⟨b, o, e, h4⟩ := h3 hp
    cases e
    have := World.block_lt_of_cell? _ _ (h4 0 hp)
    rcases h2.foot _ ((km _).2 (.inl hm)) with k | k
    · exact k.elim
    · simp only at this k; omega
  refine (h M1 k1 hw ho).mono ?_
  rintro r w' ⟨L1, hφ, M', t1, t2⟩
  refine ⟨L1, hφ, ?_⟩
  obtain ⟨s1, s2⟩ := (Star.fine L).step k2 t2 (fun k e f => kd k f e)
  refine ⟨fun k => M' k ∨ M2 k, Star.append t1 s1 (fun k e f => s2 k f e) (fun _ => Iff.rfl), h2.trans ⟨t2.os, t2.tape, t2.output, t2.size, fun k hk hn => t2.block k hk (fun e => hn ((km k).2 (.inl e))), fun k e => ?_⟩⟩
  rcases e with e | e
  · exact (t2.foot k e).imp (fun f => (km k).2 (.inl f)) id
  · exact .inl ((km k).2 (.inr e))
theorem Sep.mem {M0 : Foot} {w0 w : World} {A : Fam} : ∀ {L : List Fam}, Sep M0 w0 L w → A ∈ L → ∃ M, A M w
  | B :: L, h, hm => by
    cases hm with
    | head => obtain ⟨M, hM, _⟩ := h.head; exact ⟨M, hM⟩
    | tail _ hm => exact Sep.mem h.drop hm
theorem Sep.ownMem {M0 : Foot} {w0 w : World} {e : TypeId} {size n : Nat} {v : Value} {xs : List Value} {L : List Fam} (h : Sep M0 w0 L w) (hm : OwnF e size v n xs ∈ L) : w.ownsRow 0 e size v n xs := by
  obtain ⟨M, hM⟩ := h.mem hm
  exact hM.1
theorem own_slice' {w : World} {base size n : Nat} {e : TypeId} {v : Value} {xs : List Value} (h : w.ownsRow base e size v n xs) : ∃ a c, v = .slice a n c ∧ n ≤ c := by
  rcases h.2 with ⟨rfl, rfl⟩ | ⟨g, c, _, rfl, _, _, hc, _⟩
  · exact ⟨none, 0, rfl, Nat.le_refl _⟩
  · exact ⟨_, c, rfl, hc⟩
theorem Sep.own {M0 : Foot} {w0 w : World} {e : TypeId} {size n : Nat} {v : Value} {xs : List Value} {L : List Fam} (h : Sep M0 w0 (OwnF e size v n xs :: L) w) : w.ownsRow 0 e size v n xs := by
  obtain ⟨M, hM, _⟩ := h.head
  exact hM.1
theorem Sep.append {M0 : Foot} {w0 w w' : World} {e : TypeId} {size n m : Nat} {v v' : Value} {xs news : List Value} {L : List Fam} (h : Sep M0 w0 (OwnF e size v n xs :: L) w) (hown : w'.ownsRow 0 e size v' m news) (hg : w.grownBy w' v.ownBlock) (hat : v'.ownBlock = v.ownBlock ∨ v'.ownBlock = some w.heap.size) :
    Sep M0 w0 (OwnF e size v' m news :: L) w' := Sep.turn (L1 := [_]) h fun _ hM => hM.append hown hg hat
theorem Sep.nil {M0 : Foot} {w0 w : World} {L : List Fam} (h : Sep M0 w0 L w) (e : TypeId) (size : Nat) : Sep M0 w0 (OwnF e size (.slice none 0 0) 0 [] :: L) w :=
  Sep.more (L1 := [_]) h (Below.refl _ _) (Star.one (OwnF.fine _ _ _ _ _) (OwnF.nil e size w)) (fun _ e => e.elim)

theorem Sep.lies {M0 : Foot} {w0 w w' : World} {e : TypeId} {size n m g c : Nat} {v : Value} {xs news : List Value} {L : List Fam} (h : Sep M0 w0 (OwnF e size v n xs :: L) w) (hown : w'.ownsRow 0 e size (.slice (some ⟨g, 0, none⟩) m c) m news) (hg : w.grownBy w' v.ownBlock) {H : Nat} (hat : v.ownBlock = some g ∨ g = H) (hH : w.heap.size = H) :
    Sep M0 w0 (OwnF e size (.slice (some ⟨g, 0, none⟩) m c) m news :: L) w' := h.append hown hg (hat.imp (fun e => e.symm) (fun e => by rw [e, hH]; rfl))
/-- Objects of which only some values are known, as one. -/
def Pack {ι : Type} (f : ι → List Fam) : Fam := fun M w => ∃ i, Star (f i) M w
theorem Pack.fine {ι : Type} (f : ι → List Fam) : Fine (Pack f) := ⟨fun ⟨i, h⟩ => (Star.fine (f i)).lt h, fun ⟨i, h⟩ hs hk => ⟨i, (Star.fine (f i)).keep h hs hk⟩⟩
theorem Sep.pack {ι : Type} {f : ι → List Fam} {M0 : Foot} {w0 w : World} {L : List Fam} (i : ι) (h : Sep M0 w0 (f i ++ L) w) : Sep M0 w0 (Pack f :: L) w :=
  Sep.turns (L1 := [_]) h fun M hM => ⟨M, Star.one (Pack.fine f) ⟨i, hM⟩, Step.refl _ _⟩
theorem Sep.unpack {ι : Type} {f : ι → List Fam} {M0 : Foot} {w0 w : World} {L : List Fam} (h : Sep M0 w0 (Pack f :: L) w) : ∃ i, Sep M0 w0 (f i ++ L) w := by
  obtain ⟨M, h1, h2⟩ := h
  obtain ⟨M1, M2, _, ⟨i, k1⟩, k2, kd, km⟩ := h1.cons_inv
  exact ⟨i, M, Star.append k1 k2 kd km, h2⟩

/-- An element that is appended lies in a block of its own. -/
theorem news1 (w : World) (x : Value) (T : TypeId) (H : Nat) (hH : w.heap.size = H) : ∀ j u, [x][j]? = some u → (w.alloc (.cells #[x] T)).cell? ((⟨H, 0, none⟩ : Addr).add j) = some u := by
  subst hH
  intro j u hu
  have h := World.news_of_block (heap_alloc_new w (.cells #[x] T)) j u
  exact h hu

theorem news2 (w : World) (x y : Value) (T : TypeId) (H : Nat) (hH : w.heap.size = H) : ∀ j u, [x, y][j]? = some u → (w.alloc (.cells #[x, y] T)).cell? ((⟨H, 0, none⟩ : Addr).add j) = some u := by
  subst hH
  intro j u hu
  exact World.news_of_block (heap_alloc_new w (.cells #[x, y] T)) j u hu

/-- A struct's cells at a block. -/
def CellsF (p : Nat) (T : TypeId) (vs : List Value) : Fam := fun M w => w.heap[p]? = some (.cells vs.toArray T (0, 0)) ∧ ∀ k, M k ↔ k = p
theorem CellsF.fine (p : Nat) (T : TypeId) (vs : List Value) : Fine (CellsF p T vs) :=
  ⟨fun h k hk => by obtain rfl := (h.2 k).1 hk; exact (Array.getElem?_eq_some_iff.1 h.1).1, fun h _ hk => ⟨(hk p ((h.2 p).2 rfl)).trans h.1, h.2⟩⟩
theorem CellsF.cell {p : Nat} {T : TypeId} {vs : List Value} {M : Foot} {w : World} (h : CellsF p T vs M w) (i : Nat) : w.cell? ⟨p, i, none⟩ = vs[i]? ∧ w.frozen? ⟨p, i, none⟩ = false := by
  refine ⟨?_, frozen_of_row w p i vs.toArray T h.1⟩
  rw [cell_of_row w p i vs.toArray T (0, 0) h.1]
  simp
theorem CellsF.set {p : Nat} {T : TypeId} {vs : List Value} {M : Foot} {w : World} (h : CellsF p T vs M w) (i : Nat) (x : Value) : CellsF p T (vs.set i x) M (w.setCell ⟨p, i, none⟩ x) := by
  refine ⟨?_, h.2⟩
  rw [heap_setCell_same w p i vs.toArray T x h.1]
  simp
theorem Sep.cell {M0 : Foot} {w0 w : World} {p : Nat} {T : TypeId} {vs : List Value} {L : List Fam} (h : Sep M0 w0 (CellsF p T vs :: L) w) (i : Nat) : w.cell? ⟨p, i, none⟩ = vs[i]? ∧ w.frozen? ⟨p, i, none⟩ = false := by
  obtain ⟨M, hM, _⟩ := h.head
  exact hM.cell i
theorem Sep.set {M0 : Foot} {w0 w : World} {p : Nat} {T : TypeId} {vs : List Value} {L : List Fam} (h : Sep M0 w0 (CellsF p T vs :: L) w) (i : Nat) (x : Value) : Sep M0 w0 (CellsF p T (vs.set i x) :: L) (w.setCell ⟨p, i, none⟩ x) :=
  Sep.turn (L1 := [_]) h fun M hM => ⟨M, Star.one (CellsF.fine _ _ _) (hM.set i x), Step.setCell ((hM.2 p).2 rfl) x⟩
theorem Sep.fresh {M0 : Foot} {w0 w : World} {L : List Fam} (h : Sep M0 w0 L w) (T : TypeId) (vs : List Value) : Sep M0 w0 (CellsF w.heap.size T vs :: L) (w.alloc (.cells vs.toArray T)) :=
  Sep.more (L1 := [_]) h ((Below.refl _ _).alloc (Nat.le_refl _) _) (Star.one (M := fun k => k = w.heap.size) (CellsF.fine _ _ _) ⟨heap_alloc_new w _, fun _ => Iff.rfl⟩) (fun _ e => by omega)
end Go.Proofs.YtogpjblikphpcaaGreatDoor
