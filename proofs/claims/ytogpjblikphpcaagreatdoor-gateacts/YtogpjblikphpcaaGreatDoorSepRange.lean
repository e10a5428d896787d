/-
  A range over a function, over objects that lie apart: the loop's record is one of them. No function of the program.
-/
import Derived.Test.YtogpjblikphpcaaGreatDoorSep
import Derived.RangeFuncNested
import Derived.RangeFuncCalls
import Derived.RangeFuncLeaves
namespace Go.Proofs.YtogpjblikphpcaaGreatDoor
open Go.RowKit

/-- Block b holds this object (a loop's record; what is deferred). -/
def ObjF (b : Nat) (o : Obj) : Fam := fun M w => w.heap[b]? = some o ∧ ∀ k, M k ↔ k = b
theorem ObjF.fine (b : Nat) (o : Obj) : Fine (ObjF b o) :=
  ⟨fun h k hk => by obtain rfl := (h.2 k).1 hk; exact (Array.getElem?_eq_some_iff.1 h.1).1, fun h _ hk => ⟨(hk b ((h.2 b).2 rfl)).trans h.1, h.2⟩⟩
theorem Step.putObj {M : Foot} {w : World} {b : Nat} (hb : M b) (o : Obj) : Step M w (w.putObj b o) M :=
  ⟨rfl, rfl, rfl, by simp, fun k _ hn => World.putObj_heap_other (fun e => hn (e ▸ hb)), fun _ h => .inl h⟩
theorem Sep.obj {M0 : Foot} {w0 w : World} {b : Nat} {o : Obj} {L : List Fam} (h : Sep M0 w0 (ObjF b o :: L) w) : w.heap[b]? = some o := by
  obtain ⟨M, hM, _⟩ := h.head
  exact hM.1
theorem Sep.putObj {M0 : Foot} {w0 w : World} {b : Nat} {o : Obj} {L : List Fam} (h : Sep M0 w0 (ObjF b o :: L) w) (o' : Obj) : Sep M0 w0 (ObjF b o' :: L) (w.putObj b o') :=
  Sep.turn (L1 := [_]) h fun M hM => ⟨M, Star.one (ObjF.fine _ _) ⟨World.putObj_heap_same (Array.getElem?_eq_some_iff.1 hM.1).1, hM.2⟩, Step.putObj ((hM.2 b).2 rfl) o'⟩
theorem Sep.newObj {M0 : Foot} {w0 w : World} {L : List Fam} (h : Sep M0 w0 L w) (o : Obj) : Sep M0 w0 (ObjF w.heap.size o :: L) (w.alloc o) :=
  Sep.more (L1 := [_]) h ((Below.refl _ _).alloc (Nat.le_refl _) _) (Star.one (M := fun k => k = w.heap.size) (ObjF.fine _ _) ⟨heap_alloc_new w _, fun _ => Iff.rfl⟩) (fun _ e => by omega)

theorem Star.perm {L L' : List Fam} (hp : L.Perm L') : ∀ {M : Foot} {w : World}, Star L M w → Star L' M w := by
  induction hp with
  | nil => exact fun h => h
  | cons A _ ih => exact fun h => Star.under (fun _ => ih) h
  | swap A C L => exact fun h => h.sw
  | trans _ _ h1 h2 => exact fun h => h2 (h1 h)
theorem Sep.perm {M0 : Foot} {w0 w : World} {L L' : List Fam} (h : Sep M0 w0 L w) (hp : L.Perm L') : Sep M0 w0 L' w := by
  obtain ⟨M, h1, h2⟩ := h
  exact ⟨M, h1.perm hp, h2⟩
theorem map_range_get : ∀ L : List Fam, (List.range L.length).map (fun i => L.getD i fun _ _ => False) = L := fun L => by
  refine List.ext_getElem (by simp) fun i h1 h2 => ?_
  simp [h2]
/-- The first ones in another order. -/
theorem Sep.order {M0 : Foot} {w0 w : World} {L0 R : List Fam} (is : List Nat) (h : Sep M0 w0 (L0 ++ R) w) (hp : is.Perm (List.range L0.length) := by (simp only [List.length_cons, List.length_nil]; decide)) : Sep M0 w0 (is.map (fun i => L0.getD i fun _ _ => False) ++ R) w := by
  refine h.perm (List.Perm.append_right R ?_)
  have := (hp.map (fun i => L0.getD i fun _ _ => False)).symm
  rwa [map_range_get] at this

theorem Sep.cellAt {M0 : Foot} {w0 w : World} {L : List Fam} {p : Nat} {T : TypeId} {vs : List Value} (h : Sep M0 w0 L w) (hm : CellsF p T vs ∈ L) (i : Nat) : w.cell? ⟨p, i, none⟩ = vs[i]? ∧ w.frozen? ⟨p, i, none⟩ = false := by
  obtain ⟨M, hM⟩ := h.mem hm
  exact hM.cell i

/-- A loop's record. -/
def lrec (fn : FuncId) (tmps : Array Value) (ps : Array Tmp) (assign body : Code) (D : Nat) (st : LoopState) (pe : Option Code) : Obj :=
  .loop { state := st, pending := pe, fn, tmps, params := ps, assign, body, defers := D }
abbrev nocalls : Obj := .deferred (some [])

/-- How a round ends: on, or left by a jump. -/
def roundQ (M0 : Foot) (w0 : World) (l : Nat) (busy : Obj) (On : List Fam → Prop) (Off : Code → List Fam → Prop) : Exit → Act → World → Prop
  | .normal, _, w => ∃ L', On L' ∧ Sep M0 w0 (ObjF l busy :: L') w
  | .ret, _, w => ∃ L', Off .ret L' ∧ Sep M0 w0 (ObjF l busy :: L') w
  | .exit id, _, w => ∃ L', Off (.exit id) L' ∧ Sep M0 w0 (ObjF l busy :: L') w
  | .goto t, _, w => ∃ L', Off (.goto t) L' ∧ Sep M0 w0 (ObjF l busy :: L') w
  | .panic _, _, _ => False
  | .outgrown, _, _ => False

theorem YieldAt.wide {n m : Nat} {P : Program} {l : Nat} {args : Array Value} {W : World} {R : Ending → World → Prop} (h : YieldAt Fence.wide n P l args W R) : YieldAt Fence.wide m P l args W R := by
  obtain ⟨fn, tmps, assign, body, hy, hR⟩ := h
  exact ⟨fn, tmps, assign, body, hy, hR.1, fun c cs _ => hR.2 c cs (room_wide _)⟩

/-- One round. -/
theorem yield_sep {P : Program} {n : Nat} {M0 : Foot} {w0 W : World} {L : List Fam} {l D : Nat} {fn : FuncId} {tmps : Array Value} {ps : Array Tmp} {assign body : Code} {args : Array Value} {a1 : Act} {On : List Fam → Prop} {Off : Code → List Fam → Prop} {rec : LoopState → Option Code → Obj}
    (hrec : rec = lrec fn tmps ps assign body D) (hS : Sep M0 w0 (ObjF l (rec .ready none) :: L) W) (hps : args.size = ps.size)
    (ha : ∀ K : Act → World → Prop, K a1 W → assign.wpIn (Fence.wide.inRound l) n P (Exit.then K (fun _ _ _ => False)) { tmps := (ps.zip args).foldl (fun t (p, v) => t.setIfInBounds p v) tmps, defers := [] } W)
    (hbody : ∀ W', Sep M0 w0 (ObjF l (rec .busy none) :: L) W' → body.wpIn (Fence.wide.inRound l) n P (roundQ M0 w0 l (rec .busy none) On Off) a1 W') :
    YieldAt Fence.wide n P l args W fun e W' => (e = .returned (.bool true) ∧ ∃ L', On L' ∧ Sep M0 w0 (ObjF l (rec .ready none) :: L') W') ∨
      (e = .returned (.bool false) ∧ ∃ c L', Off c L' ∧ Sep M0 w0 (ObjF l (rec .done (some c)) :: L') W') := by
  subst hrec
  have hy := run_yield (P := P) (args := args) hS.obj hps
  refine ⟨fn, _, assign, body, hy, roundIn_of_wpIn trivial (ha _ ?_)⟩
  refine ⟨_, run_beginRound hS.obj rfl, ?_⟩
  refine wpIn_mono (hbody _ (hS.putObj _)) ?_
  rintro e a3 W3 hp
  cases e with
  | normal =>
    obtain ⟨L', hon, h3⟩ := hp
    exact ⟨_, _, run_endRound (P := P) none h3.obj, .inl ⟨rfl, L', hon, h3.putObj _⟩⟩
  | ret =>
    obtain ⟨L', hoff, h3⟩ := hp
    exact ⟨_, _, run_endRound (P := P) (some .ret) h3.obj, .inr ⟨rfl, .ret, L', hoff, h3.putObj _⟩⟩
  | exit id =>
    obtain ⟨L', hoff, h3⟩ := hp
    exact ⟨_, _, run_endRound (P := P) (some (.exit id)) h3.obj, .inr ⟨rfl, .exit id, L', hoff, h3.putObj _⟩⟩
  | goto t =>
    obtain ⟨L', hoff, h3⟩ := hp
    exact ⟨_, _, run_endRound (P := P) (some (.goto t)) h3.obj, .inr ⟨rfl, .goto t, L', hoff, h3.putObj _⟩⟩
  | panic ch => exact hp.elim
  | outgrown => exact hp.elim

/-- The statement: the iterator is called with yield; what is left when it has returned. -/
theorem rangeFunc_sep {P : Program} {n : Nat} {M0 : Foot} {w0 w : World} {L : List Fam} {g : Operand} {ps : Array Tmp} {assign body : Code} {Q : Exit → Act → World → Prop} {a : Act} (hS : Sep M0 w0 L w)
    {gf : Nat} {lb : Array Value} (hg : a.eval g = .func (.func gf) #[] lb) (eg : ∀ args w, (callFunc gf args).run P w = .ok (.enter gf args) w)
    (h : ∀ (fn : FuncId) (l D : Nat) (W : World) (rec : LoopState → Option Code → Obj), rec = lrec fn a.tmps ps assign body D → Sep M0 w0 (ObjF l (rec .ready none) :: ObjF D nocalls :: L) W →
      Calls P gf (#[.func (.yield l) #[] #[]] ++ lb) W fun e W' => (∃ v, e = .returned v) ∧ ∃ (st : LoopState) (jump : Option Code) (L' : List Fam), st ≠ .busy ∧ Sep M0 w0 (ObjF l (rec st jump) :: L') W' ∧
        ∀ W'', Sep M0 w0 L' W'' → match jump with
          | none => Q .normal { a with defers := { target := .collected D, args := #[] } :: a.defers } W''
          | some c => c.wpIn Fence.wide n P Q { a with defers := { target := .collected D, args := #[] } :: a.defers } W'') :
    (Code.rangeFunc g ps assign body).wpIn Fence.wide n P Q a w := by
  refine wpIn_rangeFunc ?_
  intro fn hfn
  have h1 : Sep M0 w0 (ObjF (w.heap.size + 1) (lrec fn a.tmps ps assign body w.heap.size .ready none) :: ObjF w.heap.size nocalls :: L) ((w.alloc nocalls).alloc (lrec fn a.tmps ps assign body w.heap.size .ready none)) := by
    have := (hS.newObj nocalls).newObj (lrec fn a.tmps ps assign body w.heap.size .ready none)
    rwa [World.size_alloc] at this
  obtain ⟨W1, hW1⟩ : ∃ W1, (w.alloc nocalls).alloc (lrec fn a.tmps ps assign body w.heap.size .ready none) = W1 := ⟨_, rfl⟩
  rw [hW1] at h1
  refine ⟨w.heap.size + 1, [{ target := .collected w.heap.size, args := #[] }], W1, { target := .fn (.func gf) lb, args := #[.func (.yield (w.heap.size + 1)) #[] #[]] }, W1, gf,
    #[.func (.yield (w.heap.size + 1)) #[] #[]] ++ lb, W1, ?_, ?_, ?_, ?_, ?_, ?_⟩
  · rw [← hW1]; exact run_enterLoop_outer _ _ _ _ _
  · simp only [resolve, hg]
    simp [go_sem]
  · intro f' hf'; trivial
  · simp [invoke, go_sem, eg]
  · intro e; cases e
  · refine (callsIn_wide.2 (h fn (w.heap.size + 1) w.heap.size _ _ rfl h1)).mono ?_
    rintro e W2 ⟨⟨v, rfl⟩, st, jump, L', hst, h2, h3⟩
    exact ⟨jump, _, run_endLoop (P := P) h2.obj hst, h3 _ (h2.putObj _).drop⟩
end Go.Proofs.YtogpjblikphpcaaGreatDoor
