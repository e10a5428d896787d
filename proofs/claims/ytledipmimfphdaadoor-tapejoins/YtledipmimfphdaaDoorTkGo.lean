/-
  Package tape meets what the laws ask of it.
-/
import Derived.Test.YtledipmimfphdaaDoorTkBack
import Derived.Test.YtledipmimfphdaaDoorTapeAll
import Derived.Test.YtledipmimfphdaaDoorAtLeast
namespace Go.Proofs.YtledipmimfphdaaDoor
open Go.RowKit
open Go.Tape

theorem TkO.fine (v : Value) (d : Tp) : Fine (TkO v d) := Pack.fine _
/-- What a call stands on: the world at the law's beginning, and what is new. -/
def TkW (W0 : World) (w : World) : Prop := Below W0.heap.size W0 w
theorem TkW.size {W0 w : World} (h : TkW W0 w) : W0.heap.size ≤ w.heap.size := Below.size h
theorem TkO.room {B : Nat} {v : Value} {d : Tp} {M : Foot} {W : World} (h : Star [TkO v d] M W) (hM : ∀ k, M k → B ≤ k) : B ≤ W.heap.size := by
  obtain ⟨p, x, c, n, rfl, _, hS⟩ := TkO.open (Sep.of_star h)
  obtain ⟨M', h1, h2⟩ := hS
  obtain ⟨M1, M2, hA, k1, _, _, hm⟩ := h1.cons_inv
  have hp : M' p := (hm p).2 (.inl ((k1.2 p).2 rfl))
  have hlt := hA.lt k1 p ((k1.2 p).2 rfl)
  rcases h2.foot p hp with e | e
  · have := hM p e; omega
  · omega
theorem rowF_texts {M0 : Foot} {w0 w : World} {x : Value} {s : ByteArray} {L : List Fam} (h : Sep M0 w0 (OwnF 9 1 x (readT s.data.toList).1.length ((readT s.data.toList).1.map recV) :: L) w) : Sep M0 w0 (RowF strV x (texts s) :: L) w := by
  refine Sep.turn (L1 := [_]) h fun M hM => ⟨M, Star.one (RowF.fine _ _ _) (RowF.of_own (n := (readT s.data.toList).1.length) (T := 9) ?_), Step.refl _ _⟩
  unfold texts
  rw [List.map_map]
  exact hM
section
variable {a : Nat → Addr} {e f : TypeId × Value} {W0 : World} (hE0 : TkEnv a e f W0)
include hE0
theorem tkEnv {w : World} (h : TkW W0 w) : TkEnv a e f w := hE0.below h
theorem tkEnvs {M : Foot} {W : World} (h : TkW W0 W) (hM : ∀ k, M k → W0.heap.size ≤ k) : ∀ L' w', Sep M W L' w' → TkEnv a e f w' := fun _ _ q =>
  hE0.below (Below.trans h (q.belowL h.size hM))
theorem tapeGo : TapeGo a (TkW W0) (fun v d => AtL W0.heap.size (TkO v d)) where
  env := fun h k => bthen h k
  new := fun b W hb hW M hM => by
    have hM' := hM.nil_inv
    refine (tkNew_ok b W (by omega) M hM).mono ?_
    rintro r w' ⟨_, ⟨q, rfl, rfl⟩, hs⟩
    exact ⟨_, ⟨q, rfl, rfl⟩, hs.atL hW.size (fun k e => (hM' k e).elim)⟩
  append := fun v d s W hd hs hW M hM => by
    obtain ⟨h1, h2⟩ := hM.ofAtL (TkO.fine v d)
    refine (tkAppend_ok v d s (Sep.of_star h1) (tkEnvs hE0 hW h2) hd hs).mono ?_
    rintro r w' ⟨rfl, hs'⟩
    exact ⟨_, ⟨rfl, rfl⟩, hs'.atL hW.size h2⟩
  recover := fun v d W hd hW M hM => by
    obtain ⟨h1, h2⟩ := hM.ofAtL (TkO.fine v d)
    refine (tkBack_ok v d (Sep.of_star h1) (tkEnvs hE0 hW h2) hd).mono ?_
    rintro r w' ⟨x, rfl, hs'⟩
    exact ⟨_, ⟨x, rfl, rfl⟩, ((rowF_texts hs').atL hW.size h2).unL (RowF.fine _ _ _)⟩
  bytes := fun v d W M hM => by
    obtain ⟨h1, h2⟩ := hM.ofAtL (TkO.fine v d)
    refine (tkBytes_ok v d W M h1).mono ?_
    rintro r w' ⟨_, ⟨rfl, rfl⟩, hs'⟩
    exact ⟨_, ⟨rfl, rfl⟩, hs'.atL (TkO.room h1 h2) h2⟩
theorem tapeAll : TapeAll a (TkW W0) (fun v d => AtL W0.heap.size (TkO v d)) where
  go := tapeGo hE0
  cut := fun v d n W hn hW M hM => by
    obtain ⟨h1, h2⟩ := hM.ofAtL (TkO.fine v d)
    refine (tkCut_ok v d n W (tkEnv hE0 hW).err hn M h1).mono ?_
    rintro r w' ⟨_, ⟨rfl, rfl⟩, hs'⟩
    exact ⟨_, ⟨rfl, rfl⟩, hs'.atL hW.size h2⟩
  on := fun v d W M hM => by
    obtain ⟨h1, h2⟩ := hM.ofAtL (TkO.fine v d)
    refine (tkOn_ok v d W M h1).mono ?_
    rintro r w' ⟨_, ⟨rfl, rfl⟩, hs'⟩
    exact ⟨_, ⟨rfl, rfl⟩, hs'.atL (TkO.room h1 h2) h2⟩
  power := fun v d W M hM => by
    obtain ⟨h1, h2⟩ := hM.ofAtL (TkO.fine v d)
    refine (tkPower_ok v d W M h1).mono ?_
    rintro r w' ⟨_, ⟨rfl, rfl⟩, hs'⟩
    exact ⟨_, ⟨rfl, rfl⟩, hs'.atL (TkO.room h1 h2) h2⟩
  read := fun s W hs hW M hM => by
    refine (tkRead_tri s W (tkEnv hE0 hW) (by omega) M hM).mono ?_
    rintro r w' ⟨_, ⟨x, rfl, rfl⟩, hs'⟩
    exact ⟨_, ⟨x, rfl, rfl⟩, rowF_texts hs'⟩
end
end Go.Proofs.YtledipmimfphdaaDoor
