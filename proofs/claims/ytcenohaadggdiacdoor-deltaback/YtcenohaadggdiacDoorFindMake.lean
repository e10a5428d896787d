/-
  Contracts of delta.growing and delta.finding over this dump.
-/
import Derived.Test.YtcenohaadggdiacDoorJoin07
import Derived.Test.YtcenohaadggdiacDoorCopied
import Derived.Deep.RegionWith
namespace Go.Proofs.YtcenohaadggdiacDoor
open Go.RowKit Go.Maps
open Go.Sign (Blk)

theorem growing_ok (p : Nat) (w : World) : Calls Tryd.prog 50 #[.pointer (some ⟨p, 0, none⟩)] w fun r w' => r = .returned (.tuple #[.func (.func 73) #[] #[.pointer (some ⟨w.heap.size, 0, none⟩)], .func (.func 74) #[] #[.pointer (some ⟨w.heap.size, 0, none⟩)]]) ∧ w' = w.alloc (.cells #[.pointer (some ⟨p, 0, none⟩)] 94) := by
  go_enter Tryd.func50, Tryd.ntmps50
  go_wp2
  go_ret2
  exact ⟨rfl, rfl⟩

/-- The sums, whatever the size. -/
def RolledAt (g : Nat) (w : World) (v : Value) (s : List UInt8) (size : Nat) : Prop :=
  (v = .slice none 0 0 ∧ s.length < size) ∨ (∃ c, v = .slice (some ⟨g, 0, none⟩) (s.length + 1 - size) c ∧ size ≤ s.length ∧ ∀ j, j < s.length + 1 - size → w.cell? ⟨g, j, none⟩ = some (.int .i64 (wk ((s.drop j).take size))))
theorem RolledAt.keep {g : Nat} {w w' : World} {v : Value} {s : List UInt8} {size : Nat} (h : RolledAt g w v s size) (hg : g < w.heap.size → w'.heap[g]? = w.heap[g]?) : RolledAt g w' v s size := by
  rcases h with h | ⟨c, hv, hs, hc⟩
  · exact Or.inl h
  · refine Or.inr ⟨c, hv, hs, fun j hj => ?_⟩
    have := hc j hj
    rw [← this]
    exact World.cell?_of_block (hg (World.block_lt_of_cell? _ _ this))
theorem RolledAt.rolled {g : Nat} {w : World} {v : Value} {s : List UInt8} {size : Nat} (h : RolledAt g w v s size) : Rolled w v s size := by
  rcases h with ⟨rfl, h⟩ | ⟨c, rfl, hs, hc⟩
  · exact ⟨none, 0, 0, rfl, by omega, fun h => by omega⟩
  · exact ⟨_, _, c, rfl, rfl, fun _ => ⟨g, rfl, hc⟩⟩
theorem all_uni (s : ByteArray) (size : Nat) (w : World) (hs : s.size ≤ 4000) (h1 : 1 ≤ size) (h2 : size ≤ 64) :
    Calls Tryd.prog 76 #[.string s, .int .i64 size] w fun r w' => ∃ a n c g, r = .returned (.slice a n c) ∧ (w.heap.size ≤ g ∧ (g < w'.heap.size ∨ g = w'.heap.size + 5) ∧ RolledAt g w' (.slice a n c) s.data.toList size) ∧ Below w.heap.size w w' := by
  by_cases hz : size ≤ s.size
  · refine (wAll_ok s size w (by omega) h1 (by omega) hz).mono ?_
    rintro r w' ⟨v, rfl, hown, hb⟩
    have e : s.size - size + 1 = s.data.toList.length + 1 - size := by rw [lenL]; omega
    rw [e] at hown
    obtain ⟨g, c, rfl⟩ : ∃ g c, v = .slice (some ⟨g, 0, none⟩) (s.data.toList.length + 1 - size) c := by
      rcases own_forms hown with ⟨_, h⟩ | h
      · rw [lenL] at h; omega
      · exact h
    exact ⟨_, _, _, g, rfl, ⟨(hown.lt g rfl).1, Or.inl (hown.lt g rfl).2, Or.inr ⟨c, rfl, by rw [lenL]; exact hz, fun j hj => sums_cell hown j hj⟩⟩, hb⟩
  · refine (wAll_none s size w (Or.inr (by omega))).mono ?_
    rintro r w' ⟨rfl, rfl⟩
    exact ⟨_, _, _, w'.heap.size + 5, rfl, ⟨by omega, Or.inr rfl, Or.inl ⟨rfl, by rw [lenL]; omega⟩⟩, Below.refl _ _⟩

theorem cells3 (w : World) (x y z : Value) (t u v : TypeId) : (((w.alloc (.cells #[x] t)).alloc (.cells #[y] u)).alloc (.cells #[z] v)).cell? ⟨w.heap.size, 0, none⟩ = some x ∧ (((w.alloc (.cells #[x] t)).alloc (.cells #[y] u)).alloc (.cells #[z] v)).cell? ⟨w.heap.size + 1, 0, none⟩ = some y ∧ (((w.alloc (.cells #[x] t)).alloc (.cells #[y] u)).alloc (.cells #[z] v)).cell? ⟨w.heap.size + 2, 0, none⟩ = some z := by
  have e0 : (w.alloc (.cells #[x] t)).cell? ⟨w.heap.size, 0, none⟩ = some x := by simp
  have e1 : ((w.alloc (.cells #[x] t)).alloc (.cells #[y] u)).cell? ⟨(w.alloc (.cells #[x] t)).heap.size, 0, none⟩ = some y := by simp
  have e2 : (((w.alloc (.cells #[x] t)).alloc (.cells #[y] u)).alloc (.cells #[z] v)).cell? ⟨((w.alloc (.cells #[x] t)).alloc (.cells #[y] u)).heap.size, 0, none⟩ = some z := by
    generalize (w.alloc (.cells #[x] t)).alloc (.cells #[y] u) = W
    simp
  have s1 : (w.alloc (.cells #[x] t)).heap.size = w.heap.size + 1 := by simp
  have s2 : ((w.alloc (.cells #[x] t)).alloc (.cells #[y] u)).heap.size = w.heap.size + 2 := by simp
  rw [s1] at e1
  rw [s2] at e2
  refine ⟨?_, ?_, e2⟩
  · exact (((Below.refl (w.heap.size + 1) _).alloc (by simp) _).cell (p := ⟨w.heap.size, 0, none⟩) (by simp)).trans ((((Below.refl (w.heap.size + 1) _).alloc (by simp) _).cell (p := ⟨w.heap.size, 0, none⟩) (by simp)).trans e0)
  · exact (((Below.refl (w.heap.size + 2) _).alloc (by simp) _).cell (p := ⟨w.heap.size + 1, 0, none⟩) (by simp)).trans e1
theorem map_block {w w' : World} {m n : Nat} {D : DataW Unit} (h : w.ownsMap Tryd.prog 3 unitElem m n D) (hb : w'.heap[m]? = w.heap[m]?) : w'.ownsMap Tryd.prog 3 unitElem m n D := by
  unfold World.ownsMap at h ⊢
  rw [hb]
  exact h
/-- Only new blocks since; the three boxes as they are. -/
def Since (w : World) (n : Nat) (w' : World) : Prop := Below n w w' ∧ n + 3 ≤ w'.heap.size
section
variable {w W W' : World} {n : Nat} {x y z : Value}
theorem S4_below (h : W.cell? ⟨n, 0, none⟩ = some x ∧ W.cell? ⟨n + 1, 0, none⟩ = some y ∧ W.cell? ⟨n + 2, 0, none⟩ = some z ∧ Since w n W) (hb : Below W.heap.size W W') :
    W'.cell? ⟨n, 0, none⟩ = some x ∧ W'.cell? ⟨n + 1, 0, none⟩ = some y ∧ W'.cell? ⟨n + 2, 0, none⟩ = some z ∧ Since w n W' := by
  obtain ⟨h0, h1, h2, h3, h4⟩ := h
  exact ⟨(hb.cell (World.block_lt_of_cell? _ _ h0)).trans h0, (hb.cell (World.block_lt_of_cell? _ _ h1)).trans h1, (hb.cell (World.block_lt_of_cell? _ _ h2)).trans h2, h3.trans (hb.mono (by omega)), Nat.le_trans h4 hb.size⟩
theorem S4_alloc (h : W.cell? ⟨n, 0, none⟩ = some x ∧ W.cell? ⟨n + 1, 0, none⟩ = some y ∧ W.cell? ⟨n + 2, 0, none⟩ = some z ∧ Since w n W) (o : Obj) :
    (W.alloc o).cell? ⟨n, 0, none⟩ = some x ∧ (W.alloc o).cell? ⟨n + 1, 0, none⟩ = some y ∧ (W.alloc o).cell? ⟨n + 2, 0, none⟩ = some z ∧ Since w n (W.alloc o) := S4_below h ((Below.refl _ _).alloc (Nat.le_refl _) o)
theorem S4_set (h : W.cell? ⟨n, 0, none⟩ = some x ∧ W.cell? ⟨n + 1, 0, none⟩ = some y ∧ W.cell? ⟨n + 2, 0, none⟩ = some z ∧ Since w n W) (b : Nat) (v : Value) (hb : n + 3 ≤ b) :
    (W.setCell ⟨b, 0, none⟩ v).cell? ⟨n, 0, none⟩ = some x ∧ (W.setCell ⟨b, 0, none⟩ v).cell? ⟨n + 1, 0, none⟩ = some y ∧ (W.setCell ⟨b, 0, none⟩ v).cell? ⟨n + 2, 0, none⟩ = some z ∧ Since w n (W.setCell ⟨b, 0, none⟩ v) := by
  obtain ⟨h0, h1, h2, h3, h4⟩ := h
  have hc : Below (n + 3) W (W.setCell ⟨b, 0, none⟩ v) := (Below.refl _ _).setCell (by simpa using hb) v
  exact ⟨(hc.cell (by simp)).trans h0, (hc.cell (by simp)).trans h1, (hc.cell (by simp)).trans h2, h3.trans (hc.mono (by omega)), Nat.le_trans h4 hc.size⟩
theorem S4_since (h : W.cell? ⟨n, 0, none⟩ = some x ∧ W.cell? ⟨n + 1, 0, none⟩ = some y ∧ W.cell? ⟨n + 2, 0, none⟩ = some z ∧ Since w n W) : Below n w W := h.2.2.2.1
theorem bcell {n b : Nat} (h : Below n W W') (x : Nat) (hb : x < n) : W'.cell? ⟨x, b, none⟩ = W.cell? ⟨x, b, none⟩ := h.cell hb
theorem z1 (w : World) (x y : Value) (t u : TypeId) (i : Nat) : ((w.alloc (.cells #[x] t)).alloc (.cells #[y] u)).frozen? ⟨w.heap.size, i, none⟩ = false :=
  ((((Below.refl (w.heap.size + 1) _).alloc (by simp) _).frozen (p := ⟨w.heap.size, i, none⟩) (by simp))).trans (by simp)
theorem z2 (w : World) (x y : Value) (t u : TypeId) : (((w.alloc (.cells #[x] t)).alloc (.cells #[y] u)).cell? ⟨w.heap.size, 0, none⟩).isSome = true := by
  rw [((Below.refl (w.heap.size + 1) (w.alloc (.cells #[x] t))).alloc (by simp) (.cells #[y] u)).cell (p := ⟨w.heap.size, 0, none⟩) (by simp)]
  simp
/-- A block that was there: its cell, and that it may be written, also behind what is laid later. -/
theorem blk_ok (h : Below W.heap.size W W') (x : Nat) (hx : x < W.heap.size) (hf : W.frozen? ⟨x, 0, none⟩ = false) (hc : (W.cell? ⟨x, 0, none⟩).isSome = true) :
    W'.cell? ⟨x, 0, none⟩ = W.cell? ⟨x, 0, none⟩ ∧ (x ≠ W'.heap.size ∧ W'.heap.size ≠ x) ∧ W'.frozen? ⟨x, 0, none⟩ = false ∧ (∀ o, (W'.alloc o).frozen? ⟨x, 0, none⟩ = false) ∧ (∀ o o', ((W'.alloc o).alloc o').frozen? ⟨x, 0, none⟩ = false) ∧ (∀ o, (W'.alloc o).cell? ⟨x, 0, none⟩ = W.cell? ⟨x, 0, none⟩) ∧ (∀ o o', ((W'.alloc o).alloc o').cell? ⟨x, 0, none⟩ = W.cell? ⟨x, 0, none⟩) ∧
    Hid ((W'.cell? ⟨x, 0, none⟩).isSome = true) ∧ Hid (∀ o, ((W'.alloc o).cell? ⟨x, 0, none⟩).isSome = true) ∧ Hid (∀ o o', (((W'.alloc o).alloc o').cell? ⟨x, 0, none⟩).isSome = true) := by
  have hs := h.size
  have h1 := (h.frozen (p := ⟨x, 0, none⟩) hx).trans hf
  have h2 : ∀ o, (W'.alloc o).frozen? ⟨x, 0, none⟩ = false := fun o => (((Below.refl W'.heap.size W').alloc (Nat.le_refl _) o).frozen (p := ⟨x, 0, none⟩) (by simp; omega)).trans h1
  have h3 : ∀ o, (W'.alloc o).cell? ⟨x, 0, none⟩ = W.cell? ⟨x, 0, none⟩ := fun o => (((Below.refl W'.heap.size W').alloc (Nat.le_refl _) o).cell (p := ⟨x, 0, none⟩) (by simp; omega)).trans (h.cell hx)
  have h4 : ∀ o o', ((W'.alloc o).alloc o').cell? ⟨x, 0, none⟩ = W.cell? ⟨x, 0, none⟩ := fun o o' => (((Below.refl W'.heap.size (W'.alloc o)).alloc (by simp) o').cell (p := ⟨x, 0, none⟩) (by simp; omega)).trans (h3 o)
  refine ⟨h.cell hx, ⟨by omega, by omega⟩, h1, h2, fun o o' => ?_, h3, h4, ?_, fun o => ?_, fun o o' => ?_⟩
  · exact (((Below.refl W'.heap.size (W'.alloc o)).alloc (by simp) o').frozen (p := ⟨x, 0, none⟩) (by simp; omega)).trans (h2 o)
  · show (W'.cell? ⟨x, 0, none⟩).isSome = true
    rw [h.cell hx]; exact hc
  · rw [h3 o]; exact hc
  · rw [h4 o o']; exact hc
theorem bfroz {n b : Nat} (h : Below n W W') (x : Nat) (hb : x < n) : W'.frozen? ⟨x, b, none⟩ = W.frozen? ⟨x, b, none⟩ := h.frozen hb
theorem S4_drew (h : W.cell? ⟨n, 0, none⟩ = some x ∧ W.cell? ⟨n + 1, 0, none⟩ = some y ∧ W.cell? ⟨n + 2, 0, none⟩ = some z ∧ Since w n W) :
    W.drew.cell? ⟨n, 0, none⟩ = some x ∧ W.drew.cell? ⟨n + 1, 0, none⟩ = some y ∧ W.drew.cell? ⟨n + 2, 0, none⟩ = some z ∧ Since w n W.drew := ⟨h.1, h.2.1, h.2.2.1, h.2.2.2.1.drew, h.2.2.2.2⟩
end

section
variable {w wm F : World} {b1 b2 m ga size t u : Nat} {rv lv : Value} {L : List Blk} {s : ByteArray}
theorem fin_any {r : Ending} (hre : r = .returned (.func (.func 78) #[] #[.pointer (some ⟨b1, 0, none⟩), .pointer (some ⟨b2, 0, none⟩), .pointer (some ⟨w.heap.size, 0, none⟩), .pointer (some ⟨w.heap.size + 2, 0, none⟩), .pointer (some ⟨w.heap.size + 1, 0, none⟩)])) (hS : F.cell? ⟨w.heap.size, 0, none⟩ = some lv ∧ F.cell? ⟨w.heap.size + 1, 0, none⟩ = some (.int .i64 size) ∧ F.cell? ⟨w.heap.size + 2, 0, none⟩ = some (.string s) ∧ Since w w.heap.size F) (hr : RolledAt ga wm rv s.data.toList size) (hm : wm.ownsMap Tryd.prog 3 unitElem m L.length (wset L)) (hV : ∀ W : World, Below w.heap.size w W → RowIn W lv L) (h1 : F.cell? ⟨b1, 0, none⟩ = some rv) (h2 : F.cell? ⟨b2, 0, none⟩ = some (.map (some m))) (hg : ga < wm.heap.size → F.heap[ga]? = wm.heap[ga]?) (hmm : F.heap[m]? = wm.heap[m]?) (hb1 : w.heap.size ≤ b1) (hb2 : w.heap.size ≤ b2) (hmn : w.heap.size ≤ m) :
    ∃ x1 x2 x3 x4 x5 y rv', r = .returned (.func (.func 78) #[] #[.pointer (some ⟨x1, 0, none⟩), .pointer (some ⟨x2, 0, none⟩), .pointer (some ⟨x3, 0, none⟩), .pointer (some ⟨x4, 0, none⟩), .pointer (some ⟨x5, 0, none⟩)]) ∧ FEnv x1 x2 x3 x4 x5 y F L size s rv' lv ∧ Below w.heap.size w F ∧ w.heap.size ≤ x1 ∧ w.heap.size ≤ x2 ∧ w.heap.size ≤ x3 ∧ w.heap.size ≤ x4 ∧ w.heap.size ≤ x5 ∧ w.heap.size ≤ y :=
  ⟨_, _, _, _, _, m, rv, hre, ⟨h1, h2, hS.1, hS.2.2.1, hS.2.1, (hr.keep hg).rolled, map_block hm hmm, hV _ hS.2.2.2.1⟩, hS.2.2.2.1, hb1, hb2, Nat.le_refl _, by omega, by omega, hmn⟩
theorem setsome {W : World} {b : Nat} {v : Value} (h : (W.cell? ⟨b, 0, none⟩).isSome = true) : (W.setCell ⟨b, 0, none⟩ v).cell? ⟨b, 0, none⟩ = some v := by
  obtain ⟨x, hx⟩ := Option.isSome_iff_exists.1 h
  exact World.cell?_setCell_same _ _ _ hx
theorem fin12 {r : Ending} (hre : r = .returned (.func (.func 78) #[] #[.pointer (some ⟨wm.heap.size, 0, none⟩), .pointer (some ⟨wm.heap.size + 1, 0, none⟩), .pointer (some ⟨w.heap.size, 0, none⟩), .pointer (some ⟨w.heap.size + 2, 0, none⟩), .pointer (some ⟨w.heap.size + 1, 0, none⟩)])) (hS : ((wm.alloc (.cells #[rv] t)).alloc (.cells #[.map (some m)] u)).cell? ⟨w.heap.size, 0, none⟩ = some lv ∧ ((wm.alloc (.cells #[rv] t)).alloc (.cells #[.map (some m)] u)).cell? ⟨w.heap.size + 1, 0, none⟩ = some (.int .i64 size) ∧ ((wm.alloc (.cells #[rv] t)).alloc (.cells #[.map (some m)] u)).cell? ⟨w.heap.size + 2, 0, none⟩ = some (.string s) ∧ Since w w.heap.size ((wm.alloc (.cells #[rv] t)).alloc (.cells #[.map (some m)] u))) (hr : RolledAt ga wm rv s.data.toList size) (hm : wm.ownsMap Tryd.prog 3 unitElem m L.length (wset L)) (hV : ∀ W : World, Below w.heap.size w W → RowIn W lv L)  (hmn : w.heap.size ≤ m) :
    ∃ x1 x2 x3 x4 x5 y rv', r = .returned (.func (.func 78) #[] #[.pointer (some ⟨x1, 0, none⟩), .pointer (some ⟨x2, 0, none⟩), .pointer (some ⟨x3, 0, none⟩), .pointer (some ⟨x4, 0, none⟩), .pointer (some ⟨x5, 0, none⟩)]) ∧ FEnv x1 x2 x3 x4 x5 y ((wm.alloc (.cells #[rv] t)).alloc (.cells #[.map (some m)] u)) L size s rv' lv ∧ Below w.heap.size w ((wm.alloc (.cells #[rv] t)).alloc (.cells #[.map (some m)] u)) ∧ w.heap.size ≤ x1 ∧ w.heap.size ≤ x2 ∧ w.heap.size ≤ x3 ∧ w.heap.size ≤ x4 ∧ w.heap.size ≤ x5 ∧ w.heap.size ≤ y :=
  have hs : w.heap.size ≤ wm.heap.size := by have := hm.lt; omega
  have hw : Below wm.heap.size wm ((wm.alloc (.cells #[rv] t)).alloc (.cells #[.map (some m)] u)) := ((Below.refl _ _).alloc (Nat.le_refl _) _).alloc (by simp) _
  have e1 : ((wm.alloc (.cells #[rv] t)).alloc (.cells #[.map (some m)] u)).cell? ⟨wm.heap.size, 0, none⟩ = some rv := (((Below.refl (wm.heap.size + 1) (wm.alloc (.cells #[rv] t))).alloc (by simp) (.cells #[.map (some m)] u)).cell (p := ⟨wm.heap.size, 0, none⟩) (by simp)).trans (by simp)
  have e2 : ((wm.alloc (.cells #[rv] t)).alloc (.cells #[.map (some m)] u)).cell? ⟨(wm.alloc (.cells #[rv] t)).heap.size, 0, none⟩ = some (.map (some m)) := by
    generalize wm.alloc (.cells #[rv] t) = W
    simp
  fin_any hre hS hr hm hV e1 (by rw [World.size_alloc] at e2; exact e2) (fun hg => hw.block ga hg) (hw.block m hm.lt) hs (by omega) hmn
theorem fin21 {r : Ending} (hre : r = .returned (.func (.func 78) #[] #[.pointer (some ⟨wm.heap.size + 1, 0, none⟩), .pointer (some ⟨wm.heap.size, 0, none⟩), .pointer (some ⟨w.heap.size, 0, none⟩), .pointer (some ⟨w.heap.size + 2, 0, none⟩), .pointer (some ⟨w.heap.size + 1, 0, none⟩)])) (hS : ((wm.alloc (.cells #[.map (some m)] u)).alloc (.cells #[rv] t)).cell? ⟨w.heap.size, 0, none⟩ = some lv ∧ ((wm.alloc (.cells #[.map (some m)] u)).alloc (.cells #[rv] t)).cell? ⟨w.heap.size + 1, 0, none⟩ = some (.int .i64 size) ∧ ((wm.alloc (.cells #[.map (some m)] u)).alloc (.cells #[rv] t)).cell? ⟨w.heap.size + 2, 0, none⟩ = some (.string s) ∧ Since w w.heap.size ((wm.alloc (.cells #[.map (some m)] u)).alloc (.cells #[rv] t))) (hr : RolledAt ga wm rv s.data.toList size) (hm : wm.ownsMap Tryd.prog 3 unitElem m L.length (wset L)) (hV : ∀ W : World, Below w.heap.size w W → RowIn W lv L)  (hmn : w.heap.size ≤ m) :
    ∃ x1 x2 x3 x4 x5 y rv', r = .returned (.func (.func 78) #[] #[.pointer (some ⟨x1, 0, none⟩), .pointer (some ⟨x2, 0, none⟩), .pointer (some ⟨x3, 0, none⟩), .pointer (some ⟨x4, 0, none⟩), .pointer (some ⟨x5, 0, none⟩)]) ∧ FEnv x1 x2 x3 x4 x5 y ((wm.alloc (.cells #[.map (some m)] u)).alloc (.cells #[rv] t)) L size s rv' lv ∧ Below w.heap.size w ((wm.alloc (.cells #[.map (some m)] u)).alloc (.cells #[rv] t)) ∧ w.heap.size ≤ x1 ∧ w.heap.size ≤ x2 ∧ w.heap.size ≤ x3 ∧ w.heap.size ≤ x4 ∧ w.heap.size ≤ x5 ∧ w.heap.size ≤ y :=
  have hs : w.heap.size ≤ wm.heap.size := by have := hm.lt; omega
  have hw : Below wm.heap.size wm ((wm.alloc (.cells #[.map (some m)] u)).alloc (.cells #[rv] t)) := ((Below.refl _ _).alloc (Nat.le_refl _) _).alloc (by simp) _
  have e1 : ((wm.alloc (.cells #[.map (some m)] u)).alloc (.cells #[rv] t)).cell? ⟨wm.heap.size, 0, none⟩ = some (.map (some m)) := (((Below.refl (wm.heap.size + 1) (wm.alloc (.cells #[.map (some m)] u))).alloc (by simp) (.cells #[rv] t)).cell (p := ⟨wm.heap.size, 0, none⟩) (by simp)).trans (by simp)
  have e2 : ((wm.alloc (.cells #[.map (some m)] u)).alloc (.cells #[rv] t)).cell? ⟨(wm.alloc (.cells #[.map (some m)] u)).heap.size, 0, none⟩ = some rv := by
    generalize wm.alloc (.cells #[.map (some m)] u) = W
    simp
  fin_any hre hS hr hm hV (by rw [World.size_alloc] at e2; exact e2) e1 (fun hg => hw.block ga hg) (hw.block m hm.lt) (by omega) hs hmn
theorem fin3 {r : Ending} (hre : r = .returned (.func (.func 78) #[] #[.pointer (some ⟨b1, 0, none⟩), .pointer (some ⟨wm.heap.size, 0, none⟩), .pointer (some ⟨w.heap.size, 0, none⟩), .pointer (some ⟨w.heap.size + 2, 0, none⟩), .pointer (some ⟨w.heap.size + 1, 0, none⟩)])) (hS : (((wm.alloc (.cells #[.map none] u)).setCell ⟨b1, 0, none⟩ rv).setCell ⟨wm.heap.size, 0, none⟩ (.map (some m))).cell? ⟨w.heap.size, 0, none⟩ = some lv ∧ (((wm.alloc (.cells #[.map none] u)).setCell ⟨b1, 0, none⟩ rv).setCell ⟨wm.heap.size, 0, none⟩ (.map (some m))).cell? ⟨w.heap.size + 1, 0, none⟩ = some (.int .i64 size) ∧ (((wm.alloc (.cells #[.map none] u)).setCell ⟨b1, 0, none⟩ rv).setCell ⟨wm.heap.size, 0, none⟩ (.map (some m))).cell? ⟨w.heap.size + 2, 0, none⟩ = some (.string s) ∧ Since w w.heap.size (((wm.alloc (.cells #[.map none] u)).setCell ⟨b1, 0, none⟩ rv).setCell ⟨wm.heap.size, 0, none⟩ (.map (some m)))) (hr : RolledAt ga wm rv s.data.toList size) (hm : wm.ownsMap Tryd.prog 3 unitElem m L.length (wset L)) (hV : ∀ W : World, Below w.heap.size w W → RowIn W lv L) (e1 : (wm.cell? ⟨b1, 0, none⟩).isSome = true) (hb1 : w.heap.size ≤ b1) (hl : b1 < wm.heap.size) (hg1 : b1 ≠ ga) (hm1 : b1 ≠ m) (hmn : w.heap.size ≤ m) :
    ∃ x1 x2 x3 x4 x5 y rv', r = .returned (.func (.func 78) #[] #[.pointer (some ⟨x1, 0, none⟩), .pointer (some ⟨x2, 0, none⟩), .pointer (some ⟨x3, 0, none⟩), .pointer (some ⟨x4, 0, none⟩), .pointer (some ⟨x5, 0, none⟩)]) ∧ FEnv x1 x2 x3 x4 x5 y (((wm.alloc (.cells #[.map none] u)).setCell ⟨b1, 0, none⟩ rv).setCell ⟨wm.heap.size, 0, none⟩ (.map (some m))) L size s rv' lv ∧ Below w.heap.size w (((wm.alloc (.cells #[.map none] u)).setCell ⟨b1, 0, none⟩ rv).setCell ⟨wm.heap.size, 0, none⟩ (.map (some m))) ∧ w.heap.size ≤ x1 ∧ w.heap.size ≤ x2 ∧ w.heap.size ≤ x3 ∧ w.heap.size ≤ x4 ∧ w.heap.size ≤ x5 ∧ w.heap.size ≤ y :=
  have hs : w.heap.size ≤ wm.heap.size := by have := hm.lt; omega
  have hml := hm.lt
  have q1 : ((wm.alloc (.cells #[.map none] u)).cell? ⟨b1, 0, none⟩).isSome = true := by
    rw [((Below.refl wm.heap.size wm).alloc (Nat.le_refl _) (.cells #[.map none] u)).cell (p := ⟨b1, 0, none⟩) hl]; exact e1
  have q2 : (((wm.alloc (.cells #[.map none] u)).setCell ⟨b1, 0, none⟩ rv).cell? ⟨wm.heap.size, 0, none⟩).isSome = true := by
    rw [World.cell?_setCell_other _ _ _ _ (by first | (simp; done) | (simp; omega))]; simp
  have hk : ∀ k, k < wm.heap.size → k ≠ b1 → (((wm.alloc (.cells #[.map none] u)).setCell ⟨b1, 0, none⟩ rv).setCell ⟨wm.heap.size, 0, none⟩ (.map (some m))).heap[k]? = wm.heap[k]? := fun k h1 h2 => by
    rw [Below.heap_setCell _ _ _ _ (by first | (simp; done) | (simp; omega)), Below.heap_setCell _ _ _ _ (by simpa using h2), Below.heap_alloc _ _ _ h1]
  fin_any hre hS hr hm hV (by rw [World.cell?_setCell_other _ _ _ _ (by first | (simp; done) | (simp; omega))]; exact setsome q1) (setsome q2) (fun hg => hk ga hg (fun e => hg1 e.symm)) (hk m hml (fun e => hm1 e.symm)) hb1 hs hmn
theorem fin5 {r : Ending} (hre : r = .returned (.func (.func 78) #[] #[.pointer (some ⟨wm.heap.size, 0, none⟩), .pointer (some ⟨b2, 0, none⟩), .pointer (some ⟨w.heap.size, 0, none⟩), .pointer (some ⟨w.heap.size + 2, 0, none⟩), .pointer (some ⟨w.heap.size + 1, 0, none⟩)])) (hS : ((wm.alloc (.cells #[rv] t)).setCell ⟨b2, 0, none⟩ (.map (some m))).cell? ⟨w.heap.size, 0, none⟩ = some lv ∧ ((wm.alloc (.cells #[rv] t)).setCell ⟨b2, 0, none⟩ (.map (some m))).cell? ⟨w.heap.size + 1, 0, none⟩ = some (.int .i64 size) ∧ ((wm.alloc (.cells #[rv] t)).setCell ⟨b2, 0, none⟩ (.map (some m))).cell? ⟨w.heap.size + 2, 0, none⟩ = some (.string s) ∧ Since w w.heap.size ((wm.alloc (.cells #[rv] t)).setCell ⟨b2, 0, none⟩ (.map (some m)))) (hr : RolledAt ga wm rv s.data.toList size) (hm : wm.ownsMap Tryd.prog 3 unitElem m L.length (wset L)) (hV : ∀ W : World, Below w.heap.size w W → RowIn W lv L) (e1 : (wm.cell? ⟨b2, 0, none⟩).isSome = true) (hb1 : w.heap.size ≤ b2) (hl : b2 < wm.heap.size) (hg1 : b2 ≠ ga) (hm1 : b2 ≠ m) (hmn : w.heap.size ≤ m) :
    ∃ x1 x2 x3 x4 x5 y rv', r = .returned (.func (.func 78) #[] #[.pointer (some ⟨x1, 0, none⟩), .pointer (some ⟨x2, 0, none⟩), .pointer (some ⟨x3, 0, none⟩), .pointer (some ⟨x4, 0, none⟩), .pointer (some ⟨x5, 0, none⟩)]) ∧ FEnv x1 x2 x3 x4 x5 y ((wm.alloc (.cells #[rv] t)).setCell ⟨b2, 0, none⟩ (.map (some m))) L size s rv' lv ∧ Below w.heap.size w ((wm.alloc (.cells #[rv] t)).setCell ⟨b2, 0, none⟩ (.map (some m))) ∧ w.heap.size ≤ x1 ∧ w.heap.size ≤ x2 ∧ w.heap.size ≤ x3 ∧ w.heap.size ≤ x4 ∧ w.heap.size ≤ x5 ∧ w.heap.size ≤ y :=
  have hs : w.heap.size ≤ wm.heap.size := by have := hm.lt; omega
  have hml := hm.lt
  have q1 : ((wm.alloc (.cells #[rv] t)).cell? ⟨b2, 0, none⟩).isSome = true := by
    rw [((Below.refl wm.heap.size wm).alloc (Nat.le_refl _) (.cells #[rv] t)).cell (p := ⟨b2, 0, none⟩) hl]; exact e1
  have hk : ∀ k, k < wm.heap.size → k ≠ b2 → ((wm.alloc (.cells #[rv] t)).setCell ⟨b2, 0, none⟩ (.map (some m))).heap[k]? = wm.heap[k]? := fun k h1 h2 => by
    rw [Below.heap_setCell _ _ _ _ (by simpa using h2), Below.heap_alloc _ _ _ h1]
  fin_any hre hS hr hm hV (by rw [World.cell?_setCell_other _ _ _ _ (by first | (simp; done) | (simp; omega))]; simp) (setsome q1) (fun hg => hk ga hg (fun e => hg1 e.symm)) (hk m hml (fun e => hm1 e.symm)) hs hb1 hmn
theorem fin4 {r : Ending} (hre : r = .returned (.func (.func 78) #[] #[.pointer (some ⟨b1, 0, none⟩), .pointer (some ⟨b2, 0, none⟩), .pointer (some ⟨w.heap.size, 0, none⟩), .pointer (some ⟨w.heap.size + 2, 0, none⟩), .pointer (some ⟨w.heap.size + 1, 0, none⟩)])) (hS : ((wm.setCell ⟨b1, 0, none⟩ rv).setCell ⟨b2, 0, none⟩ (.map (some m))).cell? ⟨w.heap.size, 0, none⟩ = some lv ∧ ((wm.setCell ⟨b1, 0, none⟩ rv).setCell ⟨b2, 0, none⟩ (.map (some m))).cell? ⟨w.heap.size + 1, 0, none⟩ = some (.int .i64 size) ∧ ((wm.setCell ⟨b1, 0, none⟩ rv).setCell ⟨b2, 0, none⟩ (.map (some m))).cell? ⟨w.heap.size + 2, 0, none⟩ = some (.string s) ∧ Since w w.heap.size ((wm.setCell ⟨b1, 0, none⟩ rv).setCell ⟨b2, 0, none⟩ (.map (some m)))) (hr : RolledAt ga wm rv s.data.toList size) (hm : wm.ownsMap Tryd.prog 3 unitElem m L.length (wset L)) (hV : ∀ W : World, Below w.heap.size w W → RowIn W lv L) (e1 : (wm.cell? ⟨b1, 0, none⟩).isSome = true) (e2 : (wm.cell? ⟨b2, 0, none⟩).isSome = true) (hn : b1 ≠ b2) (hb1 : w.heap.size ≤ b1) (hb2 : w.heap.size ≤ b2) (hg1 : b1 ≠ ga) (hm1 : b1 ≠ m) (hg2 : b2 ≠ ga) (hm2 : b2 ≠ m) (hmn : w.heap.size ≤ m) :
    ∃ x1 x2 x3 x4 x5 y rv', r = .returned (.func (.func 78) #[] #[.pointer (some ⟨x1, 0, none⟩), .pointer (some ⟨x2, 0, none⟩), .pointer (some ⟨x3, 0, none⟩), .pointer (some ⟨x4, 0, none⟩), .pointer (some ⟨x5, 0, none⟩)]) ∧ FEnv x1 x2 x3 x4 x5 y ((wm.setCell ⟨b1, 0, none⟩ rv).setCell ⟨b2, 0, none⟩ (.map (some m))) L size s rv' lv ∧ Below w.heap.size w ((wm.setCell ⟨b1, 0, none⟩ rv).setCell ⟨b2, 0, none⟩ (.map (some m))) ∧ w.heap.size ≤ x1 ∧ w.heap.size ≤ x2 ∧ w.heap.size ≤ x3 ∧ w.heap.size ≤ x4 ∧ w.heap.size ≤ x5 ∧ w.heap.size ≤ y :=
  have hml := hm.lt
  have q2 : ((wm.setCell ⟨b1, 0, none⟩ rv).cell? ⟨b2, 0, none⟩).isSome = true := by
    rw [World.cell?_setCell_other _ _ _ _ (by first | (simp; done) | (simp; omega))]; exact e2
  have hk : ∀ k, k ≠ b1 → k ≠ b2 → ((wm.setCell ⟨b1, 0, none⟩ rv).setCell ⟨b2, 0, none⟩ (.map (some m))).heap[k]? = wm.heap[k]? := fun k h1 h2 => by
    rw [Below.heap_setCell _ _ _ _ (by simpa using h2), Below.heap_setCell _ _ _ _ (by simpa using h1)]
  fin_any hre hS hr hm hV (by rw [World.cell?_setCell_other _ _ _ _ (by first | (simp; done) | (simp; omega))]; exact setsome e1) (setsome q2) (fun _ => hk ga (fun e => hg1 e.symm) (fun e => hg2 e.symm)) (hk m (fun e => hm1 e.symm) (fun e => hm2 e.symm)) hb1 hb2 hmn
end

set_option maxHeartbeats 40000000 in
set_option maxRecDepth 100000 in
theorem finding_ok (v : Value) (L : List Blk) (size : Nat) (s : ByteArray) (w : World) (hv : RowIn w v L) (hs : s.size ≤ 4000) (h1 : 1 ≤ size) (h2 : size ≤ 64) (hL : L.length ≤ 1000000) (hw : ∀ b ∈ L, 0 ≤ b.weak ∧ b.weak < 4294967296) :
    Calls Tryd.prog 51 #[v, .int .i64 size, .string s] w fun r w' => ∃ b1 b2 b3 b4 b5 m rv, r = .returned (.func (.func 78) #[] #[.pointer (some ⟨b1, 0, none⟩), .pointer (some ⟨b2, 0, none⟩), .pointer (some ⟨b3, 0, none⟩), .pointer (some ⟨b4, 0, none⟩), .pointer (some ⟨b5, 0, none⟩)]) ∧
      FEnv b1 b2 b3 b4 b5 m w' L size s rv v ∧ Below w.heap.size w w' ∧ w.heap.size ≤ b1 ∧ w.heap.size ≤ b2 ∧ w.heap.size ≤ b3 ∧ w.heap.size ≤ b4 ∧ w.heap.size ≤ b5 ∧ w.heap.size ≤ m := by
  have HA := hide (fun W => all_uni s size W hs h1 h2)
  have HK := hide (fun W (k : Below w.heap.size w W) => weakSums_ok v L W (hv.below k) hL hw)
  have HV := hide (fun W (k : Below w.heap.size w W) => hv.below k)
  obtain ⟨a, c, rfl, _⟩ := hv
  clear hw
  go_enter Tryd.func51, Tryd.ntmps51
  go_wp2_with fail
  have hb0 : Below w.heap.size w (((w.alloc (.cells #[.slice a L.length c] 24)).alloc (.cells #[.int .i64 size] 3)).alloc (.cells #[.string s] 9)) := (((Below.refl _ _).alloc (Nat.le_refl _) _).alloc (by simp) _).alloc (by simp; omega) _
  have hcs : (((w.alloc (.cells #[.slice a L.length c] 24)).alloc (.cells #[.int .i64 size] 3)).alloc (.cells #[.string s] 9)).cell? ⟨w.heap.size, 0, none⟩ = some (.slice a L.length c) ∧ (((w.alloc (.cells #[.slice a L.length c] 24)).alloc (.cells #[.int .i64 size] 3)).alloc (.cells #[.string s] 9)).cell? ⟨w.heap.size + 1, 0, none⟩ = some (.int .i64 size) ∧ (((w.alloc (.cells #[.slice a L.length c] 24)).alloc (.cells #[.int .i64 size] 3)).alloc (.cells #[.string s] 9)).cell? ⟨w.heap.size + 2, 0, none⟩ = some (.string s) := cells3 w _ _ _ _ _ _
  obtain ⟨c3, c4, c5⟩ := hcs
  have hz0 : (((w.alloc (.cells #[.slice a L.length c] 24)).alloc (.cells #[.int .i64 size] 3)).alloc (.cells #[.string s] 9)).heap.size = w.heap.size + 3 := by simp
  generalize ((w.alloc (.cells #[.slice a L.length c] 24)).alloc (.cells #[.int .i64 size] 3)).alloc (.cells #[.string s] 9) = w0 at *
  have h4 : w0.cell? ⟨w.heap.size, 0, none⟩ = some (.slice a L.length c) ∧ w0.cell? ⟨w.heap.size + 1, 0, none⟩ = some (.int .i64 size) ∧ w0.cell? ⟨w.heap.size + 2, 0, none⟩ = some (.string s) ∧ Since w w.heap.size w0 := ⟨c3, c4, c5, hb0, by omega⟩
  have H4 := hide h4
  have Hz0 := hide hz0
  clear h4 hb0 hz0
  go_region_held3 (fun w' => w'.cell? ⟨w.heap.size, 0, none⟩ = some (.slice a L.length c) ∧ w'.cell? ⟨w.heap.size + 1, 0, none⟩ = some (.int .i64 size) ∧ w'.cell? ⟨w.heap.size + 2, 0, none⟩ = some (.string s) ∧ Since w w.heap.size w')
    (first
      | exact S4_drew H4.out
      | exact H4m.out
      | exact H4a.out
      | exact S4_alloc (S4_alloc H4m.out _) _
      | exact S4_alloc H4m.out _
      | exact S4_alloc ‹_ ∧ _ ∧ _ ∧ _› _
      | exact S4_set ‹_ ∧ _ ∧ _ ∧ _› _ _ (by first | (have := Hz0.out; omega) | (have := H4a.out.2.2.2.2; omega) | (have := H4m.out.2.2.2.2; omega))
      | exact S4_set H4m.out _ _ (by first | (have := Hz0.out; omega) | (have := H4a.out.2.2.2.2; omega) | (have := H4m.out.2.2.2.2; omega))
      | exact S4_set (S4_alloc H4m.out _) _ _ (by first | (have := Hz0.out; omega) | (have := H4a.out.2.2.2.2; omega) | (have := H4m.out.2.2.2.2; omega))
      | exact S4_alloc (S4_set H4m.out _ _ (by first | (have := Hz0.out; omega) | (have := H4a.out.2.2.2.2; omega) | (have := H4m.out.2.2.2.2; omega))) _
      | exact S4_set (S4_set H4m.out _ _ (by first | (have := Hz0.out; omega) | (have := H4a.out.2.2.2.2; omega) | (have := H4m.out.2.2.2.2; omega))) _ _ (by first | (have := Hz0.out; omega) | (have := H4a.out.2.2.2.2; omega) | (have := H4m.out.2.2.2.2; omega)))
    (first
      | (go_at_call 76; refine (HA.out _).mono ?_; rintro e wa ⟨ra, rn, rc, ga, rfl, hra, hba⟩; have H4a := hide (S4_below ‹_ ∧ _ ∧ _ ∧ _› hba); (first | (have bk1 := blk_ok hba (w0.heap.size) (by first | omega | (simp; done) | (simp; omega)) (by first | assumption | (simp; done) | exact z1 _ _ _ _ _ _) (by first | (simp; done) | exact z2 _ _ _ _ _); have k1 := bk1.1; have m1 := bk1.2.1; have f1 := bk1.2.2.1; have g1 := bk1.2.2.2.1; have q1 := bk1.2.2.2.2.1; have c1x := bk1.2.2.2.2.2.1; have d1x := bk1.2.2.2.2.2.2.1; have X1 := bk1.2.2.2.2.2.2.2.1; have Y1 := bk1.2.2.2.2.2.2.2.2.1; have Z1 := bk1.2.2.2.2.2.2.2.2.2; clear bk1) | skip); (first | (have bk2 := blk_ok hba (w0.heap.size + 1) (by first | omega | (simp; done) | (simp; omega)) (by first | assumption | (simp; done) | exact z1 _ _ _ _ _ _) (by first | (simp; done) | exact z2 _ _ _ _ _); have k2 := bk2.1; have m2 := bk2.2.1; have f2 := bk2.2.2.1; have g2 := bk2.2.2.2.1; have q2 := bk2.2.2.2.2.1; have c2x := bk2.2.2.2.2.2.1; have d2x := bk2.2.2.2.2.2.2.1; have X2 := bk2.2.2.2.2.2.2.2.1; have Y2 := bk2.2.2.2.2.2.2.2.2.1; have Z2 := bk2.2.2.2.2.2.2.2.2.2; clear bk2) | skip); have Hra := hide hra; have Hba := hide hba; clear hra hba)
      | (go_at_call 77; refine (HK.out _ (S4_since ‹_ ∧ _ ∧ _ ∧ _›)).mono ?_; rintro e wm ⟨rfl, hma, hbm⟩; have H4m := hide (S4_below ‹_ ∧ _ ∧ _ ∧ _› hbm); (first | (have bk3 := blk_ok hbm (w0.heap.size) (by have q := Hba.out.size; (try simp at q); first | omega | (simp; done) | (simp; omega)) (by first | assumption | exact g1 _ | exact q1 _ _) (by first | exact X1.out | exact Y1.out _ | exact Z1.out _ _); have k3 := bk3.1; have m3 := bk3.2.1; have f3 := bk3.2.2.1; have g3 := bk3.2.2.2.1; have q3 := bk3.2.2.2.2.1; have c3x := bk3.2.2.2.2.2.1; have d3x := bk3.2.2.2.2.2.2.1; have X3 := bk3.2.2.2.2.2.2.2.1; have Y3 := bk3.2.2.2.2.2.2.2.2.1; have Z3 := bk3.2.2.2.2.2.2.2.2.2; clear bk3) | skip); (first | (have bk4 := blk_ok hbm (w0.heap.size + 1) (by have q := Hba.out.size; (try simp at q); first | omega | (simp; done) | (simp; omega)) (by first | assumption | exact g2 _ | exact q2 _ _) (by first | exact X2.out | exact Y2.out _ | exact Z2.out _ _); have k4 := bk4.1; have m4 := bk4.2.1; have f4 := bk4.2.2.1; have g4 := bk4.2.2.2.1; have q4 := bk4.2.2.2.2.1; have c4x := bk4.2.2.2.2.2.1; have d4x := bk4.2.2.2.2.2.2.1; have X4 := bk4.2.2.2.2.2.2.2.1; have Y4 := bk4.2.2.2.2.2.2.2.2.1; have Z4 := bk4.2.2.2.2.2.2.2.2.2; clear bk4) | skip); (first | (have bk5 := blk_ok hbm (wa.heap.size) (by have q := Hba.out.size; (try simp at q); first | omega | (simp; done) | (simp; omega)) (by first | assumption | (simp; done) | exact z1 _ _ _ _ _ _) (by first | (simp; done) | exact z2 _ _ _ _ _); have k5 := bk5.1; have m5 := bk5.2.1; have f5 := bk5.2.2.1; have g5 := bk5.2.2.2.1; have q5 := bk5.2.2.2.2.1; have c5x := bk5.2.2.2.2.2.1; have d5x := bk5.2.2.2.2.2.2.1; have X5 := bk5.2.2.2.2.2.2.2.1; have Y5 := bk5.2.2.2.2.2.2.2.2.1; have Z5 := bk5.2.2.2.2.2.2.2.2.2; clear bk5) | skip); (first | (have bk6 := blk_ok hbm (wa.heap.size + 1) (by have q := Hba.out.size; (try simp at q); first | omega | (simp; done) | (simp; omega)) (by first | assumption | (simp; done) | exact z1 _ _ _ _ _ _) (by first | (simp; done) | exact z2 _ _ _ _ _); have k6 := bk6.1; have m6 := bk6.2.1; have f6 := bk6.2.2.1; have g6 := bk6.2.2.2.1; have q6 := bk6.2.2.2.2.1; have c6x := bk6.2.2.2.2.2.1; have d6x := bk6.2.2.2.2.2.2.1; have X6 := bk6.2.2.2.2.2.2.2.1; have Y6 := bk6.2.2.2.2.2.2.2.2.1; have Z6 := bk6.2.2.2.2.2.2.2.2.2; clear bk6) | skip); have Hwm : Hid (Below wa.heap.size wa wm) := (by first | exact hbm | exact ((Below.refl _ _).alloc (Nat.le_refl _) _).trans (hbm.mono (by simp)) | exact (((Below.refl _ _).alloc (Nat.le_refl _) _).alloc (by simp) _).trans (hbm.mono (by simp; omega))); (try simp at hma); have Hma := hide hma; have Hbm := hide hbm; clear hma hbm))
  all_goals
    have HS := hide ‹_ ∧ _ ∧ _ ∧ _›
    have Hrm := hide (Hra.out.2.2.keep (fun hg => Hwm.out.block ga hg))
    go_wp2_with fail
    go_ret
    have z0 := Hz0.out
    have za := Hba.out.size
    have zm := Hbm.out.size
    have zg := Hra.out.1
    have zl := Hma.out.lt
    have zx := Hra.out.2.1
    (try simp at za)
    (try simp at zm)
    (try simp at zg)
    first
      | (with_reducible refine fin12 ?hre HS.out Hrm.out Hma.out HV.out ?_
         case hre => rfl
         omega)
      | (with_reducible refine fin21 ?hre HS.out Hrm.out Hma.out HV.out ?_
         case hre => rfl
         omega)
      | (with_reducible refine fin3 ?hre HS.out Hrm.out Hma.out HV.out ?he1 ?_ ?_ ?_ ?_ ?_
         case hre => rfl
         case he1 => (first | exact X3.out | exact X4.out | exact X5.out | exact X6.out)
         all_goals omega)
      | (with_reducible refine fin5 ?hre HS.out Hrm.out Hma.out HV.out ?he1 ?_ ?_ ?_ ?_ ?_
         case hre => rfl
         case he1 => (first | exact X3.out | exact X4.out | exact X5.out | exact X6.out)
         all_goals omega)
      | (with_reducible refine fin4 ?hre HS.out Hrm.out Hma.out HV.out ?he1 ?he2 ?_ ?_ ?_ ?_ ?_ ?_ ?_ ?_
         case hre => rfl
         case he1 => (first | exact X3.out | exact X4.out | exact X5.out | exact X6.out)
         case he2 => (first | exact X3.out | exact X4.out | exact X5.out | exact X6.out)
         all_goals omega)
end Go.Proofs.YtcenohaadggdiacDoor
