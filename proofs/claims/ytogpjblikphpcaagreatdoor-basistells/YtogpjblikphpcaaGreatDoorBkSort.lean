/-
  Marks sorted by how many bytes: contracts of rising's comparison, of slices.SortFunc at marks.
-/
import Derived.Test.YtogpjblikphpcaaGreatDoorBasisAll
import Derived.Test.YtogpjblikphpcaaGreatDoorLib
import Derived.Test.YtogpjblikphpcaaGreatDoorPutRow
import Derived.Test.YtogpjblikphpcaaGreatDoorSep
import Derived.Deep.RegionHeld3
import Derived.WalkSmall
namespace Go.Proofs.YtogpjblikphpcaaGreatDoor
open Go.RowKit
open Go.Basis
open Go.Sort (SWO PermIn SortedIn HoldsK grow)

/-- A mark's cells. -/
def encM (m : Mk) : List Value := [.string m.name, .int .i64 m.n, .int .u32 m.c]
abbrev kcs' (l : List Mk) : List Value := cs3 (fun x : Mk => .string x.name) (fun x => .int .i64 x.n) (fun x => .int .u32 x.c) l
def cmpM (x y : Mk) : Int := Lib.compareInt x.n y.n

set_option maxHeartbeats 1000000 in
set_option maxRecDepth 100000 in
theorem cmpMk_ok (x y : Mk) (W : World) : Calls Tryz.prog 76 #[.agg (encM x).toArray, .agg (encM y).toArray] W fun e w' => e = .returned (.int .i64 (cmpM x y)) ∧ ∃ q os', w' = grow (W.drewN q) os' := by
  have HC := hide (fun W' => Tryz.cmp_Compare_int x.n y.n W')
  unfold cmpM
  generalize Lib.compareInt x.n y.n = r at *
  obtain ⟨xn, xk, xc⟩ := x
  obtain ⟨yn, yk, yc⟩ := y
  simp only [encM] at HC ⊢
  go_enter Tryz.func76, Tryz.ntmps76
  go_wp2_with fail
  refine (HC.out _).mono ?_
  rintro e w' ⟨rfl, rfl⟩
  go_wp2_with fail
  go_ret
  exact ⟨rfl, (0 : Nat), _, by rw [Go.Sort.alloc_eq_grow, Go.Sort.alloc_eq_grow, Go.Sort.grow_grow]; rfl⟩
theorem ltM (x y : Mk) : ltOf cmpM x y = decide (x.n < y.n) := by
  unfold ltOf cmpM Lib.compareInt
  by_cases h1 : x.n < y.n
  · simp [h1]
  · by_cases h2 : y.n < x.n <;> simp [h1, h2]
theorem swoM : SWO (ltOf cmpM) where
  irrefl x := by rw [ltM]; simp
  trans x y z h1 h2 := by rw [ltM] at *; simp at *; omega
  ntrans x y z h1 h2 := by rw [ltM] at *; simp at *; omega

set_option maxHeartbeats 1000000 in
set_option maxRecDepth 100000 in
theorem insNone_ok (p : Option Addr) (cap : Nat) (fv : Value) (w : World) :
    Calls Tryz.prog 118 #[.slice p 0 cap, .int .i64 0, .int .i64 0, fv] w fun e w' => e = .returned (.tuple #[]) ∧ w' = w := by
  go_enter Tryz.func118, Tryz.ntmps118
  go_wp2
  refine wp_loop_rounds 1 ?_
  rw [rounds_succ]
  go_wp2
  go_end0
  exact ⟨rfl, rfl⟩
set_option maxHeartbeats 1000000 in
set_option maxRecDepth 100000 in
theorem pdqNone_ok (p : Option Addr) (cap : Nat) (lim : Int) (fv : Value) (w : World) :
    Calls Tryz.prog 97 #[.slice p 0 cap, .int .i64 0, .int .i64 0, .int .i64 lim, fv] w fun e w' => e = .returned (.tuple #[]) ∧ w' = w := by
  have hi := hide (fun W => insNone_ok p cap fv W)
  go_enter Tryz.func97, Tryz.ntmps97
  go_wp2
  refine wp_loop_rounds 1 ?_
  rw [rounds_succ]
  go_wp2_with (go_at_call 118; refine (hi.out _).mono ?_; rintro e w' ⟨rfl, rfl⟩)
  (try simp only [Exit.inBlock, Exit.then]); refine bodyPost_ret (results_none rfl _ _ _) rfl ?_
  exact ⟨rfl, rfl⟩
set_option maxHeartbeats 1000000 in
set_option maxRecDepth 100000 in
theorem sortNone_ok (p : Option Addr) (cap : Nat) (fv : Value) (w : World) :
    Calls Tryz.prog 75 #[.slice p 0 cap, fv] w fun e w' => e = .returned (.tuple #[]) ∧ w' = w := by
  have hp := hide (fun lim W => pdqNone_ok p cap lim fv W)
  have hl := hide (fun W => Tryz.bits_Len 0 W (by omega) (by omega))
  go_enter Tryz.func75, Tryz.ntmps75
  go_wp2_with (first | (go_at_call 98; refine (hl.out _).mono ?_; rintro e w' ⟨rfl, rfl⟩) | (go_at_call 97; refine (hp.out _ _).mono ?_; rintro e w' ⟨rfl, rfl⟩))
  go_end0
  exact ⟨rfl, rfl⟩

/-- Marks in order of how many bytes. -/
def Up (l : List Mk) : Prop := ∀ i j (_ : i < j) (hj : j < l.length), (l[i]'(by omega)).n ≤ l[j].n
theorem flat_marks [Inhabited Mk] (d : Array Mk) (t : Nat) (h : t < d.size * 3) : (Go.Sort.flatK encM 3 d)[t]! = (kcs' d.toList)[t]'(by rw [cs3_length, Array.length_toList]; exact h) := by
  rw [Go.Sort.get_flatK encM 3 d t h]
  have hq : t / 3 < d.toList.length := by rw [Array.length_toList]; omega
  obtain ⟨g0, g1, g2⟩ := cs3_get (f := fun x : Mk => Value.string x.name) (g := fun x => .int .i64 x.n) (h := fun x => .int .u32 x.c) d.toList (t / 3) hq
  have hq' : t / 3 < d.size := by omega
  have e : d[t / 3]! = d.toList[t / 3] := by rw [getElem!_pos d (t / 3) hq']; simp
  rw [e]
  have hk : ∀ (k : Nat) (v : Value), (kcs' d.toList)[k]? = some v → ∀ hk, (kcs' d.toList)[k]'hk = v := fun k v h hk => by rw [List.getElem?_eq_getElem hk] at h; exact Option.some.inj h
  rcases (show t % 3 = 0 ∨ t % 3 = 1 ∨ t % 3 = 2 by omega) with h3 | h3 | h3
  · rw [h3, hk t _ (by rw [← g0]; congr 1; omega)]; rfl
  · rw [h3, hk t _ (by rw [← g1]; congr 1; omega)]; rfl
  · rw [h3, hk t _ (by rw [← g2]; congr 1; omega)]; rfl

set_option maxRecDepth 100000 in
/-- slices.SortFunc at marks that are owned. -/
theorem sortMk_ok (B : Nat) (v : Value) (l : List Mk) (w : World) (hv : w.ownsRow B 60 3 v l.length (kcs' l)) (hB : B ≤ w.heap.size) (hl : l.length ≤ 1000000) :
    Calls Tryz.prog 75 #[v, .func (.func 76) #[] #[]] w fun r w' => r = .returned (.tuple #[]) ∧ ∃ l' : List Mk, l'.Perm l ∧ Up l' ∧ MkRow w' v l' ∧ Below B w w' := by
  haveI : Inhabited Mk := ⟨noMk⟩
  rcases hv.2 with ⟨rfl, h0⟩ | ⟨g, cap, cur, rfl, hg, _⟩
  · obtain rfl := List.length_eq_zero_iff.1 h0
    refine (sortNone_ok none 0 _ w).mono ?_
    rintro r w' ⟨rfl, rfl⟩
    exact ⟨rfl, [], List.Perm.refl _, fun i j _ hj => by simp at hj, Row3.nil _, Below.refl _ _⟩
  · by_cases h0 : l.length = 0
    · obtain rfl := List.length_eq_zero_iff.1 h0
      refine (sortNone_ok _ cap _ w).mono ?_
      rintro r w' ⟨rfl, rfl⟩
      exact ⟨rfl, [], List.Perm.refl _, fun i j _ hj => by simp at hj, ⟨_, cap, rfl, fun h => by simp at h⟩, Below.refl _ _⟩
    · have hH : HoldsK encM 3 w g 0 l.toArray := fun t ht => by
        rw [Go.Sort.size_flatK, List.size_toArray] at ht
        have e := flat_marks l.toArray t (by simpa using ht)
        refine ⟨?_, hv.frozenAt _⟩
        rw [e, Nat.zero_add, hv.cellAt t ht, List.getElem?_eq_getElem (by rw [cs3_length]; exact ht)]
        rfl
      have hgw : g < w.heap.size := by
        have := (hH 0 (by rw [Go.Sort.size_flatK, List.size_toArray]; omega)).1
        exact World.block_lt_of_cell? _ _ this
      have eg : ∀ args w, (callFunc 76 args).run Tryz.prog w = .ok (.enter 76 args) w := enters_of Tryz.func76 (by kernel_rfl) rfl
      have h := Tryz.slices_SortFunc encM (fun _ => rfl) (fun x v hv => by simp [encM] at hv; rcases hv with rfl | rfl | rfl <;> rfl) cmpM swoM 76 g 0 cap l.toArray w eg (fun m os dk _ x y => cmpMk_ok x y _) hH hgw (by rw [List.size_toArray]; omega)
      refine h.mono ?_
      rintro r w' ⟨rfl, d', m, os, hp, hs, rfl⟩
      have hsz : d'.size = l.length := by have := hp.1; simpa using this
      have hH' := Go.Proofs.holdsK_sortWorldK_c encM 3 w g 0 l.toArray d' m os hH hgw hp.1
      refine ⟨rfl, d'.toList, ?_, ?_, ?_, ?_⟩
      · have e : List.take l.length d'.toList = d'.toList := List.take_of_length_le (by rw [Array.length_toList, hsz]; exact Nat.le_refl _)
        have := hp.2.2
        rw [Array.toList_extract, Array.toList_extract] at this
        simpa [List.extract_eq_take_drop, e] using this
      · intro i j hij hj
        rw [Array.length_toList] at hj
        have := hs i j (Nat.zero_le _) hij (by simpa [hsz] using hj)
        rw [ltM, getElem!_pos d' i (by omega), getElem!_pos d' j hj] at this
        simp at this
        simpa using this
      · refine ⟨some ⟨g, 0, none⟩, cap, by rw [show d'.toList.length = l.length by rw [Array.length_toList]; exact hsz], fun hpos => ⟨g, 0, rfl, fun j hj => ?_⟩⟩
        rw [Array.length_toList] at hj
        have e : d'[j]! = d'.toList[j] := by rw [getElem!_pos d' j hj]; simp
        have k0 := (hH'.cell (i := j) (c := 0) hj (by decide)).1
        have k1 := (hH'.cell (i := j) (c := 1) hj (by decide)).1
        have k2 := (hH'.cell (i := j) (c := 2) hj (by decide)).1
        rw [e] at k0 k1 k2
        exact ⟨k0, k1, k2⟩
      · exact below_grow' os (below_putRow _ _ _ (below_drewN (Below.refl _ _) m) hg) (by simpa [Go.Sort.putRowK, Go.Sort.putRow, Go.Sort.mapBlock] using hB)
end Go.Proofs.YtogpjblikphpcaaGreatDoor
