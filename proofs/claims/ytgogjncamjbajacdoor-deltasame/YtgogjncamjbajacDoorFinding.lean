/-
  Contract of the call that delta.finding answers, over this dump: the block with which a file goes on at a place.
-/
import Derived.Test.YtgogjncamjbajacDoorKnown
import Derived.Test.YtgogjncamjbajacDoorFind
import Derived.Test.YtgogjncamjbajacDoorWeakAll
import Derived.Deep.RegionHeld3
namespace Go.Proofs.YtgogjncamjbajacDoor
open Go.RowKit Go.Maps
open Go.Sign (Blk)

/-- Sums that are rolled along: of each part of size bytes. -/
def Rolled (w : World) (v : Value) (s : List UInt8) (size : Nat) : Prop :=
  ∃ a n c, v = .slice a n c ∧ n = s.length + 1 - size ∧ (0 < n → ∃ g, a = some ⟨g, 0, none⟩ ∧ ∀ j, j < n → w.cell? ⟨g, j, none⟩ = some (.int .i64 (wk ((s.drop j).take size))))
/-- What the call holds of: the sums, the set, the blocks, the file, the size. -/
structure FEnv (b1 b2 b3 b4 b5 m : Nat) (w : World) (L : List Blk) (size : Nat) (s : ByteArray) (rv lv : Value) : Prop where
  c1 : w.cell? ⟨b1, 0, none⟩ = some rv
  c2 : w.cell? ⟨b2, 0, none⟩ = some (.map (some m))
  c3 : w.cell? ⟨b3, 0, none⟩ = some lv
  c4 : w.cell? ⟨b4, 0, none⟩ = some (.string s)
  c5 : w.cell? ⟨b5, 0, none⟩ = some (.int .i64 size)
  hr : Rolled w rv s.data.toList size
  hm : w.ownsMap Tryd.prog 3 unitElem m L.length (wset L)
  hl : RowIn w lv L

theorem look_unit {w : World} {m n : Nat} {D : DataW Unit} (h : w.ownsMap Tryd.prog 3 unitElem m n D) (x : Int) (h0 : 0 ≤ x) (h1 : x < 4294967296) :
    (Instr.lookup 85 (.map (some m)) (.int .i64 x) true).run Tryd.prog w = .ok (.tuple #[.agg #[], .bool (Maps.has D (.int .i64 x))]) w := by
  obtain ⟨v, ps, hrun, hv⟩ := h.look_ok Tryd.keyInt Tryd.underlying85 (Tryd.zeroUnit w) unitElem_mk (keyOf_int_mk Tryd.underlying3 (WalkArith.wf_i64 (by omega)) : keyOf Tryd.prog 3 (.int .i64 x) = _)
  obtain ⟨rfl, _⟩ := unitElem_inv hv
  exact hrun

/-- Where no block has the weak sum, none is found. -/
theorem find_unknown (l : List Blk) (b : Blk) (h : (l.any fun x => x.weak == b.weak) = false) : findOut l b = -1 := by
  have : ∀ (l : List Blk) (j : Nat), (l.any fun x => x.weak == b.weak) = false → findFrom b l j = -1 := by
    intro l
    induction l with
    | nil => intro j _; rfl
    | cons x r ih =>
      intro j h
      rw [List.any_cons, Bool.or_eq_false_iff] at h
      rw [findFrom, if_neg (fun e => by rw [e] at h; simp at h)]
      exact ih _ h.2
  exact this l 0 h

set_option maxHeartbeats 2000000 in
set_option maxRecDepth 100000 in
theorem find_rest (b1 b2 b3 b4 b5 m : Nat) (w : World) (L : List Blk) (size : Nat) (s : ByteArray) (rv lv : Value) (h : FEnv b1 b2 b3 b4 b5 m w L size s rv lv) (at_ : Nat)
    (hs : s.size ≤ 4000) (hz : size ≤ 64) (hL : L.length ≤ 1000000) (ha : at_ < s.size) (hge : s.size < at_ + size) :
    Calls Tryd.prog 51 #[.int .i64 at_, .pointer (some ⟨b1, 0, none⟩), .pointer (some ⟨b2, 0, none⟩), .pointer (some ⟨b3, 0, none⟩), .pointer (some ⟨b4, 0, none⟩), .pointer (some ⟨b5, 0, none⟩)] w
      fun r w' => r = .returned (.int .i64 (findOut L (blk ((s.data.toList.drop at_).take size)))) ∧ Below w.heap.size w w' := by
  obtain ⟨c1, c2, c3, c4, c5, hr, hm, hl⟩ := h
  obtain ⟨a, n, c, rfl, hn, _⟩ := hr
  rw [lenL] at hn
  have hw : (s.extract at_ s.size).data.toList = (s.data.toList.drop at_).take size := by
    rw [extractL, List.take_of_length_le (by rw [List.length_drop, lenL]; omega), List.take_of_length_le (by rw [List.length_drop, lenL]; omega)]
  have HF := hide (fun W (k : Below w.heap.size w W) => find_ok lv L (s.extract at_ s.size) W (hl.below k) hL (by rw [ByteArray.size_extract]; omega))
  rw [hw] at HF
  have hna : n ≤ at_ := by omega
  have hge' : (s.size : Int) < (at_ : Int) + (size : Int) := by omega
  have hwr : IntKind.i64.wrap ((at_ : Int) + (size : Int)) = (at_ : Int) + (size : Int) := iwrap_id _ (by omega) (by omega)
  have i0 : (0 : Int) ≤ (at_ : Int) := by omega
  have i1 : (at_ : Int) ≤ (s.size : Int) := by omega
  generalize blk ((s.data.toList.drop at_).take size) = bk at *
  clear hm hl hw hn
  go_enter Tryd.func51, Tryd.ntmps51
  go_wp2_with fail
  go_region_held3 (fun w' => w'.cell? ⟨b3, 0, none⟩ = some lv ∧ w'.cell? ⟨b4, 0, none⟩ = some (.string s) ∧ w'.cell? ⟨b5, 0, none⟩ = some (.int .i64 size))
    (first | go_keep | exact trivial)
    (first | (go_at_call 17; refine (HF.out _ (Below.refl _ _).drew).mono ?_; rintro e w1 ⟨rfl, hb1⟩; have k3 := (hb1.cell (World.block_lt_of_cell? _ _ c3)).trans c3; have k4 := (hb1.cell (World.block_lt_of_cell? _ _ c4)).trans c4; have k5 := (hb1.cell (World.block_lt_of_cell? _ _ c5)).trans c5))
  all_goals
    have Hb1 := hide hb1
    clear hb1
    go_wp2
    go_ret
    exact ⟨rfl, (Below.refl _ _).drew.trans Hb1.out⟩

set_option maxHeartbeats 2000000 in
set_option maxRecDepth 100000 in
theorem find_known (b1 b2 b3 b4 b5 m : Nat) (w : World) (L : List Blk) (size : Nat) (s : ByteArray) (rv lv : Value) (h : FEnv b1 b2 b3 b4 b5 m w L size s rv lv) (at_ : Nat)
    (hs : s.size ≤ 4000) (hz : size ≤ 64) (hz0 : 1 ≤ size) (hL : L.length ≤ 1000000) (hge : at_ + size ≤ s.size) :
    Calls Tryd.prog 51 #[.int .i64 at_, .pointer (some ⟨b1, 0, none⟩), .pointer (some ⟨b2, 0, none⟩), .pointer (some ⟨b3, 0, none⟩), .pointer (some ⟨b4, 0, none⟩), .pointer (some ⟨b5, 0, none⟩)] w
      fun r w' => r = .returned (.int .i64 (findOut L (blk ((s.data.toList.drop at_).take size)))) ∧ Below w.heap.size w w' := by
  obtain ⟨c1, c2, c3, c4, c5, hr, hm, hl⟩ := h
  obtain ⟨a, n, c, rfl, hn, hr⟩ := hr
  rw [lenL] at hn
  have hna : at_ < n := by omega
  obtain ⟨g, rfl, hc⟩ := hr (by omega)
  have cg := hc at_ hna
  have hw : (s.extract at_ (at_ + size)).data.toList = (s.data.toList.drop at_).take size := by
    rw [extractL]; congr 1; omega
  have HF := hide (fun W (k : Below w.heap.size w W) => find_ok lv L (s.extract at_ (at_ + size)) W (hl.below k) hL (by rw [ByteArray.size_extract]; omega))
  rw [hw] at HF
  have hwb := wk_bounds ((s.data.toList.drop at_).take size)
  have HK := hide (has_wset L (wk ((s.data.toList.drop at_).take size)))
  have hge' : (at_ : Int) + (size : Int) ≤ (s.size : Int) := by omega
  have hna' : (at_ : Int) < (n : Int) := by omega
  have hif : (if (s.size : Int) < (at_ : Int) + (size : Int) then (s.size : Int) else (at_ : Int) + (size : Int)) = (at_ : Int) + (size : Int) := if_neg (by omega)
  have hwr : IntKind.i64.wrap ((at_ : Int) + (size : Int)) = (at_ : Int) + (size : Int) := iwrap_id _ (by omega) (by omega)
  have i0 : (0 : Int) ≤ (at_ : Int) := by omega
  have i1 : (at_ : Int) ≤ (at_ : Int) + (size : Int) := by omega
  have Hu := hide (find_unknown L (blk ((s.data.toList.drop at_).take size)))
  rw [show (blk ((s.data.toList.drop at_).take size)).weak = wk ((s.data.toList.drop at_).take size) from rfl] at Hu
  have HL := hide (fun (W : World) (k : W.ownsMap Tryd.prog 3 unitElem m L.length (wset L)) => look_unit k (wk ((s.data.toList.drop at_).take size)) hwb.1 hwb.2)
  generalize findOut L (blk ((s.data.toList.drop at_).take size)) = R at *
  generalize wk ((s.data.toList.drop at_).take size) = x at *
  rw [HK.out] at HL
  have Hm := hide hm
  clear hc hm hl hw hn hr HK
  generalize (L.any fun b => b.weak == x) = known at *
  have t1 := HL.out w.drew Hm.out.drew
  have t2 := fun o => HL.out (w.alloc o).drew (Hm.out.alloc o).drew
  cases known with
  | false =>
    have hR := Hu.out rfl
    subst hR
    go_enter Tryd.func51, Tryd.ntmps51
    go_wp2_with fail
    go_region_held3 (fun w' => w'.cell? ⟨b1, 0, none⟩ = some (.slice (some ⟨g, 0, none⟩) n c) ∧ w'.cell? ⟨b2, 0, none⟩ = some (.map (some m)) ∧ w'.cell? ⟨g, at_, none⟩ = some (.int .i64 x) ∧ (Instr.lookup 85 (.map (some m)) (.int .i64 x) true).run Tryd.prog w' = .ok (.tuple #[.agg #[], .bool false]) w')
      (go_keep)
      (fail)
    all_goals
      clear t1 t2 HL HF
      go_wp2
      go_ret
      exact ⟨rfl, ((Below.refl _ _).alloc (Nat.le_refl _) _).drew⟩
  | true =>
    have hbn : Below w.heap.size w (w.alloc (.cells #[] 87)).drew := ((Below.refl _ _).alloc (Nat.le_refl _) _).drew
    have e3 := (hbn.cell (World.block_lt_of_cell? _ _ c3)).trans c3
    have e4 := (hbn.cell (World.block_lt_of_cell? _ _ c4)).trans c4
    have e5 := (hbn.cell (World.block_lt_of_cell? _ _ c5)).trans c5
    have Hbn := hide hbn
    have H3 := hide e3
    have H4 := hide e4
    have H5 := hide e5
    clear hbn e3 e4 e5
    go_enter Tryd.func51, Tryd.ntmps51
    go_wp2_with fail
    go_region_held3 (fun w' => w'.cell? ⟨b1, 0, none⟩ = some (.slice (some ⟨g, 0, none⟩) n c) ∧ w'.cell? ⟨b2, 0, none⟩ = some (.map (some m)) ∧ w'.cell? ⟨g, at_, none⟩ = some (.int .i64 x) ∧ (Instr.lookup 85 (.map (some m)) (.int .i64 x) true).run Tryd.prog w' = .ok (.tuple #[.agg #[], .bool true]) w')
      (go_keep)
      (fail)
    all_goals
      clear t1 t2 HL c1 c2 c3 c4 c5 cg hna hna'
      have c3 := H3.out
      have c4 := H4.out
      have c5 := H5.out
      generalize (w.alloc (.cells #[] 87)).drew = w2 at *
      go_wp2_with fail
      go_region_held3 (fun w' => w'.cell? ⟨b3, 0, none⟩ = some lv ∧ w'.cell? ⟨b4, 0, none⟩ = some (.string s) ∧ w'.cell? ⟨b5, 0, none⟩ = some (.int .i64 size))
        (first | go_keep | exact trivial)
        (first | (go_at_call 17; refine (HF.out _ Hbn.out.drew).mono ?_; rintro e w1 ⟨rfl, hb1⟩; have k3 := (hb1.cell (World.block_lt_of_cell? _ _ c3)).trans c3; have k4 := (hb1.cell (World.block_lt_of_cell? _ _ c4)).trans c4; have k5 := (hb1.cell (World.block_lt_of_cell? _ _ c5)).trans c5))
      all_goals
        have Hb1 := hide hb1
        clear hb1
        go_wp2
        go_ret
        exact ⟨rfl, bthen (Hbn.out.drew) Hb1.out⟩

theorem findAt_ok (b1 b2 b3 b4 b5 m : Nat) (w : World) (L : List Blk) (size : Nat) (s : ByteArray) (rv lv : Value) (h : FEnv b1 b2 b3 b4 b5 m w L size s rv lv) (at_ : Nat)
    (hs : s.size ≤ 4000) (hz : size ≤ 64) (hz0 : 1 ≤ size) (hL : L.length ≤ 1000000) (ha : at_ < s.size) :
    Calls Tryd.prog 51 #[.int .i64 at_, .pointer (some ⟨b1, 0, none⟩), .pointer (some ⟨b2, 0, none⟩), .pointer (some ⟨b3, 0, none⟩), .pointer (some ⟨b4, 0, none⟩), .pointer (some ⟨b5, 0, none⟩)] w
      fun r w' => r = .returned (.int .i64 (findOut L (blk ((s.data.toList.drop at_).take size)))) ∧ Below w.heap.size w w' := by
  by_cases hge : at_ + size ≤ s.size
  · exact find_known b1 b2 b3 b4 b5 m w L size s rv lv h at_ hs hz hz0 hL hge
  · exact find_rest b1 b2 b3 b4 b5 m w L size s rv lv h at_ hs hz hL ha (by omega)
end Go.Proofs.YtgogjncamjbajacDoor
