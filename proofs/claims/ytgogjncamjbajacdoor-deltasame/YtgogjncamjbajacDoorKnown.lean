/-
  Contract of delta.weakSums over this dump: the set of the blocks' weak sums.
-/
import Derived.Test.YtgogjncamjbajacDoorRowIn
import Derived.Maps.OwnSet
namespace Go.Proofs.YtgogjncamjbajacDoor
open Go.RowKit Go.Maps
open Go.Sign (Blk)

/-- The set of the weak sums of these blocks. -/
def wset (l : List Blk) : DataW Unit := setOf (.agg []) (l.map fun b => Lit.int .i64 b.weak)
theorem wset_snoc (l : List Blk) (b : Blk) : wset (l ++ [b]) = (wset l).put (.int .i64 b.weak) (.agg []) := by
  unfold wset
  rw [List.map_append, List.map_singleton, setOf_snoc]
theorem any_weak (x : Int) : ∀ l : List Blk, l.any ((fun y : Lit => y.sameKey (.int .i64 x)) ∘ fun b => Lit.int .i64 b.weak) = l.any fun b => b.weak == x
  | [] => rfl
  | a :: r => by
    rw [List.any_cons, List.any_cons, any_weak x r]
    congr 1
    show decide (IntKind.i64 = IntKind.i64 ∧ a.weak = x) = (a.weak == x)
    by_cases e : a.weak = x
    · simp [e]
    · simp [e]
/-- A sum is known just if a block has it. -/
theorem has_wset (l : List Blk) (x : Int) : Maps.has (wset l) (.int .i64 x) = l.any fun b => b.weak == x := by
  unfold wset
  rw [has_setOf _ _ _ (fun y hy => by obtain ⟨_, _, rfl⟩ := List.mem_map.1 hy; trivial), List.any_map]
  exact any_weak x _

theorem Tryd.keyInt : Keyed Tryd.prog 3 := int_keyed Tryd.underlying3
theorem Tryd.zeroUnit (w : World) : (zeroValue 87).run Tryd.prog w = .ok (.agg #[]) w := by kernel_rfl

theorem makeMap_hint (n : Int) (w : World) : (Instr.makeMap 85 (some (.int .i64 n))).run Tryd.prog w = .ok (.map (some w.heap.size)) (w.alloc (.map #[] 0)) := by
  simp [Instr.makeMap, run_underlying Tryd.underlying85, asInt, asIntOf, Result.andThen]

set_option maxHeartbeats 1000000 in
set_option maxRecDepth 100000 in
theorem weakSums_ok (v : Value) (l : List Blk) (w : World) (hv : RowIn w v l) (hl : l.length ≤ 1000000) (hw : ∀ b ∈ l, 0 ≤ b.weak ∧ b.weak < 4294967296) :
    Calls Tryd.prog 50 #[v] w fun r w' => r = .returned (.map (some w.heap.size)) ∧ w'.ownsMap Tryd.prog 3 unitElem w.heap.size l.length (wset l) ∧ Below w.heap.size w w' := by
  obtain ⟨a, c, rfl, hv⟩ := hv
  have HV := hide hv
  have HW := hide hw
  have hl' : (l.length : Int) ≤ 1000000 := by omega
  clear hv hw
  have hmm := makeMap_hint
  go_enter Tryd.func50, Tryd.ntmps50
  go_wp2_with fail
  go_loopw [11] (fun t wr => ∃ j : Nat, t = .int .i64 j ∧ j ≤ l.length ∧ Hid (wr.ownsMap Tryd.prog 3 unitElem w.heap.size j (wset (l.take j))) ∧ Hid (Below w.heap.size w wr)) (fun t _ => l.length - (intOf t).toNat)
  case atStart => exact ⟨0, rfl, by omega, World.ownsMap_made _ _ _ _, (Below.refl _ _).alloc (Nat.le_refl _) _⟩
  case round =>
    obtain ⟨j, rfl, hj, Hm, Hb⟩ := hrel
    by_cases hlt : j < l.length
    · have hlt' : (j : Int) < l.length := by omega
      obtain ⟨b, o, rfl, hc⟩ := HV.out (by omega)
      obtain ⟨c0, c1, c2⟩ := hc j hlt
      have d0 := (Hb.out.cell (World.block_lt_of_cell? _ _ c0)).trans c0
      have d1 := (Hb.out.cell (World.block_lt_of_cell? _ _ c1)).trans c1
      have d2 := (Hb.out.cell (World.block_lt_of_cell? _ _ c2)).trans c2
      have hwb := HW.out l[j] (List.getElem_mem hlt)
      have Hsn := hide (List.take_succ_eq_append_getElem hlt)
      have hkey : keyOf Tryd.prog 3 (.int .i64 l[j].weak) = some (.int .i64 l[j].weak) := keyOf_int_mk Tryd.underlying3 (WalkArith.wf_i64 (by omega))
      have Hkey := hide hkey
      clear hc c0 c1 c2 hkey
      generalize l[j] = bk at *
      have h0 := hwb.1
      have h1 := hwb.2
      clear hwb
      have Hma := hide (Hm.out.alloc (.cells #[.int .i64 bk.n, .int .i64 bk.weak, .int .u32 bk.strong] 43))
      go_wp2_with (first
        | (at_mapUpdate; refine wpList_mapUpdate_own _ rfl _ _ _ 85 rfl 3 87 Tryd.keyInt Tryd.underlying85 (unitElem (H := Unit)) w.heap.size j _ rfl Hma.out (by unfold maxLen; omega) _ _ _ rfl rfl Hkey.out _ [] unitElem_mk ?_; intro w1 hown1 hgrow1; have Hown1 := hide hown1; have Hg1 := hide hgrow1; clear hown1 hgrow1))
      all_goals
        go_roundw
        case rel =>
          refine ⟨j + 1, by go_num, by omega, ?_, ?_⟩
          · rw [Hsn.out, wset_snoc]; exact Hown1.out
          · exact (Hb.out.alloc Hb.out.size _).grown Hg1.out (by have := Hb.out.size; simp; omega) (fun k hk => by cases hk; exact Nat.le_refl _)
        case measure => simp [intOf]; omega
    · have hle : (l.length : Int) ≤ (j : Int) := by omega
      have he : j = l.length := by omega
      go_wp2_with fail
      go_ret
      refine ⟨rfl, ?_, Hb.out⟩
      have h := Hm.out
      rw [List.take_of_length_le (by omega), he] at h
      exact h
end Go.Proofs.YtgogjncamjbajacDoor
