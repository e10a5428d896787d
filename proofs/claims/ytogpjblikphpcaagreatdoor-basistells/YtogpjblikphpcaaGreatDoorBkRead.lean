/-
  Contracts of strings.SplitN at a blank, package basis's readWords.
-/
import Derived.Test.YtogpjblikphpcaaGreatDoorBkCheck
import Derived.Test.YtogpjblikphpcaaGreatDoorDecRd
import Derived.Test.YtogpjblikphpcaaGreatDoorSplitB
import Derived.Lib.SplitLaws
namespace Go.Proofs.YtogpjblikphpcaaGreatDoor
open Go.RowKit
open Go.Basis
open Go.Digits (digits numberOf)
open Go.Gate (cutC)

/-- What package basis reads: three errors; the library's table of powers, its error of no number. -/
structure BkEnv (a : Nat → Addr) (e : TypeId × Value) (w : World) : Prop where
  err : BkErrs w a
  num : NumEnv e w
theorem BkEnv.below {a : Nat → Addr} {e : TypeId × Value} {w w' : World} (h : BkEnv a e w) (hb : Below w.heap.size w w') : BkEnv a e w' := ⟨h.err.below hb, h.num.below hb⟩

theorem split_cells (ps : List ByteArray) (N j : Nat) (h : j < ps.length) : (Lib.cellsOf ps N)[j]? = some (.string ps[j]) := by
  unfold Lib.cellsOf
  rw [List.getElem?_toArray, List.getElem?_append_left (by rw [List.length_map]; exact h), List.getElem?_map, List.getElem?_eq_getElem h]
  rfl

set_option maxRecDepth 100000 in
/-- strings.SplitN at a blank, four at most. -/
theorem splitN_ok (s : ByteArray) (W : World) (hs : s.size ≤ 1000000) : Calls Tryz.prog 73 #[.string s, .string ⟨#[32]⟩, .int .i64 4] W fun r w' =>
    ∃ g cap, r = .returned (.slice (some ⟨g, 0, none⟩) (Lib.splitB ⟨#[32]⟩ 0 (min 4 (s.size + 1) - 1) s).length cap) ∧ Hid (∀ j (h : j < (Lib.splitB ⟨#[32]⟩ 0 (min 4 (s.size + 1) - 1) s).length), w'.cell? ⟨g, j, none⟩ = some (.string (Lib.splitB ⟨#[32]⟩ 0 (min 4 (s.size + 1) - 1) s)[j])) ∧ Below W.heap.size W w' := by
  have hi9 : (Tryz.prog.info? (Tryz.genSplit_ren.t 9)).map (fun i => (i.zero, i.size, i.bytes)) = some (some (.string ByteArray.empty), 1, 16) := by kernel_rfl
  have h := Any.strings_genSplit_core Tryz.genSplit hi9 s ⟨#[32]⟩ 0 4 (min 4 (s.size + 1)) W (by omega) (by decide) (by decide)
    (fun x c hx => by
      have e : Lib.indexB x ⟨#[32]⟩ = Lib.indexByte x.data.toList 32 := Lib.index_one _ _
      rw [e]
      exact Tryz.strings_Index_one x 32 _)
    (by
      refine (Tryz.strings_Count_one s 32 W).mono fun e w' ⟨he, hw⟩ => ⟨?_, hw⟩
      rw [he]
      show _ = Ending.returned (Value.int .i64 ((Lib.count s.data.toList [32] : Nat) : Int))
      rw [Lib.count_one]
      rfl)
    (by decide) (by decide) (by rw [if_neg (by decide)]; omega)
  change Calls Tryz.prog 96 _ _ _ at h
  generalize Lib.splitB ⟨#[32]⟩ 0 (min 4 (s.size + 1) - 1) s = ps at *
  generalize min 4 (s.size + 1) = N at *
  have H := hide h
  clear h hi9
  go_enter Tryz.func73, Tryz.ntmps73
  go_wp2_with fail
  refine H.out.mono ?_
  rintro r w1 ⟨rfl, rfl⟩
  go_wp2_with fail
  go_ret
  exact ⟨_, _, rfl, fun j hj => by rw [World.cell?_alloc_new]; exact split_cells ps N j hj, (Below.refl _ _).alloc (Nat.le_refl _) _⟩

/-- What readWords answers. -/
def wdsV (s : List UInt8) : Value := match cutC 32 s with
  | [x, y, z] => .tuple #[.agg #[.string (str x), .int .i64 (((numberOf y 10).getD 0 : Nat) : Int), .int .i64 (((numberOf z 10).getD 0 : Nat) : Int)], .bool ((numberOf y 10).isSome && (numberOf z 10).isSome)]
  | _ => .tuple #[.agg #[.string ⟨#[]⟩, .int .i64 0, .int .i64 0], .bool false]
theorem wdsV_three {s x y z : List UInt8} (h : cutC 32 s = [x, y, z]) : wdsV s = .tuple #[.agg #[.string (str x), .int .i64 (((numberOf y 10).getD 0 : Nat) : Int), .int .i64 (((numberOf z 10).getD 0 : Nat) : Int)], .bool ((numberOf y 10).isSome && (numberOf z 10).isSome)] := by
  unfold wdsV; rw [h]
theorem wdsV_other {s : List UInt8} (h : (cutC 32 s).length ≠ 3) : wdsV s = .tuple #[.agg #[.string ⟨#[]⟩, .int .i64 0, .int .i64 0], .bool false] := by
  unfold wdsV
  split
  · rename_i e; rw [e] at h; exact absurd rfl h
  · rfl

set_option maxHeartbeats 2000000 in
set_option maxRecDepth 100000 in
theorem readWords_ok (s : ByteArray) (W : World) (e : TypeId × Value) (hE : NumEnv e W) (hs : s.size ≤ 1000000) :
    Calls Tryz.prog 52 #[.string s] W fun r w' => r = .returned (wdsV s.data.toList) ∧ Below W.heap.size W w' := by
  have HSp := hide (fun W' => splitN_ok s W' hs)
  have HN := hide (fun x W' (q : Below W.heap.size W W') (hx : x.length ≤ s.size) => decRd_ok (str x) W' e (hE.below q) (by rw [str_len]; omega))
  have HS0 := hide ((Sep.start W).fresh 106 [.string ⟨#[]⟩, .int .i64 0, .int .i64 0])
  have hpart : ∀ x ∈ cutC 32 s.data.toList, x.length ≤ s.size := fun x hx => by
    have := Go.Gate.cutC_parts 32 _ x hx
    rwa [lenL] at this
  rcases Go.Gate.split_three (c := 32) (s := s) rfl with ⟨x, y, z, hc, hp, _⟩ | ⟨hc, hp⟩
  · rw [hp] at HSp
    rw [wdsV_three hc]
    rw [hc] at hpart
    have HY := hide (fun W' (q : Below W.heap.size W W') => HN.out y W' q (hpart y (by simp)))
    have HZ := hide (fun W' (q : Below W.heap.size W W') => HN.out z W' q (hpart z (by simp)))
    simp only [strL, numV] at HY HZ
    clear hpart HN hc hp hE hs
    generalize str x = X at *
    generalize str y = Y at *
    generalize str z = Z at *
    generalize (((numberOf y 10).getD 0 : Nat) : Int) = ny at *
    generalize (((numberOf z 10).getD 0 : Nat) : Int) = nz at *
    generalize (numberOf y 10).isSome = by' at *
    generalize (numberOf z 10).isSome = bz at *
    go_enter Tryz.func52, Tryz.ntmps52
    go_wp2_with fail
    refine (HSp.out _).mono ?_
    rintro r w1 ⟨g, cap, rfl, hcell, hb1⟩
    have hs1 := HS0.out.keep hb1
    have p0 := hcell.out 0 (by simp)
    have p1 := hcell.out 1 (by simp)
    have p2 := hcell.out 2 (by simp)
    have hglt : g < w1.heap.size := World.block_lt_of_cell? _ _ p0
    simp only [List.length_cons, List.length_nil, List.getElem_cons_zero, List.getElem_cons_succ] at p0 p1 p2 ⊢
    have HS1 := hide hs1
    clear hs1 hb1 hcell HSp HS0
    go_wp2_with fail
    refine (HY.out _ HS1.out.below).mono ?_
    rintro r w2 ⟨rfl, hb2⟩
    have HS2 := hide (HS1.out.keep hb2)
    have q0 := (hb2.cell (p := ⟨g, 0, none⟩) hglt).trans p0
    have q2 := (hb2.cell (p := ⟨g, 2, none⟩) hglt).trans p2
    have hglt2 : g < w2.heap.size := World.block_lt_of_cell? _ _ q0
    clear hb2 HS1 p0 p1 p2 hglt HY
    go_wp2_with fail
    refine (HZ.out _ HS2.out.below).mono ?_
    rintro r w3 ⟨rfl, hb3⟩
    have hs3 := HS2.out.keep hb3
    have r0 := (hb3.cell (p := ⟨g, 0, none⟩) hglt2).trans q0
    obtain ⟨⟨c0, f0⟩, ⟨c1, f1⟩, ⟨c2, f2⟩⟩ : (w3.cell? ⟨W.heap.size, 0, none⟩ = some (.string ⟨#[]⟩) ∧ w3.frozen? ⟨W.heap.size, 0, none⟩ = false) ∧ (w3.cell? ⟨W.heap.size, 1, none⟩ = some (.int .i64 0) ∧ w3.frozen? ⟨W.heap.size, 1, none⟩ = false) ∧ (w3.cell? ⟨W.heap.size, 2, none⟩ = some (.int .i64 0) ∧ w3.frozen? ⟨W.heap.size, 2, none⟩ = false) := ⟨hs3.cell 0, hs3.cell 1, hs3.cell 2⟩
    have hs4 := ((hs3.set 0 (.string X)).set 1 (.int .i64 ny)).set 2 (.int .i64 nz)
    simp only [List.set_cons_zero, List.set_cons_succ] at hs4
    have HS4 := hide hs4
    clear hb3 HS2 q0 q2 hglt2 HZ hs3 hs4
    cases by'
    all_goals
      go_wp2_with fail
      (try simp only [Exit.inBlock, Exit.then])
      refine bodyPost_ret (v := .tuple #[.agg #[.string X, .int .i64 ny, .int .i64 nz], .bool (_ && bz)]) ?_ rfl ⟨rfl, HS4.out.below⟩
      have k0 := (HS4.out.cell 0).1
      have k1 := (HS4.out.cell 1).1
      have k2 := (HS4.out.cell 2).1
      simp only [List.getElem?_cons_zero, List.getElem?_cons_succ] at k0 k1 k2
      simp only [results, show Tryz.f52.results = #[.cell 2 106, .tmp 3] from rfl]
      go_simp
  · rw [wdsV_other hc]
    generalize Lib.splitB ⟨#[32]⟩ 0 (min 4 (s.size + 1) - 1) s = ps at *
    have hp' : ¬ (ps.length : Int) = 3 := by omega
    clear hpart HN hc hp hE hs
    go_enter Tryz.func52, Tryz.ntmps52
    go_wp2_with fail
    refine (HSp.out _).mono ?_
    rintro r w1 ⟨g, cap, rfl, hcell, hb1⟩
    have hs1 := HS0.out.keep hb1
    obtain ⟨⟨c0, f0⟩, ⟨c1, f1⟩, ⟨c2, f2⟩⟩ : (w1.cell? ⟨W.heap.size, 0, none⟩ = some (.string ⟨#[]⟩) ∧ w1.frozen? ⟨W.heap.size, 0, none⟩ = false) ∧ (w1.cell? ⟨W.heap.size, 1, none⟩ = some (.int .i64 0) ∧ w1.frozen? ⟨W.heap.size, 1, none⟩ = false) ∧ (w1.cell? ⟨W.heap.size, 2, none⟩ = some (.int .i64 0) ∧ w1.frozen? ⟨W.heap.size, 2, none⟩ = false) := ⟨hs1.cell 0, hs1.cell 1, hs1.cell 2⟩
    have hs4 := ((hs1.set 0 (.string ⟨#[]⟩)).set 1 (.int .i64 0)).set 2 (.int .i64 0)
    simp only [List.set_cons_zero, List.set_cons_succ] at hs4
    have HS4 := hide hs4
    clear hb1 hcell HSp HS0 hs1 hs4
    go_wp2_with fail
    (try simp only [Exit.inBlock, Exit.then])
    refine bodyPost_ret (v := .tuple #[.agg #[.string ⟨#[]⟩, .int .i64 0, .int .i64 0], .bool false]) ?_ rfl ⟨rfl, HS4.out.below⟩
    have k0 := (HS4.out.cell 0).1
    have k1 := (HS4.out.cell 1).1
    have k2 := (HS4.out.cell 2).1
    simp only [List.getElem?_cons_zero, List.getElem?_cons_succ] at k0 k1 k2
    simp only [results, show Tryz.f52.results = #[.cell 2 106, .tmp 3] from rfl]
    go_simp
end Go.Proofs.YtogpjblikphpcaaGreatDoor
