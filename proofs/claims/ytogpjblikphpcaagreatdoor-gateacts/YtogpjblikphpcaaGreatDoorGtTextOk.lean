/-
  Contract of package gate's Text.
-/
import Derived.Test.YtogpjblikphpcaaGreatDoorGtText
namespace Go.Proofs.YtogpjblikphpcaaGreatDoor
open Go.RowKit Go.Shelf
open Go.Gate
open Go.Digits (digits)
attribute [local go_sem] Oper.semAt_some

theorem textB_take {g : Toks} {k : Nat} (h : k < g.length) : textB (g.take (k + 1)) = textB (g.take k) ++ lineB g[k] := by
  unfold textB
  rw [List.take_succ_eq_append_getElem h, List.flatMap_append]
  simp
theorem lineB_len {p : ByteArray × Int} (h : Go.Files.isNm p.1 = true) (h2 : isEp p.2 = true) : (lineB p).length ≤ 30 ∧ 0 < (lineB p).length := by
  unfold Go.Files.isNm at h
  simp only [Bool.and_eq_true, decide_eq_true_eq] at h
  rw [isEp_iff] at h2
  have := digits_ten (n := p.2.toNat) (by omega)
  have h3 := lenL p.1
  unfold lineB
  simp only [List.length_append, List.length_cons, List.length_nil]
  omega
theorem textB_len {g : Toks} (h : ∀ p ∈ g, Go.Files.isNm p.1 = true ∧ isEp p.2 = true) : (textB g).length ≤ 30 * g.length := by
  induction g with
  | nil => simp [textB]
  | cons p g ih =>
    have h1 := ih (fun q hq => h q (List.mem_cons_of_mem _ hq))
    obtain ⟨h2, h3⟩ := h p (List.mem_cons_self ..)
    have := (lineB_len h2 h3).1
    unfold textB at *
    simp only [List.flatMap_cons, List.length_append, List.length_cons]
    omega

set_option maxHeartbeats 2000000 in
set_option maxRecDepth 100000 in
theorem textG_ok {a : Nat → Addr} {e : TypeId × Value} {w0 W : World} {L : List Fam} {v : Value} {g : Toks} (hE : GtEnv a e w0) (hS : Sep Foot.none w0 (GtO v g :: L) W) (hl : Fit g) :
    Calls Tryz.prog 13 #[v] W fun r w' => r = .returned (.string (str (textB g))) ∧ Sep Foot.none w0 (GtO v g :: L) w' := by
  obtain ⟨p, b, rfl, hS'⟩ := GtO.open hS
  have c0 := (hS'.builder.sw.cell 0).1
  simp only [List.getElem?_cons_zero] at c0
  have HS := hide hS'.builder
  have HE := hide hE
  have Hl := hide hl
  have HRi := hide (fun W' => rising_ok b W')
  have hPB : W.heap.size = W.heap.size := rfl
  revert c0 HS
  generalize hW1 : W.alloc (.cells #[.pointer none, .slice none 0 0] 92) = W1
  intro c0 HS
  clear hS hS' hE hl hPB
  refine (callsIn_wide (n := 8)).1 ?_
  refine callsIn_of_wp_marks Tryz.func13 rfl trivial ?_ rfl
  simp only [Tryz.ntmps13, List.size_toArray, List.length_cons, List.length_nil, Nat.reduceAdd, Nat.reduceSub, Array.replicate_succ, Array.replicate_zero, List.push_toArray, List.append_toArray, List.nil_append, List.cons_append]
  gi_wp2_with (first
    | (refine ⟨trivial, ?_⟩; gi_at_call 37; refine (callsIn_wide.2 (HRi.out _)).mono ?_; rintro e w' ⟨rfl, rfl⟩))
  have HS2 := hide (HS.out.fresh 76 [.map (some b)])
  revert HS2
  generalize W1.alloc (.cells #[.map (some b)] 76) = W2
  generalize W1.heap.size = q
  intro HS2
  clear HS HRi c0 hW1
  generalize W.heap.size = B at *
  refine rangeFunc_sep HS2.out rfl (enters_of Tryz.func65 (by kernel_rfl) rfl) ?_
  intro fn l D W3 rec hrec hs3
  clear HS2
  have hs4 := Sep.order (L0 := [_, _, _, _, _, _]) [5, 2, 0, 1, 3, 4] hs3
  simp only [List.map_cons, List.map_nil, List.getD_cons_zero, List.getD_cons_succ, List.cons_append, List.nil_append] at hs4
  refine (rising1_ok l q b g Hl.out (fun k L' => L' = ObjF l (rec .ready none) :: ObjF D nocalls :: BdO B (textB (g.take k)) :: CellsF p 78 [.map (some b)] :: L) _ ?rounds rfl hs4).mono ?after
  case after =>
    rintro e W4 ⟨hv, v, L', rfl, hs5⟩
    have hs6 := Sep.order (L0 := [_, _, _, _, _, _, _]) [3, 4, 5, 6, 1, 0, 2] hs5
    simp only [List.map_cons, List.map_nil, List.getD_cons_zero, List.getD_cons_succ, List.cons_append, List.nil_append] at hs6
    refine ⟨hv, .ready, none, _, by simp, hs6, ?_⟩
    intro W5 hs7
    have Htx : Hid (textB (g.take g.length) = textB g) := by rw [List.take_length]; exact rfl
    have hs8 := Sep.order (L0 := [_, _, _, _, _, _]) [1, 2, 3, 0, 4, 5] hs7
    simp only [List.map_cons, List.map_nil, List.getD_cons_zero, List.getD_cons_succ, List.cons_append, List.nil_append] at hs8
    rw [Htx.out] at hs8
    have HB := hide (bstr_ok hs8)
    clear hs3 hs4 hs5 hs6 hs7 hs8 hrec Htx hv
    gi_wp2_with (first
      | (refine ⟨trivial, ?_⟩; gi_at_call 40; refine (callsIn_wide.2 HB.out).mono ?_; rintro e w' ⟨rfl, hs9⟩))
    have HD := hs9.third.obj
    have hs10 := (Sep.order (L0 := [_, _, _, _, _]) [2, 0, 1, 3, 4] hs9)
    simp only [List.map_cons, List.map_nil, List.getD_cons_zero, List.getD_cons_succ, List.cons_append, List.nil_append] at hs10
    have hs11 := (hs10.putObj (.deferred none)).drop
    have hs12 := Sep.order (L0 := [_, _, _, _]) [2, 3, 0, 1] hs11
    simp only [List.map_cons, List.map_nil, List.getD_cons_zero, List.getD_cons_succ, List.cons_append, List.nil_append] at hs12
    have Hfin := hide (GtO.shut hs12.drop.drop)
    refine ⟨by simp, .inl ⟨_, _, rfl, run_takeDeferred HD, ?_⟩⟩
    exact ⟨_, results_tmp rfl _ _ _, rfl, Hfin.out⟩
  case rounds =>
    intro v k hk n L' W' hR hS'
    subst hR
    obtain ⟨hn, hp⟩ := Hl.out.ok _ (List.getElem_mem hk)
    obtain ⟨hl1, hl2⟩ := lineB_len hn hp
    have hl3 := textB_len (g := g.take k) (fun p hp => Hl.out.ok p (List.mem_of_mem_take hp))
    have hl4 := Hl.out.len
    rw [List.length_take] at hl3
    rw [isEp_iff] at hp
    have hsz : g[k].1.size ≤ 1000000 := by
      unfold Go.Files.isNm at hn
      simp only [Bool.and_eq_true, decide_eq_true_eq] at hn
      omega
    have h1 := Sep.order (L0 := [_, _, _, _, _, _, _]) [3, 5, 0, 1, 2, 4, 6] hS'
    simp only [List.map_cons, List.map_nil, List.getD_cons_zero, List.getD_cons_succ, List.cons_append, List.nil_append] at h1
    refine YieldAt.wide (n := 5) ?_
    refine (yield_sep hrec h1 rfl (a1 := ?a1) (On := fun L' => L' = BdO B (textB (g.take (k + 1))) :: OwnF 9 1 v g.length (g.map fun p => .string p.1) :: MapS Tryz.prog 9 b g :: CellsF q 76 [.map (some b)] :: ObjF D nocalls :: CellsF p 78 [.map (some b)] :: L) (Off := fun _ _ => False) ?assign ?body).mono ?fin
    case assign =>
      intro K hK
      gi_wp2
      exact hK
    case fin =>
      rintro e W6 (⟨rfl, L2, rfl, h2⟩ | ⟨_, c, L2, hf, _⟩)
      · refine ⟨rfl, _, rfl, ?_⟩
        have h3 := Sep.order (L0 := [_, _, _, _, _, _, _]) [2, 3, 4, 0, 5, 1, 6] h2
        simp only [List.map_cons, List.map_nil, List.getD_cons_zero, List.getD_cons_succ, List.cons_append, List.nil_append] at h3
        exact h3
      · exact hf.elim
    case body =>
      intro W6 h2
      have hT := (HE.out.below h2.below).tab
      have HL := hide (lineOf_ok g[k].1 g[k].2 W6 hsz (by omega) (by omega) hT)
      have HW := hide (fun W7 (hb : Below W6.heap.size W6 W7) => bwrite_ok (str (lineB (g[k].1, g[k].2))) (h2.sw.keep hb) (by rw [str_len]; exact hl2) (by rw [str_len]; show _ + (lineB g[k]).length ≤ _; omega))
      have Htk : Hid (textB (g.take k) ++ (str (lineB (g[k].1, g[k].2))).data.toList = textB (g.take (k + 1))) := by rw [textB_take hk, strL]; exact rfl
      rw [Htk.out] at HW
      generalize str (lineB (g[k].1, g[k].2)) = S at *
      generalize g[k].1 = t at *
      generalize g[k].2 = m at *
      clear hT h1 h2 hS' hl1 hl2 hl3 hl4 hn hp hsz Htk hrec hs3 hs4
      gi_wp2_with (first
        | (refine ⟨trivial, ?_⟩; gi_at_call 39; refine (CallsIn.inRound l (callsIn_wide.2 HL.out)).mono ?_; rintro e w' ⟨rfl, hb7⟩)
        | (refine ⟨trivial, ?_⟩; gi_at_call 38; refine (CallsIn.inRound l (callsIn_wide.2 (HW.out _ hb7))).mono ?_; rintro e w' ⟨rfl, hs8⟩))
      exact ⟨_, rfl, hs8.sw⟩
end Go.Proofs.YtogpjblikphpcaaGreatDoor
