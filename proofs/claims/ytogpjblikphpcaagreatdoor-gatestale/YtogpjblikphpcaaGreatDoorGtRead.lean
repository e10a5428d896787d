/-
  Contract of package gate's Read.
-/
import Derived.Test.YtogpjblikphpcaaGreatDoorGtLns
import Derived.Test.YtogpjblikphpcaaGreatDoorGtTextOk
namespace Go.Proofs.YtogpjblikphpcaaGreatDoor
open Go.RowKit Go.Shelf
open Go.Gate
attribute [local go_sem] Oper.semAt_some

theorem cutL_fin {s : List UInt8} {toks : Toks} {ab : ByteArray} : (s = [] → readD (cutL s) toks ab toks.length = (toks, 0, toks.length)) ∧
    (s ≠ [] → brk 10 s = none → readD (cutL s) toks ab toks.length = ([], 1, toks.length)) ∧
    (∀ x y, brk 10 s = some (x, y) → readD (cutL s) toks ab toks.length = if (lineN ab x).1 = 0 then (if toks.length < 20 then readD (cutL y) (toks ++ [((lineN ab x).2.1, (lineN ab x).2.2)]) (lineN ab x).2.1 (toks.length + 1) else ([], 8, toks.length)) else ([], (lineN ab x).1, toks.length)) := by
  refine ⟨fun h => ?_, fun h0 h => ?_, fun x y h => ?_⟩
  · subst h
    rfl
  · rw [cutL_none h, readD, if_neg h0]
  · rw [cutL_some h]
    cases hy : cutL y with
    | nil => exact absurd hy (cutL_ne y)
    | cons z t => rw [readD]

/-- What the loop stands on. -/
def rdL (L : List Fam) (D r2 r3 r4 r5 p b : Nat) (above : ByteArray) (toks : Toks) (v2 v3 : Value) : List Fam :=
  CellsF r5 9 [.string above] :: CellsF p 78 [.map (some b)] :: MapS Tryz.prog 9 b toks :: CellsF r4 24 [.pointer (some ⟨p, 0, none⟩)] :: CellsF r2 24 [v2] :: CellsF r3 28 [v3] :: ObjF D nocalls :: L

set_option maxHeartbeats 2000000 in
set_option maxRecDepth 100000 in
theorem readG_ok {a : Nat → Addr} {e : TypeId × Value} {w0 W : World} {L : List Fam} (s : ByteArray) (hs : s.size ≤ 100000) (hE : GtEnv a e w0) (hS : Sep Foot.none w0 L W) :
    Calls Tryz.prog 12 #[.string s] W fun r w' =>
      ((readG s.data.toList).2.1 = 0 ∧ ∃ q, r = .returned (.tuple #[.pointer (some q), .nilIface]) ∧ Sep Foot.none w0 (GtO (.pointer (some q)) (readG s.data.toList).1 :: L) w') ∨
      ∃ c f, (readG s.data.toList).2.1 = c + 1 ∧ r = .returned (.tuple #[.pointer none, .iface 86 (.pointer (some ⟨f, 0, none⟩))]) ∧ Sep Foot.none w0 (CellsF f 88 [.int .i64 (readG s.data.toList).2.2, errA a (c + 1)] :: L) w' := by
  have HE := hide hE
  have hs0 := (hS.fresh 24 [.pointer none]).fresh 28 [.nilIface]
  have HS := hide hs0
  have HN := hide (fun W' => newGate_ok W')
  have HLn := hide (fun W' => lines_ok s W')
  clear hE hS hs0
  obtain ⟨fin, hfin⟩ : ∃ fin, readG s.data.toList = fin := ⟨_, rfl⟩
  have Hfin := hide hfin
  rw [hfin]
  clear hfin
  refine (callsIn_wide (n := 8)).1 ?_
  refine callsIn_of_wp_marks Tryz.func12 rfl trivial ?_ rfl
  simp only [Tryz.ntmps12, List.size_toArray, List.length_cons, List.length_nil, Nat.reduceAdd, Nat.reduceSub, Array.replicate_succ, Array.replicate_zero, List.push_toArray, List.append_toArray, List.nil_append, List.cons_append]
  gi_wp2_with (first
    | (refine ⟨trivial, ?_⟩; gi_at_call 7; refine (callsIn_wide.2 (Sep.call (L0 := []) HS.out (HN.out _))).mono ?_; rintro e w' ⟨_, ⟨g, rfl, rfl⟩, hs1⟩)
    | (refine ⟨trivial, ?_⟩; gi_at_call 34; refine (callsIn_wide.2 (HLn.out _)).mono ?_; rintro e w' ⟨rfl, rfl⟩))
  obtain ⟨p, b, hg, hs2⟩ := GtO.open hs1
  simp only [Value.pointer.injEq, Option.some.injEq] at hg
  subst hg
  have hs3 := ((hs2.fresh 24 [.pointer (some ⟨p, 0, none⟩)]).fresh 9 [.string ⟨#[]⟩]).fresh 9 [.string s]
  simp only [World.size_alloc] at hs3
  have HS3 := hide hs3
  clear hs1 hs2 hs3 HS HN HLn
  generalize ((w'.alloc (.cells #[.pointer (some ⟨p, 0, none⟩)] 24)).alloc (.cells #[.string ⟨#[]⟩] 9)).alloc (.cells #[.string s] 9) = W2 at *
  generalize w'.heap.size + 1 + 1 = q at *
  generalize w'.heap.size + 1 = r5 at *
  generalize w'.heap.size = r4 at *
  generalize W.heap.size + 1 = r3 at *
  generalize W.heap.size = r2 at *
  refine rangeFunc_sep HS3.out rfl (enters_of Tryz.func60 (by kernel_rfl) rfl) ?_
  intro fn l D W3 rec hrec hs3
  have hs4 := Sep.order (L0 := [_, _, _, _, _, _, _, _, _]) [2, 0, 3, 5, 6, 4, 8, 7, 1] hs3
  simp only [List.map_cons, List.map_nil, List.getD_cons_zero, List.getD_cons_succ, List.cons_append, List.nil_append] at hs4
  clear HS3 hs3
  refine (lines1_ok l q s.data.toList (by rw [lenL]; exact hs) (fun s' L' => ∃ toks above, Upto toks above ∧ readD (cutL s') toks above toks.length = fin ∧ L' = ObjF l (rec .ready none) :: rdL L D r2 r3 r4 r5 p b above toks (.pointer none) .nilIface)
    (fun L' => ∃ c f toks above, fin = ([], c + 1, toks.length) ∧ L' = ObjF l (rec .done (some .ret)) :: CellsF f 88 [.int .i64 toks.length, errA a (c + 1)] :: rdL L D r2 r3 r4 r5 p b above toks (.pointer none) (.iface 86 (.pointer (some ⟨f, 0, none⟩)))) _ ?rounds ⟨[], ⟨#[]⟩, Upto.start, Hfin.out, rfl⟩ hs4).mono ?after
  case after =>
    rintro e' W4 ⟨hv, L', y, hR, hs5⟩
    rcases hR with ⟨toks, above, hup, hrd, rfl⟩ | ⟨c, f, toks, above, hfc, rfl⟩
    · have hs6 := hs5.sw
      refine ⟨hv, .ready, none, _, by simp, hs6, ?_⟩
      intro W5 hs7
      have hfv : fin = (toks, 0, toks.length) := by rw [← hrd, cutL_fin.1 rfl]
      clear Hfin hrd hs5 hs6 hs4 hrec hv
      subst hfv
      have c4 := (hs7.cellAt (p := r4) (T := 24) (vs := [.pointer (some ⟨p, 0, none⟩)]) (by simp [rdL]) 0).1
      have d2 := hs7.cellAt (p := r2) (T := 24) (vs := [.pointer none]) (by simp [rdL]) 0
      have h9 := Sep.order (L0 := [_, _, _, _, _, _, _, _]) [5, 0, 1, 2, 3, 4, 6, 7] hs7
      simp only [List.map_cons, List.map_nil, List.getD_cons_zero, List.getD_cons_succ, List.cons_append, List.nil_append] at h9
      have h10 := h9.set 0 (.pointer (some ⟨p, 0, none⟩))
      simp only [List.set_cons_zero] at h10
      have d3 := h10.cellAt (p := r3) (T := 28) (vs := [.nilIface]) (by simp) 0
      have h11 := Sep.order (L0 := [_, _, _, _, _, _, _, _]) [6, 0, 1, 2, 3, 4, 5, 7] h10
      simp only [List.map_cons, List.map_nil, List.getD_cons_zero, List.getD_cons_succ, List.cons_append, List.nil_append] at h11
      have h12 := h11.set 0 .nilIface
      simp only [List.set_cons_zero] at h12
      have H12 := hide h12
      have d2f := d2.2
      have d3f := d3.2
      replace d2 := d2.1
      replace d3 := d3.1
      simp only [List.getElem?_cons_zero] at c4 d2 d3 d2f d3f
      clear hs7 h9 h10 h11 h12 hup
      gi_wp2
      have h14 := Sep.order (L0 := [_, _, _, _, _, _, _, _]) [7, 0, 1, 2, 3, 4, 5, 6] H12.out
      simp only [List.map_cons, List.map_nil, List.getD_cons_zero, List.getD_cons_succ, List.cons_append, List.nil_append] at h14
      have HD := h14.obj
      have h15 := h14.putObj (.deferred none)
      have z2 := (h15.cellAt (p := r2) (T := 24) (vs := [.pointer (some ⟨p, 0, none⟩)]) (by simp) 0).1
      have z3 := (h15.cellAt (p := r3) (T := 28) (vs := [.nilIface]) (by simp) 0).1
      have h16 := Sep.order (L0 := [_, _, _, _, _, _, _, _]) [0, 1, 2, 3, 4, 7, 5, 6] h15
      simp only [List.map_cons, List.map_nil, List.getD_cons_zero, List.getD_cons_succ, List.cons_append, List.nil_append] at h16
      have H16 := hide (GtO.shut h16.drop.drop.drop.drop.drop.drop)
      simp only [List.getElem?_cons_zero] at z2 z3
      clear h14 h15 h16 H12 d2 d3 d2f d3f c4
      refine ⟨by simp, .inl ⟨_, _, rfl, run_takeDeferred HD, ?_⟩⟩
      refine ⟨_, ?_, _, rfl, H16.out⟩
      simp only [results, show Tryz.f12.results = #[.cell 2 24, .cell 3 28] from rfl]
      go_simp
    · have hs6 := hs5.sw
      refine ⟨hv, .done, some .ret, _, by simp, hs6, ?_⟩
      intro W5 hs7
      clear Hfin hs5 hs6 hs4 hrec hv
      subst hfc
      have H7 := hide hs7
      clear hs7
      gi_wp2
      have h14 := Sep.order (L0 := [_, _, _, _, _, _, _, _, _]) [8, 0, 1, 2, 3, 4, 5, 6, 7] H7.out
      simp only [List.map_cons, List.map_nil, List.getD_cons_zero, List.getD_cons_succ, List.cons_append, List.nil_append] at h14
      have HD := h14.obj
      have h15 := h14.putObj (.deferred none)
      have z2 := (h15.cellAt (p := r2) (T := 24) (vs := [.pointer none]) (by simp) 0).1
      have z3 := (h15.cellAt (p := r3) (T := 28) (vs := [.iface 86 (.pointer (some ⟨f, 0, none⟩))]) (by simp) 0).1
      have h16 := Sep.order (L0 := [_, _, _, _, _, _, _, _, _]) [0, 1, 3, 4, 5, 6, 7, 8, 2] h15
      simp only [List.map_cons, List.map_nil, List.getD_cons_zero, List.getD_cons_succ, List.cons_append, List.nil_append] at h16
      have H16 := hide (h16.drop.drop.drop.drop.drop.drop.drop.drop)
      simp only [List.getElem?_cons_zero] at z2 z3
      clear h14 h15 h16 H7
      refine ⟨by simp, .inl ⟨_, _, rfl, run_takeDeferred HD, ?_⟩⟩
      refine ⟨_, ?_, f, rfl, H16.out⟩
      simp only [results, show Tryz.f12.results = #[.cell 2 24, .cell 3 28] from rfl]
      go_simp
  case rounds =>
    clear Hfin hs4
    intro s' hs' hlen n L' W4 hR hS'
    obtain ⟨toks, above, hup, hrd, rfl⟩ := hR
    obtain ⟨_, hf2, hf3⟩ := cutL_fin (s := s') (toks := toks) (ab := above)
    obtain ⟨x, end_, hln, hx, hxl, hcase⟩ : ∃ x end_, str (lnOf s') = str (if end_ = true then x ++ [10] else x) ∧ (end_ = false → (10 : UInt8) ∉ x) ∧ x.length ≤ 100000 ∧
        ((∃ k, (if end_ = true then lineN above x else (1, ⟨#[]⟩, 0)).1 = k + 1 ∧ fin = ([], k + 1, toks.length)) ∨
         (end_ = true ∧ (lineN above x).1 = 0 ∧ 20 ≤ toks.length ∧ fin = ([], 8, toks.length)) ∨
         (end_ = true ∧ (lineN above x).1 = 0 ∧ toks.length < 20 ∧ readD (cutL (rsOf s')) (toks ++ [((lineN above x).2.1, (lineN above x).2.2)]) (lineN above x).2.1 (toks.length + 1) = fin)) := by
      cases hb : brk 10 s' with
      | none =>
        refine ⟨s', false, by rw [(lnOf_none hb).1]; rfl, fun _ => (brk_none hb).1, hlen, .inl ⟨0, rfl, ?_⟩⟩
        rw [← hrd, hf2 hs' hb]
      | some pp =>
        obtain ⟨x, y⟩ := pp
        have hd := hf3 x y hb
        rw [hrd] at hd
        refine ⟨x, true, by rw [(lnOf_some hb).1]; rfl, (fun h => by cases h), ?_, ?_⟩
        · have := (brk_some hb).1
          rw [this] at hlen
          simp only [List.length_append] at hlen
          omega
        · simp only [if_true]
          by_cases h0 : (lineN above x).1 = 0
          · rw [if_pos h0] at hd
            by_cases h20 : toks.length < 20
            · rw [if_pos h20] at hd
              exact .inr (.inr ⟨trivial, h0, h20, by rw [(lnOf_some hb).2]; exact hd.symm⟩)
            · rw [if_neg h20] at hd
              exact .inr (.inl ⟨trivial, h0, by omega, hd⟩)
          · rw [if_neg h0] at hd
            refine .inl ⟨(lineN above x).1 - 1, by omega, ?_⟩
            rw [hd, show (lineN above x).1 - 1 + 1 = (lineN above x).1 by omega]
    have HRL := hide (fun W' (k : GtEnv a e W') => readLine_ok x end_ hx above W' a e k hxl)
    rw [hln]
    clear hf2 hf3 hrd hln hs' hlen hx hxl
    generalize str (if end_ = true then x ++ [10] else x) = LN at *
    generalize rsOf s' = rest at *
    refine YieldAt.wide (n := 5) ?_
    refine (yield_sep hrec hS'.sw rfl (a1 := ?a1)
      (On := fun L' => ∃ toks above, Upto toks above ∧ readD (cutL rest) toks above toks.length = fin ∧ L' = CellsF q 9 [.string (str rest)] :: rdL L D r2 r3 r4 r5 p b above toks (.pointer none) .nilIface)
      (Off := fun j L' => j = .ret ∧ ∃ c f toks above, fin = ([], c + 1, toks.length) ∧ L' = CellsF q 9 [.string (str rest)] :: CellsF f 88 [.int .i64 toks.length, errA a (c + 1)] :: rdL L D r2 r3 r4 r5 p b above toks (.pointer none) (.iface 86 (.pointer (some ⟨f, 0, none⟩)))) ?assign ?body).mono ?fin
    case assign =>
      intro K hK
      gi_wp2
      exact hK
    case fin =>
      rintro e' W6 (⟨rfl, L2, ⟨toks2, above2, h1, h2, rfl⟩, h3⟩ | ⟨rfl, j, L2, ⟨rfl, c, f, toks2, above2, h1, rfl⟩, h3⟩)
      · exact .inl ⟨rfl, _, ⟨toks2, above2, h1, h2, rfl⟩, h3.sw⟩
      · exact .inr ⟨rfl, _, ⟨c, f, toks2, above2, h1, rfl⟩, h3.sw⟩
    case body =>
      intro W6 h2
      have HRL2 := hide (HRL.out W6 (HE.out.below h2.below))
      have HE6 := hide (HE.out.below h2.below)
      generalize hbusy : rec .busy none = busy at *
      have Hs2 := hide h2
      have c5 := h2.cellAt (p := r5) (T := 9) (vs := [.string above]) (by simp [rdL]) 0
      have f5 := c5.2
      replace c5 := c5.1
      simp only [List.getElem?_cons_zero] at c5
      clear h2 hS' hrec HRL
      rcases hcase with ⟨k, hk, hfk⟩ | ⟨rfl, h0, h20, hfk⟩ | ⟨rfl, h0, h20, hfk⟩
      · generalize (if end_ = true then lineN above x else (1, ⟨#[]⟩, 0)) = ln at *
        obtain ⟨cd, tk, ep⟩ := ln
        simp only at hk
        subst hk
        simp only [rlV, errA] at HRL2
        have Hfk := hide hfk
        clear hfk hup
        gi_upto_region 5 with (first
          | (refine ⟨trivial, ?_⟩; gi_at_call 35; refine (CallsIn.inRound l (callsIn_wide.2 HRL2.out)).mono ?_; rintro e7 w7 ⟨rfl, hb7⟩))
        have h7 := Hs2.out.keep hb7
        have c4 := (h7.cellAt (p := r4) (T := 24) (vs := [.pointer (some ⟨p, 0, none⟩)]) (by simp [rdL]) 0).1
        have cp := (h7.cellAt (p := p) (T := 78) (vs := [.map (some b)]) (by simp [rdL]) 0).1
        have hm7 := Sep.order (L0 := [_, _, _, _, _, _, _, _, _]) [4, 0, 1, 2, 3, 5, 6, 7, 8] h7
        have hlen := hm7.textLen Tryz.underlying76 3
        have h8 := h7.fresh 88 [.int .i64 toks.length, errA a (k + 1)]
        have d2 := h8.cellAt (p := r2) (T := 24) (vs := [.pointer none]) (by simp [rdL]) 0
        have h9 := Sep.order (L0 := [_, _, _, _, _, _, _, _, _, _]) [7, 0, 1, 2, 3, 4, 5, 6, 8, 9] h8
        simp only [List.map_cons, List.map_nil, List.getD_cons_zero, List.getD_cons_succ, List.cons_append, List.nil_append] at h9
        have h10 := h9.set 0 (.pointer none)
        simp only [List.set_cons_zero] at h10
        have d3 := h10.cellAt (p := r3) (T := 28) (vs := [.nilIface]) (by simp) 0
        have h11 := Sep.order (L0 := [_, _, _, _, _, _, _, _, _, _]) [8, 0, 1, 2, 3, 4, 5, 6, 7, 9] h10
        simp only [List.map_cons, List.map_nil, List.getD_cons_zero, List.getD_cons_succ, List.cons_append, List.nil_append] at h11
        have h12 := h11.set 0 (.iface 86 (.pointer (some ⟨w7.heap.size, 0, none⟩)))
        simp only [List.set_cons_zero] at h12
        have h13 := Sep.order (L0 := [_, _, _, _, _, _, _, _, _, _]) [3, 4, 2, 5, 6, 7, 8, 1, 0, 9] h12
        simp only [List.map_cons, List.map_nil, List.getD_cons_zero, List.getD_cons_succ, List.cons_append, List.nil_append] at h13
        have H13 := hide h13
        have d2f := d2.2
        have d3f := d3.2
        replace d2 := d2.1
        replace d3 := d3.1
        simp only [List.getElem?_cons_zero, errA] at c4 cp d2 d3 d2f d3f
        clear h7 hm7 h8 h9 h10 h11 h12 h13 hb7 Hs2 c5 f5 HRL2
        gi_wp2
        refine ⟨trivial, ?_⟩
        gi_wp2
        exact ⟨_, ⟨rfl, k, _, toks, above, Hfk.out, rfl⟩, H13.out⟩
      · rw [if_pos rfl] at HRL2
        obtain ⟨hl1, hl2, hl3⟩ := lineN_ok h0
        generalize hln2 : lineN above x = ln at *
        obtain ⟨cd, tk, ep⟩ := ln
        simp only at h0 hl1 hl2 hl3
        subst h0
        simp only [rlV, errA] at HRL2
        have Hfk := hide hfk
        have hgn : getT toks tk = none := getT_none.2 fun p hp => Go.Files.lt_ne (hup.all hl3 p hp)
        have htk : tk.size ≤ 1000000 := by
          unfold Go.Files.isNm at hl1
          simp only [Bool.and_eq_true, decide_eq_true_eq] at hl1
          omega
        have HR := hide (fun W' (k : Below W6.heap.size W6 W') => hasRoom_ok b toks tk (Sep.order (L0 := [_, _, _, _, _, _, _, _, _]) [4, 0, 1, 2, 3, 5, 6, 7, 8] (Hs2.out.keep k)) htk)
        rw [hgn, decide_eq_false (by omega : ¬ toks.length < 20)] at HR
        simp only [Option.isSome_none, Bool.or_false] at HR
        have HE7 := hide (fun W' (hb : Below W6.heap.size W6 W') => (HE6.out.below hb).sents)
        clear hfk hup hgn hl1 hl2 hl3 h20 hln2 htk
        gi_upto_region 5 with (first
          | (refine ⟨trivial, ?_⟩; gi_at_call 35; refine (CallsIn.inRound l (callsIn_wide.2 HRL2.out)).mono ?_; rintro e7 w7 ⟨rfl, hb7⟩))
        have HR7 := hide (HR.out w7 hb7)
        have g7 := (HE7.out w7 hb7).c7
        clear HR HE7
        have h7 := Hs2.out.keep hb7
        have c4 := (h7.cellAt (p := r4) (T := 24) (vs := [.pointer (some ⟨p, 0, none⟩)]) (by simp [rdL]) 0).1
        have cp := (h7.cellAt (p := p) (T := 78) (vs := [.map (some b)]) (by simp [rdL]) 0).1
        have hm7 := Sep.order (L0 := [_, _, _, _, _, _, _, _, _]) [4, 0, 1, 2, 3, 5, 6, 7, 8] h7
        have hlen := hm7.textLen Tryz.underlying76 3
        have h8 := h7.fresh 88 [.int .i64 toks.length, errA a (7 + 1)]
        have d2 := h8.cellAt (p := r2) (T := 24) (vs := [.pointer none]) (by simp [rdL]) 0
        have h9 := Sep.order (L0 := [_, _, _, _, _, _, _, _, _, _]) [7, 0, 1, 2, 3, 4, 5, 6, 8, 9] h8
        simp only [List.map_cons, List.map_nil, List.getD_cons_zero, List.getD_cons_succ, List.cons_append, List.nil_append] at h9
        have h10 := h9.set 0 (.pointer none)
        simp only [List.set_cons_zero] at h10
        have d3 := h10.cellAt (p := r3) (T := 28) (vs := [.nilIface]) (by simp) 0
        have h11 := Sep.order (L0 := [_, _, _, _, _, _, _, _, _, _]) [8, 0, 1, 2, 3, 4, 5, 6, 7, 9] h10
        simp only [List.map_cons, List.map_nil, List.getD_cons_zero, List.getD_cons_succ, List.cons_append, List.nil_append] at h11
        have h12 := h11.set 0 (.iface 86 (.pointer (some ⟨w7.heap.size, 0, none⟩)))
        simp only [List.set_cons_zero] at h12
        have h13 := Sep.order (L0 := [_, _, _, _, _, _, _, _, _, _]) [3, 4, 2, 5, 6, 7, 8, 1, 0, 9] h12
        simp only [List.map_cons, List.map_nil, List.getD_cons_zero, List.getD_cons_succ, List.cons_append, List.nil_append] at h13
        have H13 := hide h13
        have d2f := d2.2
        have d3f := d3.2
        replace d2 := d2.1
        replace d3 := d3.1
        simp only [List.getElem?_cons_zero, errA] at c4 cp d2 d3 d2f d3f
        clear h7 hm7 h8 h9 h10 h11 h12 h13 hb7 Hs2 c5 f5 HRL2
        gi_wp2_with (first
          | (refine ⟨trivial, ?_⟩; gi_at_call 36; refine (CallsIn.inRound l (callsIn_wide.2 HR7.out)).mono ?_; rintro e8 w8 ⟨rfl, rfl⟩))
        exact ⟨_, ⟨rfl, 7, _, toks, above, Hfk.out, rfl⟩, H13.out⟩
      · rw [if_pos rfl] at HRL2
        obtain ⟨hl1, hl2, hl3⟩ := lineN_ok h0
        generalize hln2 : lineN above x = ln at *
        obtain ⟨cd, tk, ep⟩ := ln
        simp only at h0 hl1 hl2 hl3 hfk
        subst h0
        simp only [rlV, errA] at HRL2
        obtain ⟨hu2, hgn, hins⟩ := hup.more hl3 hl1 hl2 h20
        have htk : tk.size ≤ 1000000 := by
          unfold Go.Files.isNm at hl1
          simp only [Bool.and_eq_true, decide_eq_true_eq] at hl1
          omega
        have HR := hide (fun W' (k : Below W6.heap.size W6 W') => hasRoom_ok b toks tk (Sep.order (L0 := [_, _, _, _, _, _, _, _, _]) [4, 0, 1, 2, 3, 5, 6, 7, 8] (Hs2.out.keep k)) htk)
        rw [hgn, decide_eq_true h20] at HR
        simp only [Option.isSome_none, Bool.or_true] at HR
        have Hu2 := hide hu2
        have Hfk : Hid (readD (cutL rest) (toks ++ [(tk, ep)]) tk (toks ++ [(tk, ep)]).length = fin) := by
          rw [List.length_append]
          exact hfk
        have Hset : Hid ((AssocS.set toks tk ep).Perm (toks ++ [(tk, ep)])) := by
          have := set_ins hup.fit.rise tk ep
          rwa [hins] at this
        have Htk : Hid (tk.size ≤ maxLen) := hide (by unfold maxLen; omega)
        have Hlen : Hid (toks.length ≤ 1000000) := hide (by omega)
        clear hfk hup hgn hl1 hl2 hl3 h20 hln2 htk hu2 hins
        gi_upto_region 5 with (first
          | (refine ⟨trivial, ?_⟩; gi_at_call 35; refine (CallsIn.inRound l (callsIn_wide.2 HRL2.out)).mono ?_; rintro e7 w7 ⟨rfl, hb7⟩))
        have HR7 := hide (HR.out w7 hb7)
        have h7 := Hs2.out.keep hb7
        have c4 := (h7.cellAt (p := r4) (T := 24) (vs := [.pointer (some ⟨p, 0, none⟩)]) (by simp [rdL]) 0).1
        have cp := (h7.cellAt (p := p) (T := 78) (vs := [.map (some b)]) (by simp [rdL]) 0).1
        have hm7 := Sep.order (L0 := [_, _, _, _, _, _, _, _, _]) [4, 0, 1, 2, 3, 5, 6, 7, 8] h7
        simp only [List.map_cons, List.map_nil, List.getD_cons_zero, List.getD_cons_succ, List.cons_append, List.nil_append] at hm7
        obtain ⟨v0, st, w8, w9, hme, hes, hm9⟩ := hm7.textEntry Tryz.underlying9 Tryz.underlying76 zeroInt Hlen.out Htk.out ep
        have hm10 := hm9.textPerm Hset.out
        have d5 := hm10.cellAt (p := r5) (T := 9) (vs := [.string above]) (by simp) 0
        have h11 := Sep.order (L0 := [_, _, _, _, _, _, _, _, _]) [3, 0, 1, 2, 4, 5, 6, 7, 8] hm10
        simp only [List.map_cons, List.map_nil, List.getD_cons_zero, List.getD_cons_succ, List.cons_append, List.nil_append] at h11
        have h12 := h11.set 0 (.string tk)
        simp only [List.set_cons_zero] at h12
        have h13 := Sep.order (L0 := [_, _, _, _, _, _, _, _, _]) [2, 3, 0, 4, 1, 5, 6, 7, 8] h12
        simp only [List.map_cons, List.map_nil, List.getD_cons_zero, List.getD_cons_succ, List.cons_append, List.nil_append] at h13
        have H13 := hide h13
        have d5f := d5.2
        replace d5 := d5.1
        simp only [List.getElem?_cons_zero] at c4 cp d5 d5f
        clear h7 hm7 hm9 hm10 h11 h12 h13 hb7 Hs2 c5 f5 HRL2 HR
        gi_wp2_with (first
          | (refine ⟨trivial, ?_⟩; gi_at_call 36; refine (CallsIn.inRound l (callsIn_wide.2 HR7.out)).mono ?_; rintro e8 w8' ⟨rfl, rfl⟩))
        exact ⟨_, ⟨_, _, Hu2.out, Hfk.out, rfl⟩, H13.out⟩
end Go.Proofs.YtogpjblikphpcaaGreatDoor
