/-
  Contract of the document's PutOf over this dump.
-/
import Derived.Test.YtbflmkjlpopeaadDoorRefFiles
namespace Go.Proofs.YtbflmkjlpopeaadDoor
open Go.RowKit
open Go.Files (Fl lt insF putF faultF keyF)

/-- What is put together is the same, wherever one stands. -/
def putI (a d : ByteArray) (l : List Fl) (j : Nat) (out : List Fl) (done : Bool) : List Fl := if done then out ++ l.drop j else out ++ insF a d (l.drop j)
theorem putI_done (a d : ByteArray) (l : List Fl) (j : Nat) (out : List Fl) (h : j < l.length) : putI a d l j out true = putI a d l (j + 1) (out ++ [l[j]]) true := by
  simp only [putI, if_true]
  rw [List.drop_eq_getElem_cons h, List.append_assoc]
  rfl
theorem putI_less (a d : ByteArray) (l : List Fl) (j : Nat) (out : List Fl) (h : j < l.length) (hl : lt l[j].name a = true) : putI a d l j out false = putI a d l (j + 1) (out ++ [l[j]]) false := by
  simp only [putI, Bool.false_eq_true, if_false]
  rw [List.drop_eq_getElem_cons h, insF, if_pos hl, List.append_assoc]
  rfl
theorem putI_same (a d : ByteArray) (l : List Fl) (j : Nat) (out : List Fl) (h : j < l.length) (hl : lt l[j].name a = false) (he : l[j].name = a) : putI a d l j out false = putI a d l (j + 1) (out ++ [⟨a, d⟩]) true := by
  simp only [putI, Bool.false_eq_true, if_false, if_true]
  rw [List.drop_eq_getElem_cons h, insF, if_neg (by rw [hl]; simp), if_pos he, List.append_assoc]
  rfl
theorem putI_more (a d : ByteArray) (l : List Fl) (j : Nat) (out : List Fl) (h : j < l.length) (hl : lt l[j].name a = false) (he : l[j].name ≠ a) : putI a d l j out false = putI a d l (j + 1) (out ++ [⟨a, d⟩] ++ [l[j]]) true := by
  simp only [putI, Bool.false_eq_true, if_false, if_true]
  rw [List.drop_eq_getElem_cons h, insF, if_neg (by rw [hl]; simp), if_neg he, List.append_assoc, List.append_assoc]
  rfl
theorem putI_end (a d : ByteArray) (l : List Fl) (out : List Fl) : putI a d l l.length out false = out ++ [⟨a, d⟩] := by
  simp only [putI, Bool.false_eq_true, if_false]
  rw [List.drop_length, insF]
theorem putI_full (a d : ByteArray) (l : List Fl) (out : List Fl) : putI a d l l.length out true = out := by
  simp only [putI, if_true]
  rw [List.drop_length, List.append_nil]

set_option maxHeartbeats 2000000 in
set_option maxRecDepth 100000 in
theorem putOf_bad (v : Value) (l : List Fl) (a d : ByteArray) (w : World) (hv : FRow w v l) (hl : l.length ≤ 900) (hs : ∀ x ∈ l, x.name.size ≤ 1000000) (hf : (faultF (l.map keyF)).1 ≠ 0) :
    Calls Tryd.prog 26 #[v, .string a, .string d] w fun r w' => r = .returned (.tuple #[.slice none 0 0, .agg #[.int .i64 (faultF (l.map keyF)).1, .int .i64 (faultF (l.map keyF)).2]]) ∧ Below w.heap.size w w' := by
  have hba := (Below.refl w.heap.size w).alloc (Nat.le_refl _) (.cells #[.int .i64 0, .int .i64 0] 37)
  have HF := hide (filesFault_ok v l _ (hv.below hba) (by omega) hs)
  have Hb0 := hide hba
  have Hq0 := hide (HvAt.fresh w 0 0 37)
  obtain ⟨q, c, rfl, _⟩ := hv
  generalize faultF (l.map keyF) = f at *
  obtain ⟨fc, fa⟩ := f
  simp only at HF hf ⊢
  have hfc : (0 : Int) < fc := by omega
  clear hba hf hs
  go_enter Tryd.func26, Tryd.ntmps26
  go_wp2_with fail
  refine HF.out.mono ?_
  rintro r w2 ⟨rfl, hb2⟩
  have hb3 := hb2.alloc hb2.size (.cells #[.int .i64 fc, .int .i64 fa] 37)
  have hq3 := Hq0.out.below hb3 Hq0.out.lt
  have Hq3 := hide hq3
  have Hb3 := hide (bthen Hb0.out hb3)
  obtain ⟨q0, q1, p0, p1, qlt⟩ := hq3
  have Hne : Hid (w.heap.size < w2.heap.size) := by have := hb2.size; simp at this; exact this
  clear hb2 hb3 Hq0 Hb0 HF
  go_wp2_with fail
  go_region
  all_goals
    go_wp2_with fail
    (try simp only [Exit.inBlock, Exit.then])
    refine bodyPost_ret (v := .tuple #[.slice none 0 0, .agg #[.int .i64 fc, .int .i64 fa]]) ?_ rfl ⟨rfl, ((Hb3.out.setCell (by simp) _).setCell (by simp) _).drew⟩
    obtain ⟨x0, x1, _, _, _⟩ := (Hq3.out.set fc fa).drew
    simp only [results, show Tryd.f26.results = #[.tmp 6, .cell 7 37] from rfl]
    go_simp

set_option maxHeartbeats 4000000 in
set_option maxRecDepth 100000 in
theorem putOf_main (v : Value) (l : List Fl) (a d : ByteArray) (w : World) (hv : FRow w v l) (hl : l.length ≤ 900) (hs : ∀ x ∈ l, x.name.size ≤ 1000000) (has : a.size ≤ 1000000) (hf : (faultF (l.map keyF)).1 = 0) :
    Calls Tryd.prog 26 #[v, .string a, .string d] w fun r w' => (∃ u, r = .returned (.tuple #[u, .agg #[.int .i64 (faultF ((insF a d l).map keyF)).1, .int .i64 (if (faultF ((insF a d l).map keyF)).1 = 0 then -1 else (faultF ((insF a d l).map keyF)).2)]]) ∧ FRow w' u (if (faultF ((insF a d l).map keyF)).1 = 0 then insF a d l else [])) ∧ Below w.heap.size w w' := by
  obtain ⟨i0, hi, hz0, hz1, hz2⟩ := info_parts Tryd.info62
  have hba := (Below.refl w.heap.size w).alloc (Nat.le_refl _) (.cells #[.int .i64 0, .int .i64 0] 37)
  have HF := hide (filesFault_ok v l _ (hv.below hba) (by omega) hs)
  have HFn := hide (fun W => fine_ok W)
  have HF2 := hide (fun u W (h : FRow W u (insF a d l)) => filesFault_ok u (insF a d l) W h (by have := ins_len a d l; omega) (fun x hx => by
    rcases Go.Files.mem_ins hx with rfl | hx
    · exact has
    · exact hs x hx))
  have hil := ins_len a d l
  have Hb0 := hide hba
  have Hq0 := hide (HvAt.fresh w 0 0 37)
  obtain ⟨q, c, rfl, hv⟩ := hv
  have HV := hide hv
  rw [hf] at HF
  generalize (faultF (l.map keyF)).2 = fa at *
  generalize faultF ((insF a d l).map keyF) = g at *
  obtain ⟨gc, ga⟩ := g
  simp only at HF2 ⊢
  have H0 : Hid (putI a d l 0 [] false = insF a d l) := by simp [Hid, putI]
  generalize insF a d l = R at *
  have hl' : (l.length : Int) ≤ 900 := by omega
  clear hba hf hs hv has
  go_enter Tryd.func26, Tryd.ntmps26
  go_wp2_with fail
  refine HF.out.mono ?_
  rintro r w2 ⟨rfl, hb2⟩
  have hb3 := hb2.alloc hb2.size (.cells #[.int .i64 ((0 : Nat) : Int), .int .i64 fa] 37)
  have Hq3 := hide (Hq0.out.below hb3 Hq0.out.lt)
  have Hg3 := hide (HvAt.fresh w2 ((0 : Nat) : Int) fa 37)
  have Hb3 := hide (bthen Hb0.out hb3)
  have Hne : Hid (w.heap.size < w2.heap.size) := by have := hb2.size; simp at this; exact this
  have Hs3 : Hid (w2.heap.size + 1 ≤ (w2.alloc (.cells #[.int .i64 ((0 : Nat) : Int), .int .i64 fa] 37)).heap.size) := by simp [Hid]
  clear hb2 hb3 Hq0 Hb0 HF
  go_wp2_with fail
  generalize w2.alloc (.cells #[.int .i64 ((0 : Nat) : Int), .int .i64 fa] 37) = w3 at *
  go_loopw [9, 10, 11] (fun t9 t10 t11 wr => ∃ (j : Nat) (out : List Fl) (done : Bool), t11 = .int .i64 j ∧ t10 = .bool done ∧ j ≤ l.length ∧ out.length + (if done then 0 else 1) ≤ j + 1 ∧ Hid (putI a d l j out done = R) ∧ Hid (wr.ownsRow (w2.heap.size + 1) 62 2 t9 out.length (fcs out)) ∧ Hid (HvAt w.heap.size wr 0 0) ∧ Hid (HvAt w2.heap.size wr ((0 : Nat) : Int) fa) ∧ Hid (Below w.heap.size w wr) ∧ Hid (w2.heap.size + 1 ≤ wr.heap.size)) (fun _ _ t11 _ => l.length - (intOf t11).toNat)
  case atStart => exact ⟨0, [], false, rfl, rfl, by omega, by simp, H0.out, World.ownsRow_nil _ _ _ _, Hq3.out, Hg3.out, Hb3.out, Hs3.out⟩
  case round =>
    clear H0 Hq3 Hg3 Hb3 Hs3
    obtain ⟨j, out, done, rfl, rfl, hj, hlen, HI, Hown, Hq, Hg, Hb, Hsz⟩ := hrel
    by_cases hlt : j < l.length
    · have hlt' : (j : Int) < l.length := by omega
      obtain ⟨b, o, rfl, hc⟩ := HV.out (by omega)
      obtain ⟨c0, c1⟩ := hc j hlt
      have l0 := World.block_lt_of_cell? _ _ c0
      have d0 := (Hb.out.cell l0).trans c0
      have d1 := (Hb.out.cell (p := ⟨b, o + j * 2 + 1, none⟩) l0).trans c1
      have K1 := hide (putI_done a d l j out hlt)
      have K2 := hide (putI_less a d l j out hlt)
      have K3 := hide (putI_same a d l j out hlt)
      have K4 := hide (putI_more a d l j out hlt)
      have hbw : b < w.heap.size := l0
      clear hc c0 c1 HF2 HFn
      generalize l[j] = x at *
      cases done with
      | true =>
        simp only [if_true, Nat.add_zero] at hlen
        have HI1 := hide (K1.out.symm.trans HI.out)
        clear K1 K2 K3 K4 HI
        go_wp2_with (first | (at_builtin; refine wpList_append_own _ rfl (.tmp 48) (.tmp 53) 32 rfl (w2.heap.size + 1) 62 i0 (.agg #[.string ⟨#[]⟩, .string ⟨#[]⟩]) 2 32 Tryd.underlying32 hi hz0 hz1 hz2 rfl (by decide) u9 out.length (fcs (out)) rfl ?own1 ⟨wr.heap.size, 0, none⟩ 1 1 [.string x.name, .string x.data] rfl rfl ?ca1 ?cb1 ?ba1 ?bb1 ?bc1 ?next1))
        case own1 => exact Hown.out.alloc _
        try case ca1 => intro j u hj; match j, hj with | 0, hj | 1, hj => simp at hj; subst hj; simp [Addr.add]
        case cb1 => first | (intro u hu; simp at hu; rcases hu with rfl | rfl <;> rfl) | exact ⟨rfl, rfl⟩
        case ba1 => unfold maxLen; (try simp only [List.length_append, List.length_singleton]); omega
        case bb1 => (try simp only [List.length_append, List.length_singleton]); omega
        case bc1 => have := Hsz.out; simp; omega
        case next1 =>
          intro v5 w5 hown5 hgrow5 _
          have hb5 : Below (w2.heap.size + 1) wr w5 := ((Below.refl (w2.heap.size + 1) wr).alloc (by have := Hsz.out; omega) _).grown hgrow5 (by have := Hsz.out; simp; omega) (fun k hk => (Hown.out.lt k hk).1)
          have Hq5 := hide (Hq.out.below hb5 (by have := Hne.out; omega))
          have Hg5 := hide (Hg.out.below hb5 (by omega))
          have Hb5 := hide (Hb.out.trans (hb5.mono (by have := Hne.out; omega)))
          have Hs5 : Hid (w2.heap.size + 1 ≤ w5.heap.size) := Nat.le_trans Hsz.out hb5.size
          have Hown5 : Hid (w5.ownsRow (w2.heap.size + 1) 62 2 v5 (out ++ [x]).length (fcs (out ++ [x]))) := by
            rw [fcs, cs2_snoc, List.length_append, List.length_singleton]
            simpa [Hid] using hown5
          clear hb5 hown5 hgrow5 Hown Hq Hg Hb d0 d1
          go_wp2_with fail
          go_roundw
          case rel => exact ⟨j + 1, out ++ [x], true, by go_num, rfl, by omega, by simp; omega, HI1.out, Hown5.out, Hq5.out, Hg5.out, Hb5.out, Hs5.out⟩
          case measure => simp [intOf]; omega
      | false =>
        simp only [Bool.false_eq_true, if_false] at hlen
        cases hl : lt x.name a with
        | true =>
          have e : Op.bytesLess x.name.toList a.toList = true := hl
          have HI1 := hide ((K2.out hl).symm.trans HI.out)
          clear K1 K2 K3 K4 HI hl
          go_wp2_with (first | (at_builtin; refine wpList_append_own _ rfl (.tmp 48) (.tmp 53) 32 rfl (w2.heap.size + 1) 62 i0 (.agg #[.string ⟨#[]⟩, .string ⟨#[]⟩]) 2 32 Tryd.underlying32 hi hz0 hz1 hz2 rfl (by decide) u9 out.length (fcs (out)) rfl ?own2 ⟨wr.heap.size, 0, none⟩ 1 1 [.string x.name, .string x.data] rfl rfl ?ca2 ?cb2 ?ba2 ?bb2 ?bc2 ?next2))
          case own2 => exact Hown.out.alloc _
          try case ca2 => intro j u hj; match j, hj with | 0, hj | 1, hj => simp at hj; subst hj; simp [Addr.add]
          case cb2 => first | (intro u hu; simp at hu; rcases hu with rfl | rfl <;> rfl) | exact ⟨rfl, rfl⟩
          case ba2 => unfold maxLen; (try simp only [List.length_append, List.length_singleton]); omega
          case bb2 => (try simp only [List.length_append, List.length_singleton]); omega
          case bc2 => have := Hsz.out; simp; omega
          case next2 =>
            intro v5 w5 hown5 hgrow5 _
            have hb5 : Below (w2.heap.size + 1) wr w5 := ((Below.refl (w2.heap.size + 1) wr).alloc (by have := Hsz.out; omega) _).grown hgrow5 (by have := Hsz.out; simp; omega) (fun k hk => (Hown.out.lt k hk).1)
            have Hq5 := hide (Hq.out.below hb5 (by have := Hne.out; omega))
            have Hg5 := hide (Hg.out.below hb5 (by omega))
            have Hb5 := hide (Hb.out.trans (hb5.mono (by have := Hne.out; omega)))
            have Hs5 : Hid (w2.heap.size + 1 ≤ w5.heap.size) := Nat.le_trans Hsz.out hb5.size
            have Hown5 : Hid (w5.ownsRow (w2.heap.size + 1) 62 2 v5 (out ++ [x]).length (fcs (out ++ [x]))) := by
              rw [fcs, cs2_snoc, List.length_append, List.length_singleton]
              simpa [Hid] using hown5
            clear hb5 hown5 hgrow5 Hown Hq Hg Hb d0 d1
            go_wp2_with fail
            go_roundw
            case rel => exact ⟨j + 1, out ++ [x], false, by go_num, rfl, by omega, by simp; omega, HI1.out, Hown5.out, Hq5.out, Hg5.out, Hb5.out, Hs5.out⟩
            case measure => simp [intOf]; omega
        | false =>
          have e : Op.bytesLess x.name.toList a.toList = false := hl
          by_cases hx : x.name = a
          · have e2 := same_bytes hx
            have HI1 := hide ((K3.out hl hx).symm.trans HI.out)
            clear K1 K2 K3 K4 HI hl hx
            go_wp2_with (first | (at_builtin; refine wpList_append_own _ rfl (.tmp 35) (.tmp 39) 32 rfl (w2.heap.size + 1) 62 i0 (.agg #[.string ⟨#[]⟩, .string ⟨#[]⟩]) 2 32 Tryd.underlying32 hi hz0 hz1 hz2 rfl (by decide) u9 out.length (fcs (out)) rfl ?own3 ⟨wr.heap.size, 0, none⟩ 1 1 [.string a, .string d] rfl rfl ?ca3 ?cb3 ?ba3 ?bb3 ?bc3 ?next3))
            case own3 => exact Hown.out.alloc _
            try case ca3 => intro j u hj; match j, hj with | 0, hj | 1, hj => simp at hj; subst hj; simp [Addr.add]
            case cb3 => first | (intro u hu; simp at hu; rcases hu with rfl | rfl <;> rfl) | exact ⟨rfl, rfl⟩
            case ba3 => unfold maxLen; (try simp only [List.length_append, List.length_singleton]); omega
            case bb3 => (try simp only [List.length_append, List.length_singleton]); omega
            case bc3 => have := Hsz.out; simp; omega
            case next3 =>
              intro v5 w5 hown5 hgrow5 _
              have hb5 : Below (w2.heap.size + 1) wr w5 := ((Below.refl (w2.heap.size + 1) wr).alloc (by have := Hsz.out; omega) _).grown hgrow5 (by have := Hsz.out; simp; omega) (fun k hk => (Hown.out.lt k hk).1)
              have Hq5 := hide (Hq.out.below hb5 (by have := Hne.out; omega))
              have Hg5 := hide (Hg.out.below hb5 (by omega))
              have Hb5 := hide (Hb.out.trans (hb5.mono (by have := Hne.out; omega)))
              have Hs5 : Hid (w2.heap.size + 1 ≤ w5.heap.size) := Nat.le_trans Hsz.out hb5.size
              have Hown5 : Hid (w5.ownsRow (w2.heap.size + 1) 62 2 v5 (out ++ [(⟨a, d⟩ : Fl)]).length (fcs (out ++ [(⟨a, d⟩ : Fl)]))) := by
                rw [fcs, cs2_snoc, List.length_append, List.length_singleton]
                simpa [Hid] using hown5
              have k0 := (hb5.cell (p := ⟨b, o + j * 2, none⟩) (show b < w2.heap.size + 1 by have := Hne.out; omega)).trans d0
              clear hb5 hown5 hgrow5 Hown Hq Hg Hb d0 d1
              go_wp2_with fail
              go_roundw
              case rel => exact ⟨j + 1, out ++ [(⟨a, d⟩ : Fl)], true, by go_num, rfl, by omega, by simp; omega, HI1.out, Hown5.out, Hq5.out, Hg5.out, Hb5.out, Hs5.out⟩
              case measure => simp [intOf]; omega
          · have e2 := other_bytes hx
            have HI1 := hide ((K4.out hl hx).symm.trans HI.out)
            clear K1 K2 K3 K4 HI hl hx
            go_wp2_with (first | (at_builtin; refine wpList_append_own _ rfl (.tmp 35) (.tmp 39) 32 rfl (w2.heap.size + 1) 62 i0 (.agg #[.string ⟨#[]⟩, .string ⟨#[]⟩]) 2 32 Tryd.underlying32 hi hz0 hz1 hz2 rfl (by decide) u9 out.length (fcs (out)) rfl ?own4 ⟨wr.heap.size, 0, none⟩ 1 1 [.string a, .string d] rfl rfl ?ca4 ?cb4 ?ba4 ?bb4 ?bc4 ?next4))
            case own4 => exact Hown.out.alloc _
            try case ca4 => intro j u hj; match j, hj with | 0, hj | 1, hj => simp at hj; subst hj; simp [Addr.add]
            case cb4 => first | (intro u hu; simp at hu; rcases hu with rfl | rfl <;> rfl) | exact ⟨rfl, rfl⟩
            case ba4 => unfold maxLen; (try simp only [List.length_append, List.length_singleton]); omega
            case bb4 => (try simp only [List.length_append, List.length_singleton]); omega
            case bc4 => have := Hsz.out; simp; omega
            case next4 =>
              intro v5 w5 hown5 hgrow5 _
              have hb5 : Below (w2.heap.size + 1) wr w5 := ((Below.refl (w2.heap.size + 1) wr).alloc (by have := Hsz.out; omega) _).grown hgrow5 (by have := Hsz.out; simp; omega) (fun k hk => (Hown.out.lt k hk).1)
              have Hq5 := hide (Hq.out.below hb5 (by have := Hne.out; omega))
              have Hg5 := hide (Hg.out.below hb5 (by omega))
              have Hb5 := hide (Hb.out.trans (hb5.mono (by have := Hne.out; omega)))
              have Hs5 : Hid (w2.heap.size + 1 ≤ w5.heap.size) := Nat.le_trans Hsz.out hb5.size
              have Hown5 : Hid (w5.ownsRow (w2.heap.size + 1) 62 2 v5 (out ++ [(⟨a, d⟩ : Fl)]).length (fcs (out ++ [(⟨a, d⟩ : Fl)]))) := by
                rw [fcs, cs2_snoc, List.length_append, List.length_singleton]
                simpa [Hid] using hown5
              have k0 := (hb5.cell (p := ⟨b, o + j * 2, none⟩) (show b < w2.heap.size + 1 by have := Hne.out; omega)).trans d0
              have k1 := (hb5.cell (p := ⟨b, o + j * 2 + 1, none⟩) (show b < w2.heap.size + 1 by have := Hne.out; omega)).trans d1
              obtain ⟨gg, cc, rfl⟩ : ∃ gg cc, v5 = .slice (some ⟨gg, 0, none⟩) (out.length + 1) cc := own_form hown5
              clear hb5 hown5 hgrow5 Hown Hq Hg Hb d0 d1
              go_wp2_with (first | (at_builtin; refine wpList_append_own _ rfl (.tmp 48) (.tmp 53) 32 rfl (w2.heap.size + 1) 62 i0 (.agg #[.string ⟨#[]⟩, .string ⟨#[]⟩]) 2 32 Tryd.underlying32 hi hz0 hz1 hz2 rfl (by decide) (.slice (some ⟨gg, 0, none⟩) (out.length + 1) cc) (out ++ [(⟨a, d⟩ : Fl)]).length (fcs (out ++ [(⟨a, d⟩ : Fl)])) rfl ?own5 ⟨w5.heap.size, 0, none⟩ 1 1 [.string x.name, .string x.data] rfl rfl ?ca5 ?cb5 ?ba5 ?bb5 ?bc5 ?next5))
              case own5 => exact Hown5.out.alloc _
              try case ca5 => intro j u hj; match j, hj with | 0, hj | 1, hj => simp at hj; subst hj; simp [Addr.add]
              case cb5 => first | (intro u hu; simp at hu; rcases hu with rfl | rfl <;> rfl) | exact ⟨rfl, rfl⟩
              case ba5 => unfold maxLen; (try simp only [List.length_append, List.length_singleton]); omega
              case bb5 => (try simp only [List.length_append, List.length_singleton]); omega
              case bc5 => have := Hs5.out; simp; omega
              case next5 =>
                intro v6 w6 hown6 hgrow6 _
                have hb6 : Below (w2.heap.size + 1) w5 w6 := ((Below.refl (w2.heap.size + 1) w5).alloc (by have := Hs5.out; omega) _).grown hgrow6 (by have := Hs5.out; simp; omega) (fun k hk => (Hown5.out.lt k hk).1)
                have Hq6 := hide (Hq5.out.below hb6 (by have := Hne.out; omega))
                have Hg6 := hide (Hg5.out.below hb6 (by omega))
                have Hb6 := hide (Hb5.out.trans (hb6.mono (by have := Hne.out; omega)))
                have Hs6 : Hid (w2.heap.size + 1 ≤ w6.heap.size) := Nat.le_trans Hs5.out hb6.size
                have Hown6 : Hid (w6.ownsRow (w2.heap.size + 1) 62 2 v6 (out ++ [(⟨a, d⟩ : Fl)] ++ [x]).length (fcs (out ++ [(⟨a, d⟩ : Fl)] ++ [x]))) := by
                  rw [fcs, cs2_snoc, List.length_append, List.length_singleton]
                  simpa [Hid] using hown6
                clear hb6 hown6 hgrow6 Hown5 Hq5 Hg5 Hb5 k0 k1
                go_wp2_with fail
                go_roundw
                case rel => exact ⟨j + 1, out ++ [(⟨a, d⟩ : Fl)] ++ [x], true, by go_num, rfl, by omega, by simp; omega, HI1.out, Hown6.out, Hq6.out, Hg6.out, Hb6.out, Hs6.out⟩
                case measure => simp [intOf]; omega
    · have hle : (l.length : Int) ≤ (j : Int) := by omega
      obtain rfl : j = l.length := by omega
      have KE := hide (putI_end a d l out)
      have KF := hide (putI_full a d l out)
      clear HV
      go_upto_if 56 with fail
      go_cut [9] (fun v9 wc => Hid (wc.ownsRow (w2.heap.size + 1) 62 2 v9 R.length (fcs R)) ∧ Hid (HvAt w.heap.size wc 0 0) ∧ Hid (HvAt w2.heap.size wc ((0 : Nat) : Int) fa) ∧ Hid (Below w.heap.size w wc) ∧ Hid (w2.heap.size + 1 ≤ wc.heap.size))
      case first =>
        cases done with
        | true =>
          have hR : R = out := HI.out.symm.trans KF.out
          subst hR
          clear KE KF HI
          go_wp2_with fail
          go_meet
          case rel => exact ⟨Hown.out, Hq.out, Hg.out, Hb.out, Hsz.out⟩
        | false =>
          simp only [Bool.false_eq_true, if_false] at hlen
          have hR : R = out ++ [⟨a, d⟩] := HI.out.symm.trans KE.out
          subst hR
          clear KE KF HI
          go_wp2_with (first | (at_builtin; refine wpList_append_own _ rfl (.tmp 57) (.tmp 61) 32 rfl (w2.heap.size + 1) 62 i0 (.agg #[.string ⟨#[]⟩, .string ⟨#[]⟩]) 2 32 Tryd.underlying32 hi hz0 hz1 hz2 rfl (by decide) u9 out.length (fcs (out)) rfl ?own6 ⟨wr.heap.size, 0, none⟩ 1 1 [.string a, .string d] rfl rfl ?ca6 ?cb6 ?ba6 ?bb6 ?bc6 ?next6))
          case own6 => exact Hown.out.alloc _
          try case ca6 => intro j u hj; match j, hj with | 0, hj | 1, hj => simp at hj; subst hj; simp [Addr.add]
          case cb6 => first | (intro u hu; simp at hu; rcases hu with rfl | rfl <;> rfl) | exact ⟨rfl, rfl⟩
          case ba6 => unfold maxLen; (try simp only [List.length_append, List.length_singleton]); omega
          case bb6 => (try simp only [List.length_append, List.length_singleton]); omega
          case bc6 => have := Hsz.out; simp; omega
          case next6 =>
            intro v5 w5 hown5 hgrow5 _
            have hb5 : Below (w2.heap.size + 1) wr w5 := ((Below.refl (w2.heap.size + 1) wr).alloc (by have := Hsz.out; omega) _).grown hgrow5 (by have := Hsz.out; simp; omega) (fun k hk => (Hown.out.lt k hk).1)
            have Hq5 := hide (Hq.out.below hb5 (by have := Hne.out; omega))
            have Hg5 := hide (Hg.out.below hb5 (by omega))
            have Hb5 := hide (Hb.out.trans (hb5.mono (by have := Hne.out; omega)))
            have Hs5 : Hid (w2.heap.size + 1 ≤ w5.heap.size) := Nat.le_trans Hsz.out hb5.size
            have Hown5 : Hid (w5.ownsRow (w2.heap.size + 1) 62 2 v5 (out ++ [(⟨a, d⟩ : Fl)]).length (fcs (out ++ [(⟨a, d⟩ : Fl)]))) := by
              rw [fcs, cs2_snoc, List.length_append, List.length_singleton]
              simpa [Hid] using hown5
            clear hb5 hown5 hgrow5 Hown Hq Hg Hb
            go_wp2_with fail
            go_meet
            case rel => exact ⟨Hown5.out, Hq5.out, Hg5.out, Hb5.out, Hs5.out⟩
      case rest =>
        clear Hown Hq Hg Hb Hsz KE KF HI
        obtain ⟨Hown, Hq, Hg, Hb, Hsz⟩ := hcut
        have HX := hide (HF2.out _ _ (Row2.of_own Hown.out))
        have Hwn := Hown
        rcases own_forms Hown.out with ⟨rfl, h0⟩ | ⟨gg, cc, rfl⟩
        all_goals
          clear HF2
          go_wp2_with fail
          refine HX.out.mono ?_
          rintro r w6 ⟨rfl, hb6⟩
          have Hown6 := hide (own_below Hown.out hb6)
          have hq6 := Hq.out.below hb6 Hq.out.lt
          have hg6 := Hg.out.below hb6 Hg.out.lt
          have Hq6 := hide hq6
          have Hg6 := hide hg6
          have Hb6 := hide (bthen Hb.out hb6)
          have Hg7 := hide (hg6.set gc ga)
          have hbS : Below w2.heap.size w6 ((w6.setCell ⟨w2.heap.size, 0, none⟩ (.int .i64 gc)).setCell ⟨w2.heap.size, 1, none⟩ (.int .i64 ga)) := ((Below.refl w2.heap.size w6).setCell (by simp) _).setCell (by simp) _
          have Hq7 := hide (hq6.below hbS Hne.out)
          have Hb7 := hide (Hb6.out.trans (hbS.mono (Nat.le_of_lt Hne.out)))
          have Hown7 := hide (ownsRow_setCell_below (ownsRow_setCell_below Hown6.out (a := ⟨w2.heap.size, 0, none⟩) (by simp) (.int .i64 gc)) (a := ⟨w2.heap.size, 1, none⟩) (by simp) (.int .i64 ga))
          have hsz6 := hb6.size
          clear hb6 HX Hown Hq Hg Hb Hown6 hbS Hwn
          obtain ⟨y0, y1, z0, z1, ylt⟩ := hg6
          have hq7 := Hq7.out
          have hg7 := Hg7.out
          obtain ⟨q0, q1, p0, p1, qlt⟩ := hq7
          obtain ⟨g0, g1, f0, f1, glt⟩ := hg7
          by_cases hgc : gc = 0
          · have hgc' : (gc : Int) ≤ 0 := by omega
            have Hgc := hide hgc
            clear hq6 hgc
            go_upto_region 19 with fail
            generalize ((w6.setCell ⟨w2.heap.size, 0, none⟩ (.int .i64 (gc : Int))).setCell ⟨w2.heap.size, 1, none⟩ (.int .i64 ga)) = wS at *
            clear q0 q1 p0 p1 qlt g0 g1 f0 f1 glt y0 y1 z0 z1 ylt
            go_wp2_with fail
            refine (HFn.out _).mono ?_
            rintro r w8 ⟨rfl, hb8⟩
            have hq8 := Hq7.out.below hb8 Hq7.out.lt
            have Hq8 := hide hq8
            have Hb8 := hide (bthen Hb7.out hb8)
            have Hown8 := hide (own_below Hown7.out hb8)
            clear hb8 Hq7 Hb7 Hown7 Hg7 Hg6 Hq6 Hb6
            obtain ⟨q0, q1, p0, p1, qlt⟩ := hq8
            go_wp2_with fail
            (try simp only [Exit.inBlock, Exit.then])
            refine bodyPost_ret (v := .tuple #[_, .agg #[.int .i64 0, .int .i64 (-1)]]) ?_ rfl ⟨⟨_, rfl, Row2.of_own (ownsRow_setCell_below (ownsRow_setCell_below Hown8.out (a := ⟨w.heap.size, 0, none⟩) (by have := Hne.out; simp; omega) (.int .i64 0)) (a := ⟨w.heap.size, 1, none⟩) (by have := Hne.out; simp; omega) (.int .i64 (-1)))⟩, (Hb8.out.setCell (by simp) _).setCell (by simp) _⟩
            obtain ⟨x0, x1, _, _, _⟩ := Hq8.out.set 0 (-1)
            simp only [results, show Tryd.f26.results = #[.tmp 6, .cell 7 37] from rfl]
            go_simp
          · have hgc' : (0 : Int) < gc := by omega
            have Hgc := hide hgc
            clear hq6 hgc
            go_upto_region 18 with fail
            generalize ((w6.setCell ⟨w2.heap.size, 0, none⟩ (.int .i64 (gc : Int))).setCell ⟨w2.heap.size, 1, none⟩ (.int .i64 ga)) = wS at *
            clear y0 y1 z0 z1 ylt Hown7 Hg7 Hg6 Hq6 Hb6
            go_region
            all_goals
              go_wp2_with fail
              (try simp only [Exit.inBlock, Exit.then])
              refine bodyPost_ret (v := .tuple #[.slice none 0 0, .agg #[.int .i64 gc, .int .i64 ga]]) ?_ rfl ⟨⟨_, rfl, Row2.nil _⟩, ((Hb7.out.setCell (by simp) _).setCell (by simp) _).drew⟩
              obtain ⟨x0, x1, _, _, _⟩ := (Hq7.out.set gc ga).drew
              simp only [results, show Tryd.f26.results = #[.tmp 6, .cell 7 37] from rfl]
              go_simp

theorem putOf_ok (v : Value) (l : List Fl) (a d : ByteArray) (w : World) (hv : FRow w v l) (hl : l.length ≤ 900) (hs : ∀ x ∈ l, x.name.size ≤ 1000000) (has : a.size ≤ 1000000) :
    Calls Tryd.prog 26 #[v, .string a, .string d] w fun r w' => (∃ u, r = .returned (.tuple #[u, .agg #[.int .i64 (putF l a d).2.1, .int .i64 (putF l a d).2.2]]) ∧ FRow w' u (putF l a d).1) ∧ Below w.heap.size w w' := by
  unfold putF
  by_cases hf : (faultF (l.map keyF)).1 = 0
  · rw [if_pos hf]
    refine (putOf_main v l a d w hv hl hs has hf).mono ?_
    rintro r w' ⟨⟨u, hr, hu⟩, hb⟩
    refine ⟨⟨u, ?_, ?_⟩, hb⟩
    · rw [hr]
      split
      · rename_i h; rw [h]
      · rfl
    · split
      · rename_i h; rw [if_pos h] at hu; exact hu
      · rename_i h; rw [if_neg h] at hu; exact hu
  · rw [if_neg hf]
    refine (putOf_bad v l a d w hv hl hs hf).mono ?_
    rintro r w' ⟨hr, hb⟩
    exact ⟨⟨_, hr, Row2.nil _⟩, hb⟩
end Go.Proofs.YtbflmkjlpopeaadDoor
