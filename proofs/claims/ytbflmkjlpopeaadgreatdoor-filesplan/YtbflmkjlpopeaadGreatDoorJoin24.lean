/-
  Contract of the writer's Text over this dump.
  Contracts of files.write, Text over this dump.
  Contract of the reader's Err over this dump.
  The errors that packages sign and delta meet: what their variables hold, and an error by its number.
  The three errors that packages num, sign and delta meet, in a world.
-/
import Derived.Test.YtbflmkjlpopeaadGreatDoorJoin10
import Derived.Test.YtbflmkjlpopeaadGreatDoorLChecks
import Derived.Test.YtbflmkjlpopeaadGreatDoorJoin09
import Derived.Test.YtbflmkjlpopeaadGreatDoorJoin01
namespace Go.Proofs.YtbflmkjlpopeaadGreatDoor
open Go.RowKit

theorem WrAt.moreStr {p : Nat} {wr w2 : World} {cur : List UInt8} {v v2 : Value} (h : WrAt p wr cur v) (s : ByteArray) (hb2 : Below (p + 1) wr w2)
    (hown : w2.ownsRow (p + 1) 5 1 v2 (cur.length + s.size) (cur.map cellOf ++ Go.Lib.strCells s)) : WrAt p (w2.setCell ⟨p, 0, none⟩ v2) (cur ++ s.data.toList) v2 := by
  have k0 := (hb2.cell (p := ⟨p, 0, none⟩) (by simp)).trans h.c0
  have k1 := (hb2.cell (p := ⟨p, 1, none⟩) (by simp)).trans h.c1
  have e0 := (hb2.frozen (p := ⟨p, 0, none⟩) (by simp)).trans h.f0
  have e1 := (hb2.frozen (p := ⟨p, 1, none⟩) (by simp)).trans h.f1
  have hz := hb2.size
  have hl := h.lt
  refine ⟨World.cell?_setCell_same _ _ _ k0, by rw [World.cell?_setCell_other _ _ _ _ (by simp)]; exact k1, by simpa using e0, by simpa using e1, by simp; omega, ?_⟩
  have := ownsRow_setCell_below hown (a := ⟨p, 0, none⟩) (by simp) v2
  have e : (cur ++ s.data.toList).length = cur.length + s.size := by rw [List.length_append, Array.length_toList]; rfl
  rw [e, List.map_append]
  exact this

theorem KeptT.stepS {p n : Nat} {wr w2 : World} {v v2 : Value} {xs : List Value} (own : wr.ownsRow (p + 1) 5 1 v n xs) (hg : wr.grownBy w2 v.ownBlock) : KeptT p wr (w2.setCell ⟨p, 0, none⟩ v2) := by
  intro g c t f hp ht h
  have hlt : g < wr.heap.size := (Array.getElem?_eq_some_iff.1 h).1
  have hne : some g ≠ v.ownBlock := by
    intro e
    rcases own.2 with ⟨rfl, _⟩ | ⟨g', cap, cur, rfl, _, hh, _⟩
    · cases e
    · simp only [Value.ownBlock, Option.some.injEq] at e
      subst e
      rw [hh] at h
      cases h
      exact ht rfl
  rw [Below.heap_setCell _ _ _ _ hp, hg.block g hlt hne]
  exact h

set_option maxHeartbeats 400000 in
set_option maxRecDepth 100000 in
theorem text_ok4 (p : Nat) (s : ByteArray) (v : Value) (bs : List UInt8) (w : World) (hs : s.size ≤ 20000) (hb : bs.length ≤ 900000) (h : WrAt p w bs v) :
    Calls Tryz.prog 43 #[.pointer (some ⟨p, 0, none⟩), .string s] w fun e w' => e = .returned (.tuple #[]) ∧ (∃ v', WrAt p w' (bs ++ Go.Num.enc s.size ++ s.data.toList) v') ∧ Below p w w' ∧ KeptT p w w' := by
  obtain ⟨i0, hi, hz0, hz1, hz2⟩ := info_parts Tryz.info5
  have H := hide h
  clear h
  have hs' : (s.size : Int) ≤ 20000 := by omega
  have hlen := Go.Num.enc_length_le s.size
  go_enter Tryz.func43, Tryz.ntmps43
  go_wp2_with fail
  refine (num_ok4 p s.size bs v _ (by omega) (by omega) H.out).mono ?_
  rintro e w1 ⟨rfl, ⟨v1, h1⟩, hb1, hk1⟩
  have Hk1 := hide hk1
  clear hk1
  have H1 := hide h1
  have Hb1 := hide hb1
  generalize hcur : bs ++ Go.Num.enc s.size = cur at h1 H1
  have hcl : cur.length ≤ 900006 := by rw [← hcur]; simp; omega
  have Hcur := hide hcur
  clear hcur H hb1
  obtain ⟨c0, c1, f0, f1, lt, own⟩ := h1
  go_wp2_with (at_builtin; refine Go.Lib.wpList_append_own_string _ rfl (.tmp 23) (.tmp 24) 121 9 rfl (p + 1) 5 i0 Tryz.underlying121 Tryz.underlying9 hi hz0 hz1 hz2 v1 cur.length (cur.map cellOf) rfl ?own s rfl ?b1 ?b2 ?b3 ?next)
  case own => exact own
  case b1 => unfold maxLen; omega
  case b2 => omega
  case b3 => omega
  case next =>
    intro v2 w2 hown hgrow _
    have hb2 : Below (p + 1) w1 w2 := (Below.refl _ _).grown hgrow (by omega) (fun k hk => (own.lt k hk).1)
    have hfin := H1.out.moreStr s hb2 hown
    have k0 := (hb2.cell (p := ⟨p, 0, none⟩) (by simp)).trans c0
    have e0 := (hb2.frozen (p := ⟨p, 0, none⟩) (by simp)).trans f0
    have Hk2 := hide (Hk1.out.trans (KeptT.stepS (v2 := v2) own hgrow))
    rcases own_forms hown with ⟨rfl, _⟩ | ⟨g, c', rfl⟩
    all_goals
      have Hfin := hide hfin
      have Hb2 := hide hb2
      clear hfin hb2 hown hgrow
      go_wp2
      go_end0
      refine ⟨rfl, ?_, (Hb1.out.trans (Hb2.out.mono (by omega))).setCell (by simp) _, Hk2.out⟩
      first | rw [← List.append_assoc, Hcur.out] | rw [Hcur.out]
      exact ⟨_, Hfin.out⟩

theorem text_ok (p : Nat) (s : ByteArray) (v : Value) (bs : List UInt8) (w : World) (hs : s.size ≤ 20000) (hb : bs.length ≤ 900000) (h : WrAt p w bs v) :
    Calls Tryz.prog 43 #[.pointer (some ⟨p, 0, none⟩), .string s] w fun e w' => e = .returned (.tuple #[]) ∧ (∃ v', WrAt p w' (bs ++ Go.Num.enc s.size ++ s.data.toList) v') ∧ Below p w w' :=
  (text_ok4 p s v bs w hs hb h).mono fun _ _ ⟨h1, h2, h3, _⟩ => ⟨h1, h2, h3⟩
end Go.Proofs.YtbflmkjlpopeaadGreatDoor

namespace Go.Proofs.YtbflmkjlpopeaadGreatDoor
open Go.RowKit
open Go.Files (Ln FineL encN encNs encL encNs_snoc encNs_length faultF keyL)

theorem WrAt.belowL {p : Nat} {w w' : World} {bs : List UInt8} {v : Value} (h : WrAt p w bs v) (hb : Below w.heap.size w w') : WrAt p w' bs v :=
  ⟨(hb.cell (p := ⟨p, 0, none⟩) h.lt).trans h.c0, (hb.cell (p := ⟨p, 1, none⟩) h.lt).trans h.c1, (hb.frozen (p := ⟨p, 0, none⟩) h.lt).trans h.f0, (hb.frozen (p := ⟨p, 1, none⟩) h.lt).trans h.f1, Nat.lt_of_lt_of_le h.lt hb.size, own_below h.own hb⟩
/-- A line as an object of the memory. -/
def LnObj (q : Nat) (w : World) (x : Ln) : Prop := w.heap[q]? = some (.cells #[.string x.name, .int .i64 x.n, .int .u32 x.sum] 60 (0, 0))
theorem LnObj.fresh (w : World) (x : Ln) : LnObj w.heap.size (w.alloc (.cells #[.string x.name, .int .i64 x.n, .int .u32 x.sum] 60)) x := by
  unfold LnObj
  show (w.heap.push _)[w.heap.size]? = _
  simp
theorem LnObj.kept {q p : Nat} {w w' : World} {x : Ln} (h : LnObj q w x) (hk : KeptT p w w') (hq : q ≠ p) : LnObj q w' x := hk _ _ _ _ hq (by decide) h
theorem LnObj.cells {q : Nat} {w : World} {x : Ln} (h : LnObj q w x) : w.cell? ⟨q, 0, none⟩ = some (.string x.name) ∧ w.cell? ⟨q, 1, none⟩ = some (.int .i64 x.n) ∧ w.cell? ⟨q, 2, none⟩ = some (.int .u32 x.sum) := by
  unfold LnObj at h
  simp [World.cell?, h]

set_option maxHeartbeats 2000000 in
set_option maxRecDepth 100000 in
theorem lwrite_ok (v : Value) (l : List Ln) (w : World) (hv : LRow w v l) (hl : l.length ≤ 1000) (hw : ∀ x ∈ l, FineL x) :
    Calls Tryz.prog 24 #[v] w fun r w' => r = .returned (.tuple #[.string (str (encL l)), .nilIface]) ∧ Below w.heap.size w w' := by
  obtain ⟨a, c, rfl, hv⟩ := hv
  generalize l.length + c = cap
  have HV := hide hv
  have HW := hide hw
  have hl' : (l.length : Int) ≤ 1000 := by omega
  have hlen2 := Go.Num.enc_length_le l.length
  have Hlt : Hid (∀ j, (encNs (l.take j)).length ≤ 30000) := by
    intro j
    have h1 := encNs_length (l := l.take j) (fun x hx => hw x (List.mem_of_mem_take hx))
    have h3 : (l.take j).length ≤ l.length := by rw [List.length_take]; omega
    omega
  have hsz : ((str (encL l)).size : Int) ≤ 40000 := by
    have h1 := encNs_length hw
    rw [str_len, encL, List.length_append]
    omega
  have Hsz := hide hsz
  clear hv hw hsz
  go_enter Tryz.func24, Tryz.ntmps24
  go_wp2_with fail
  refine (new_ok _).mono ?_
  rintro e w1 ⟨rfl, h1⟩
  have hf := WrAt.fresh w
  have hb : Below w.heap.size w (w.alloc (.cells #[.slice none 0 0, .nilIface] 123)) := (Below.refl _ _).alloc (Nat.le_refl _) _
  rw [h1] at hf hb
  have Hf := hide hf
  have Hb := hide hb
  clear hf hb h1
  go_wp2_with fail
  refine (num_ok w.heap.size l.length [] _ _ (by omega) (by simp) Hf.out).mono ?_
  rintro e w3 ⟨rfl, ⟨v3, h3⟩, hb3⟩
  have H3 := hide h3
  have Hb3 := hide (Hb.out.trans hb3)
  clear h3 hb3 Hf Hb
  go_wp2_with fail
  go_loopw [6, 14] (fun _ t wr => ∃ j : Nat, t = .int .i64 j ∧ j ≤ l.length ∧ Hid (∃ v', WrAt w.heap.size wr (Go.Num.enc l.length ++ encNs (l.take j)) v') ∧ Hid (Below w.heap.size w wr)) (fun _ t _ => l.length - (intOf t).toNat)
  case atStart => exact ⟨0, rfl, by omega, ⟨v3, by simpa [encNs] using H3.out⟩, Hb3.out⟩
  case round =>
    clear H3 Hb3
    obtain ⟨j, rfl, hj, Hw, Hb⟩ := hrel
    by_cases hlt : j < l.length
    · have hlt' : (j : Int) < l.length := by omega
      obtain ⟨b, o, rfl, hc⟩ := HV.out (by omega)
      obtain ⟨c0, c1, c2⟩ := hc j hlt
      have d0 := (Hb.out.cell (World.block_lt_of_cell? _ _ c0)).trans c0
      have d1 := (Hb.out.cell (World.block_lt_of_cell? _ _ c1)).trans c1
      have d2 := (Hb.out.cell (World.block_lt_of_cell? _ _ c2)).trans c2
      clear hc c0 c1 c2
      have hok := HW.out l[j] (List.getElem_mem hlt)
      have Hsn := hide (List.take_succ_eq_append_getElem hlt)
      have hbl := Hlt.out j
      generalize l[j] = x at *
      obtain ⟨v', hw4⟩ := Hw.out
      generalize hcur : Go.Num.enc l.length ++ encNs (l.take j) = cur at hw4
      have hcl : cur.length ≤ 40000 := by rw [← hcur]; simp at hbl ⊢; omega
      have Hcur := hide hcur
      have Hen : Hid (encN x = Go.Num.enc x.name.size ++ x.name.data.toList ++ Go.Num.enc x.n.toNat ++ Go.Num.enc x.sum.toNat) := rfl
      obtain ⟨xn, xb, xs⟩ := x
      obtain ⟨k1, k2, k3, k4, k5⟩ := hok
      simp only at k1 k2 k3 k4 k5 d0 d1 d2 Hen
      obtain ⟨nb, rfl⟩ := Int.eq_ofNat_of_zero_le k2
      obtain ⟨ns, rfl⟩ := Int.eq_ofNat_of_zero_le k4
      simp only [Int.toNat_natCast] at Hen
      have e1 := Go.Num.enc_length_le xn.size
      have e2 := Go.Num.enc_length_le nb
      have Hob : Hid (LnObj wr.heap.size (wr.alloc (.cells #[.string xn, .int .i64 (nb : Int), .int .u32 (ns : Int)] 60)) ⟨xn, nb, ns⟩) := LnObj.fresh wr ⟨xn, nb, ns⟩
      have Hwa := hide (hw4.belowL ((Below.refl wr.heap.size wr).alloc (Nat.le_refl _) (.cells #[.string xn, .int .i64 (nb : Int), .int .u32 (ns : Int)] 60)))
      have Hba := hide (Hb.out.alloc Hb.out.size (.cells #[.string xn, .int .i64 (nb : Int), .int .u32 (ns : Int)] 60))
      have hqp : wr.heap.size ≠ w.heap.size := by have := hw4.lt; omega
      have hnl : xn.data.toList.length = xn.size := lenL xn
      clear hcur hw4 Hw Hb HV HW hbl Hlt
      go_wp2_with fail
      refine (text_ok4 w.heap.size xn _ cur _ (by omega) (by omega) Hwa.out).mono ?_
      rintro e w6 ⟨rfl, ⟨v6, h6⟩, hb6, hk6⟩
      have Hb6 := hide (Hba.out.trans hb6)
      have H6 := hide h6
      have ho6 := Hob.out.kept hk6 hqp
      have Ho6 := hide ho6
      obtain ⟨q0, q1, q2⟩ := ho6.cells
      simp only at q0 q1 q2
      clear h6 hb6 hk6 Hba Hwa Hob ho6 d0 d1 d2
      go_wp2_with fail
      refine (num_ok4 w.heap.size nb _ v6 _ (by omega) (by simp [hnl]; omega) H6.out).mono ?_
      rintro e w7 ⟨rfl, ⟨v7, h7⟩, hb7, hk7⟩
      have Hb7 := hide (Hb6.out.trans hb7)
      have H7 := hide h7
      have ho7 := Ho6.out.kept hk7 hqp
      clear q0 q1 q2
      obtain ⟨q0, q1, q2⟩ := ho7.cells
      simp only at q0 q1 q2
      clear h7 hb7 hk7 Hb6 H6 Ho6 ho7
      have hws : IntKind.i64.wrap (ns : Int) = (ns : Int) := iwrap_id _ (by omega) (by omega)
      go_wp2_with fail
      refine (num_ok w.heap.size ns _ v7 _ (by omega) (by simp [hnl]; omega) H7.out).mono ?_
      rintro e w8 ⟨rfl, ⟨v8, h8⟩, hb8⟩
      have Hb8 := hide (Hb7.out.trans hb8)
      have H8 := hide h8
      clear h8 hb8 Hb7 H7 q0 q1 q2
      go_wp2_with fail
      go_roundw
      case rel =>
        refine ⟨j + 1, by go_num, by omega, ⟨v8, ?_⟩, Hb8.out⟩
        have h := H8.out
        rw [← Hcur.out] at h
        rw [Hsn.out, encNs_snoc, Hen.out]
        simpa [List.append_assoc] using h
      case measure => simp [intOf]; omega
    · have hle : (l.length : Int) ≤ (j : Int) := by omega
      obtain ⟨v', hw'⟩ := Hw.out
      rw [List.take_of_length_le (by omega)] at hw'
      have Hw' := hide hw'
      have hE : str (Go.Num.enc l.length ++ encNs l) = str (encL l) := rfl
      have HD := hide (done_ok _ _ _ wr Hw'.out)
      rw [hE] at HD
      have hsz := Hsz.out
      clear hw' hE
      generalize hE2 : str (encL l) = E at HD hsz
      have HE := hide hE2
      clear hE2
      go_wp2_with fail
      refine (HD.out).mono ?_
      rintro e w4 ⟨rfl, rfl⟩
      go_wp2
      go_ret2
      exact ⟨by rw [HE.out]; rfl, Hb.out⟩

set_option maxHeartbeats 1000000 in
set_option maxRecDepth 100000 in
theorem ltext_ok (v : Value) (l : List Ln) (e : FV) (w : World) (hv : LRow w v l) (hl : l.length ≤ 1000) (hs : ∀ x ∈ l, x.name.size ≤ 1000000) (hw : (faultF (l.map keyL)).1 = 0 → ∀ x ∈ l, FineL x) (he : FEr e w) :
    Calls Tryz.prog 7 #[v] w fun r w' => (∃ x, r = .returned (.tuple #[.string (str (if (faultF (l.map keyL)).1 = 0 then encL l else [])), x]) ∧ FX e w' x (faultF (l.map keyL))) ∧ Below w.heap.size w w' := by
  have HC := hide (lcheck_ok v l e w hv (by omega) hs he)
  have HW := hide (fun W (h : Below w.heap.size w W) (k : ∀ x ∈ l, FineL x) => lwrite_ok v l W (hv.below h) hl k)
  have Hw := hide hw
  obtain ⟨a, c, rfl, _⟩ := hv
  generalize l.length + c = cap at *
  generalize faultF (l.map keyL) = f at *
  clear hs hw he
  by_cases h0 : f.1 = 0
  · rw [if_pos h0]
    have HW2 := hide (fun W (h : Below w.heap.size w W) => HW.out W h (Hw.out h0))
    have H0 := hide h0
    clear HW Hw h0
    generalize str (encL l) = E at *
    go_enter Tryz.func7, Tryz.ntmps7
    go_wp2_with fail
    refine HC.out.mono ?_
    rintro r w1 ⟨⟨x1, rfl, hx1⟩, hb1⟩
    obtain rfl := hx1.nilOr.none H0.out
    have Hb1 := hide hb1
    clear hx1 hb1 HC
    go_wp2_with fail
    refine (HW2.out _ Hb1.out).mono ?_
    rintro r w2 ⟨rfl, hb2⟩
    have Hb2 := hide (bthen Hb1.out hb2)
    clear hb2 HW2
    go_wp2
    go_ret2
    exact ⟨⟨_, rfl, Or.inl ⟨H0.out, rfl⟩⟩, Hb2.out⟩
  · rw [if_neg h0]
    have H0 := hide h0
    clear HW Hw h0
    go_enter Tryz.func7, Tryz.ntmps7
    go_wp2_with fail
    refine HC.out.mono ?_
    rintro r w1 ⟨⟨x1, rfl, hx1⟩, hb1⟩
    have Hx1 := hide hx1
    obtain ⟨t, y, rfl⟩ := hx1.nilOr.some H0.out
    have Hb1 := hide hb1
    clear hx1 hb1 HC
    go_wp2
    go_ret2
    exact ⟨⟨_, rfl, Hx1.out⟩, Hb1.out⟩
end Go.Proofs.YtbflmkjlpopeaadGreatDoor

namespace Go.Proofs.YtbflmkjlpopeaadGreatDoor
open Go.RowKit

theorem err_ok (p : Nat) (s : ByteArray) (e : Value) (w : World) (h : RdAt p w s e) : Calls Tryz.prog 50 #[.pointer (some ⟨p, 0, none⟩)] w fun r w' => r = .returned e ∧ w' = w := by
  obtain ⟨c0, c1, f0, f1, lt⟩ := h
  go_enter Tryz.func50, Tryz.ntmps50
  go_wp2
  go_ret
  exact ⟨rfl, rfl⟩

end Go.Proofs.YtbflmkjlpopeaadGreatDoor

namespace Go.Proofs.YtbflmkjlpopeaadGreatDoor
open Go.RowKit

/-- The three errors that are met: what their variables hold. -/
structure EV where
  tT : TypeId
  xT : Value
  tB : TypeId
  xB : Value
  tF : TypeId
  xF : Value
/-- An error by its number. -/
def errV (e : EV) : Nat → Value
  | 0 => .nilIface
  | 1 => .iface e.tT e.xT
  | 2 => .iface e.tB e.xB
  | _ => .iface e.tF e.xF
end Go.Proofs.YtbflmkjlpopeaadGreatDoor

namespace Go.Proofs.YtbflmkjlpopeaadGreatDoor
open Go.RowKit

structure Er (e : EV) (w : World) : Prop where
  text : w.cell? ⟨0, 0, none⟩ = some (.iface e.tT e.xT)
  bound : w.cell? ⟨1, 0, none⟩ = some (.iface e.tB e.xB)
  full : w.cell? ⟨7, 0, none⟩ = some (.iface e.tF e.xF)
theorem Er.below {e : EV} {w w' : World} (h : Er e w) (hb : Below w.heap.size w w') : Er e w' :=
  ⟨(hb.cell (World.block_lt_of_cell? _ _ h.text)).trans h.text, (hb.cell (World.block_lt_of_cell? _ _ h.bound)).trans h.bound, (hb.cell (World.block_lt_of_cell? _ _ h.full)).trans h.full⟩
/-- The two of them that a check meets. -/
structure Er2 (e : EV) (w : World) : Prop where
  bound : w.cell? ⟨1, 0, none⟩ = some (.iface e.tB e.xB)
  full : w.cell? ⟨7, 0, none⟩ = some (.iface e.tF e.xF)
theorem Er2.below {e : EV} {w w' : World} (h : Er2 e w) (hb : Below w.heap.size w w') : Er2 e w' :=
  ⟨(hb.cell (World.block_lt_of_cell? _ _ h.bound)).trans h.bound, (hb.cell (World.block_lt_of_cell? _ _ h.full)).trans h.full⟩
theorem Er.two {e : EV} {w : World} (h : Er e w) : Er2 e w := ⟨h.bound, h.full⟩
instance (e : EV) (w : World) : Coe (Er e w) (Er2 e w) := ⟨Er.two⟩
theorem errV_form (e : EV) (c : Nat) (h : c ≠ 0) : ∃ t x, errV e c = .iface t x := by
  match c, h with
  | 1, _ => exact ⟨_, _, rfl⟩
  | 2, _ => exact ⟨_, _, rfl⟩
  | c + 3, _ => exact ⟨_, _, rfl⟩
end Go.Proofs.YtbflmkjlpopeaadGreatDoor
