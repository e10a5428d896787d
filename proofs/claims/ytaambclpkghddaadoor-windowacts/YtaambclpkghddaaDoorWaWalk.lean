/-
  The walk of the law WindowActs over the contracts.
-/
import Derived.Test.YtaambclpkghddaaDoorActArg
import Derived.Test.YtaambclpkghddaaDoorRefRTake
import Derived.Test.YtaambclpkghddaaDoorRefTake
import Derived.Test.YtaambclpkghddaaDoorRefInts
import Derived.Test.YtaambclpkghddaaDoorCodes2
import Derived.Deep.RegionHeld3
import Derived.Deep.CutBlock
import Derived.Laws.AppendOwnNone
namespace Go.Proofs.YtaambclpkghddaaDoor
open Go.RowKit
open Go.Window (Sn Rc snNew rcNew startN Waits)

theorem Sep.row0 {M0 : Foot} {w0 w : World} {L : List Fam} (h : Sep M0 w0 L w) (e : TypeId) (size : Nat) : Sep M0 w0 (OwnF e size (.slice none 0 0) 0 [] :: L) w := h.nil e size
/-- Where the law stands between two acts. -/
abbrev waL (S : Value → Sn → Fam) (R : Value → Rc → Fam) (sa ra : Addr) (pm po : Nat) (s : Sn) (r : Rc) : List Fam := [S (.pointer (some sa)) s, R (.pointer (some ra)) r, RSn pm s, RRc po r]
section steps
variable {P : Program} {w : World}
/-- append, as one step of a region that draws. -/
theorem step_append_at {ops : Array Oper} {o : Oper} {a : Act} {K : Act → World → Prop} {Q : Exit → Act → World → Prop} {E : Prop} (hgd : o.guard = none) (s x : Operand) (t : TypeId)
    (ho : o.op = .call { callee := .builtin .append, args := #[s, x], argTypes := #[t, t] })
    (base : Nat) (e : TypeId) (i : TypeInfo) (z : Value) (size bytes : Nat) (ht : P.underlying t = some (.slice e)) (hi : P.info? e = some i) (hz : i.zero = some z)
    (hsize : i.size = size) (hby : i.bytes = bytes) (hzs : z.cells.size = size) (hsz : 0 < size)
    (v : Value) (n : Nat) (xs : List Value) (hs : a.eval s = v) (hown : w.ownsRow base e size v n xs)
    (ad : Addr) (m c : Nat) (news : List Value) (hx : a.eval x = .slice (some ad) m c) (hl : news.length = m * size) (hnews : ∀ j u, news[j]? = some u → w.cell? (ad.add j) = some u) (h1 : ∀ u ∈ news, u.oneCell' = true)
    (h63 : n + m ≤ maxLen) (hbytes : (n + m) * bytes ≤ 140737488355328) (hbase : base ≤ w.heap.size)
    (h : ∀ v' w', w'.ownsRow base e size v' (n + m) (xs ++ news) → w.grownBy w' v.ownBlock → (v'.ownBlock = v.ownBlock ∨ v'.ownBlock = some w.heap.size) → K (a.put o.dst v') w') :
    if Region.wanted o (yielded ops a.tmps) = true then Oper.wp P o a w K Q else E := by
  have hw : Region.wanted o (yielded ops a.tmps) = true := by simp [Region.wanted, hgd]
  rw [if_pos hw]
  obtain ⟨v', w', hr, h2, h3, _, h5⟩ := run_append_own_at (P := P) (w := w) base t o.type e i z size bytes ht hi hz hsize hby hzs hsz v n xs hown ad m c news hl hnews h1 h63 hbytes hbase
  unfold Oper.wp
  simp [execOp, ho, resolve, invoke, builtin, hs, hx, hr, Result.andThen]
  exact h v' w' h2 h3 h5
theorem step_append_none {ops : Array Oper} {o : Oper} {a : Act} {K : Act → World → Prop} {Q : Exit → Act → World → Prop} {E : Prop} (hgd : o.guard = none) (s x : Operand) (t : TypeId)
    (ho : o.op = .call { callee := .builtin .append, args := #[s, x], argTypes := #[t, t] })
    (base : Nat) (e : TypeId) (i : TypeInfo) (size : Nat) (ht : P.underlying t = some (.slice e)) (hi : P.info? e = some i)
    (v : Value) (n : Nat) (xs : List Value) (hs : a.eval s = v) (hown : w.ownsRow base e size v n xs) (hx : a.eval x = .slice none 0 0) (h : K (a.put o.dst v) w) :
    if Region.wanted o (yielded ops a.tmps) = true then Oper.wp P o a w K Q else E := by
  have hw : Region.wanted o (yielded ops a.tmps) = true := by simp [Region.wanted, hgd]
  rw [if_pos hw]
  have hr := run_append_owned_none (P := P) (w := w) base t o.type e i size ht hi v n xs hown
  unfold Oper.wp
  simp [execOp, ho, resolve, invoke, builtin, hs, hx, hr, Result.andThen]
  exact h
end steps
theorem Sep.rowNil {α : Type} {f : α → Value} {M0 : Foot} {w0 w : World} {L : List Fam} (h : Sep M0 w0 L w) : Sep M0 w0 (RowF f (.slice none 0 0) [] :: L) w :=
  Sep.more (L1 := [_]) h (Below.refl _ _) (Star.one (RowF.fine _ _ _) (RowF.nil _)) (fun _ e => e.elim)
/-- The document's sender takes the answer of a list that was there ahead. -/
theorem rtakeOld {w0 w : World} {pm : Nat} {s : Sn} {n : Int} {v : Value} {more : List Int} {L : List Fam} (hS : Sep Foot.none w0 (RSn pm s :: L) w) (hv : Row1 intV w0 v more) (hs : s.Ok) (hm : more.length ≤ 1000000) :
    Calls Tryd.prog 21 #[.pointer (some ⟨pm, 0, none⟩), .int .i64 n, v] w fun e w' => e = .returned (.int .i64 ((s.kept.length : Int) - (s.ack n more).kept.length)) ∧ Sep Foot.none w0 (RSn pm (s.ack n more) :: L) w' := by
  refine (Sep.callOld hS hv fun M hM hr ho => rtake_ok pm s n v more w hs hm M hM hr ho).mono ?_
  rintro e w' ⟨L1, ⟨rfl, rfl⟩, hq⟩
  exact ⟨rfl, hq⟩
/-- .. of a list among the objects. -/
theorem rtakeL {M0 : Foot} {w0 w : World} {pm : Nat} {s : Sn} {n : Int} {u : Value} {more : List Int} {L : List Fam} (hS : Sep M0 w0 (RSn pm s :: RowF intV u more :: L) w) (hs : s.Ok) (hm : more.length ≤ 1000000) :
    Calls Tryd.prog 21 #[.pointer (some ⟨pm, 0, none⟩), .int .i64 n, u] w fun e w' => e = .returned (.int .i64 ((s.kept.length : Int) - (s.ack n more).kept.length)) ∧ Sep M0 w0 (RSn pm (s.ack n more) :: RowF intV u more :: L) w' := by
  have hS' : Sep M0 w0 ([RSn pm s, RowF intV u more] ++ L) w := hS
  refine (hS'.call (Tri.row fun M hM hr ho => rtake_ok pm s n u more w hs hm M hM hr ho)).mono ?_
  rintro e w' ⟨L1, ⟨L2, ⟨rfl, rfl⟩, rfl⟩, hq⟩
  exact ⟨rfl, hq⟩
theorem more_wfA (r : Rc) : ∀ x ∈ r.more.map Int.ofNat, WfI x := by
  intro x hx
  obtain ⟨n, hn, rfl⟩ := List.mem_map.1 hx
  have := Go.Window.more_lt r n hn
  exact ⟨by simp only [Int.ofNat_eq_natCast]; omega, by simp only [Int.ofNat_eq_natCast]; omega⟩
theorem rrc_due {M0 : Foot} {w0 w : World} {p : Nat} {r : Rc} {L : List Fam} (h : Sep M0 w0 (RRc p r :: L) w) : w.cell? ⟨p, 0, none⟩ = some (.int .i64 (r.due : Int)) := by
  obtain ⟨⟨⟨v, l⟩, hw⟩, hS⟩ := h.unpack
  exact (hS.cell 0).1
theorem takeI_length {r : Rc} (h : r.Ok) (n : Int) (d : ByteArray) : (r.takeI n d).2.length ≤ 32 := by
  have hl := h.len
  unfold Rc.takeI
  split
  · have := Go.Window.take_length r n.toNat d; omega
  · simp
theorem rowMem {α : Type} {f : α → Value} {M0 : Foot} {w0 w : World} {v : Value} {l : List α} {L : List Fam} (h : Sep M0 w0 L w) (hm : RowF f v l ∈ L) : Row1 f w v l := by
  obtain ⟨M, hM⟩ := h.mem hm
  exact hM.row
theorem cellMem {M0 : Foot} {w0 w : World} {p : Nat} {T : TypeId} {vs : List Value} {L : List Fam} (h : Sep M0 w0 L w) (hm : CellsF p T vs ∈ L) (i : Nat) : w.cell? ⟨p, i, none⟩ = vs[i]? := by
  obtain ⟨M, hM⟩ := h.mem hm
  exact (hM.cell i).1
theorem dueMem {M0 : Foot} {w0 w : World} {p : Nat} {r : Rc} {L : List Fam} (h : Sep M0 w0 L w) (hm : RRc p r ∈ L) : w.cell? ⟨p, 0, none⟩ = some (.int .i64 (r.due : Int)) := by
  obtain ⟨M, i, hM⟩ := h.mem hm
  obtain ⟨N, N2, hA, a1, _⟩ := hM.cons_inv
  exact (a1.cell 0).1
theorem push_code (s : Sn) (d : ByteArray) : (s.push d).2.2 = 0 ∨ (s.push d).2.2 = 2 ∨ (s.push d).2.2 = 8 := by
  unfold Sn.push
  split
  · exact .inr (.inl rfl)
  · split
    · exact .inr (.inr rfl)
    · exact .inl rfl
/-- The kinds of acts. -/
abbrev lPush : List UInt8 := [112, 117, 115, 104]
abbrev lAck : List UInt8 := [97, 99, 107]
abbrev lOwn : List UInt8 := [111, 119, 110]
theorem kind_is {x : ByteArray} {l : List UInt8} (h : x = str l) : (x.toList == l) = true := by
  subst h
  rw [ByteArray.toList_eq, strL]
  simp
theorem kind_not {x : ByteArray} {l : List UInt8} (h : x ≠ str l) : (x.toList == l) = false := by
  rw [beq_eq_false_iff_ne]
  intro e
  apply h
  apply bytes_ext
  rw [e, ByteArray.toList_eq, strL]
theorem RSn.new {M0 : Foot} {w0 w : World} {L : List Fam} {p n : Nat} (h : Sep M0 w0 (CellsF p 51 [.int .i64 ((snNew n).next : Int), .slice none 0 0, .slice none 0 0] :: L) w) : Sep M0 w0 (RSn p (snNew n) :: L) w := by
  have h2 := ((h.nil 3 1).nil 9 1).third.sw2
  exact Sep.pack (f := rsnL p (snNew n)) (.slice none 0 0, .slice none 0 0) h2
theorem RRc.new {M0 : Foot} {w0 w : World} {L : List Fam} {p n : Nat} (h : Sep M0 w0 (CellsF p 54 [.int .i64 ((rcNew n).due : Int), .slice none 0 0, .slice none 0 0] :: L) w) : Sep M0 w0 (RRc p (rcNew n) :: L) w := by
  have h2 := ((h.nil 3 1).nil 9 1).third.sw2
  exact Sep.pack (f := fun i : { x : (Value × Value) × List (Nat × ByteArray) // Waits (rcNew n) x.2 } => rrcL p (rcNew n) i.1.1 i.1.2) ⟨((.slice none 0 0, .slice none 0 0), []), Go.Window.waits_new n⟩ h2

set_option maxHeartbeats 4000000 in
set_option maxRecDepth 100000 in
theorem wacts_main (Env : World → Prop) (S : Value → Sn → Fam) (R : Value → Rc → Fam) (errW : Nat → Value) (h : WinOk Env S R errW) (hcd : ∀ W c, Env W → (c = 0 ∨ c = 2 ∨ c = 8) → Codes W (errW c) c) (first a b : Int) (la : Option Addr) (lc : Nat) (l : List Actx) (w : World) (hE : Env w)
    (hA : ActRow w (.slice la l.length lc) l) (hl : l.length ≤ 80) :
    Calls Tryd.prog 4 #[.int .i64 first, .slice la l.length lc, .int .i64 a, .int .i64 b] w fun e w' => e = .returned (.bool true) ∧ Below w.heap.size w w' := by
  obtain ⟨i0, hi0, hz0, hz1, hz2⟩ := info_parts Tryd.infoI
  have HE := hide (fun W (k : Below w.heap.size w W) => h.env w W hE k)
  have HA := hide hA
  have HM := hide (windowed_ok Env S R errW h w hE)
  have H1 := hide (fun W (k : Env W) => h.newS first W k)
  have H2 := hide (fun W (k : Env W) => h.newR first W k)
  have HAh := hide (fun W => h.ahead a b W)
  have HAr := hide (fun W => isAhead_ok a b W)
  have HSt := hide (fun W => startOf_ok first W)
  have hl' : (l.length : Int) ≤ 80 := by omega
  have Hw := hide h
  have Hcd := hide hcd
  clear hE hA h hcd
  generalize Go.Window.ahead a b = ah at *
  have hah : (ah != ah) = false := by simp
  go_enter Tryd.func4, Tryd.ntmps4
  go_wp2_with fail
  refine HM.out.mono ?_
  rintro e w1 ⟨rfl, hb1⟩
  have HS := hide ((Sep.start w).keep hb1)
  clear hb1 HM
  go_wp2_with fail
  refine (Sep.call (L0 := []) HS.out (H1.out _ (HE.out _ HS.out.below))).mono ?_
  rintro e w2 ⟨_, ⟨sa, rfl, rfl⟩, hs2⟩
  have HS2 := hide hs2
  clear hs2 HS H1
  go_wp2_with fail
  refine (Sep.call (L0 := []) HS2.out (H2.out _ (HE.out _ HS2.out.below))).mono ?_
  rintro e w3 ⟨_, ⟨ra, rfl, rfl⟩, hs3⟩
  simp only [List.cons_append, List.nil_append] at hs3
  have HS3 := hide hs3.sw
  have hf := Go.Window.start_lt first
  clear hs3 HS2 H2
  generalize startN first = f at *
  go_wp2_with fail
  refine (HAr.out _).mono ?_
  rintro e w4 ⟨rfl, rfl⟩
  go_wp2_with fail
  refine (HAh.out _).mono ?_
  rintro e w5 ⟨rfl, hb5⟩
  have HS5 := hide (HS3.out.keep hb5)
  clear hb5 HS3 HAr HAh
  go_wp2_with fail
  refine (HSt.out _).mono ?_
  rintro e w6 ⟨rfl, rfl⟩
  have hef : ((snNew f).next : Int) = (f : Int) := by simp [snNew]; omega
  have her : ((rcNew f).due : Int) = (f : Int) := by simp [rcNew]; omega
  have Hmk : Hid (∀ w', Sep Foot.none w [S (.pointer (some sa)) (snNew f), R (.pointer (some ra)) (rcNew f)] w' → Sep Foot.none w (waL S R sa ra w'.heap.size (w'.heap.size + 1) (snNew f) (rcNew f)) ((w'.alloc (.cells #[.int .i64 (f : Int), .slice none 0 0, .slice none 0 0] 51)).alloc (.cells #[.int .i64 (f : Int), .slice none 0 0, .slice none 0 0] 54))) := by
    intro w' hs
    have x1 := RSn.new (n := f) (L := [S (.pointer (some sa)) (snNew f), R (.pointer (some ra)) (rcNew f)]) (by rw [hef]; exact hs.fresh 51 [.int .i64 (f : Int), .slice none 0 0, .slice none 0 0])
    have x2 := x1.fresh 54 [.int .i64 (f : Int), .slice none 0 0, .slice none 0 0]
    rw [show (w'.alloc (.cells [.int .i64 (f : Int), .slice none 0 0, .slice none 0 0].toArray 51)).heap.size = w'.heap.size + 1 by simp] at x2
    rw [← her] at x2
    have x3 := RRc.new x2
    have x4 := Sep.swap (L1 := [_, _]) x3.sw
    simp only [List.cons_append, List.nil_append] at x4
    rw [her] at x4
    exact x4
  have HS6 := hide (Hmk.out _ HS5.out)
  clear hef her Hmk HS5
  go_wp2_with fail
  refine (HSt.out _).mono ?_
  rintro e w7 ⟨rfl, hq7⟩
  have hq7 := hq7.symm
  subst hq7
  clear HSt
  have Hok := hide (Go.Window.ok_new f)
  have Hro := hide (Go.Window.rc_new f)
  have hws : (w6.alloc (.cells #[.int .i64 (f : Int), .slice none 0 0, .slice none 0 0] 51)).heap.size = w6.heap.size + 1 := by simp
  generalize snNew f = s0 at *
  generalize rcNew f = r0 at *
  go_wp2_with fail
  go_loopw [15] (fun t15 wr => ∃ (i : Nat) (s : Sn) (r : Rc), t15 = .int .i64 i ∧ i ≤ l.length ∧ Hid s.Ok ∧ Hid r.Ok ∧ Hid (Sep Foot.none w (waL S R sa ra w6.heap.size (w6.heap.size + 1) s r) wr)) (fun t15 _ => l.length - (intOf t15).toNat)
  case atStart => exact ⟨0, s0, r0, rfl, Nat.zero_le _, Hok.out, Hro.out, HS6.out⟩
  case round =>
    clear HS6 Hok Hro hws
    obtain ⟨i, s, r, rfl, hi, Hok, Hro, Hs⟩ := hrel
    generalize w6.heap.size = pm at *
    by_cases hlt : i < l.length
    · have hlt' : (i : Int) < l.length := by omega
      have HAc : Hid (∃ lb lo, la = some ⟨lb, lo, none⟩ ∧ wr.cell? ⟨lb, lo + i * 4, none⟩ = some (.string l[i].kind) ∧ wr.cell? ⟨lb, lo + i * 4 + 1, none⟩ = some (.string l[i].s) ∧ wr.cell? ⟨lb, lo + i * 4 + 2, none⟩ = some (.int .i64 l[i].n) ∧ wr.cell? ⟨lb, lo + i * 4 + 3, none⟩ = some l[i].mv) := by
        obtain ⟨⟨_, _, e, hrow⟩, _⟩ := HA.out
        cases e
        obtain ⟨lb, lo, rfl, hc⟩ := hrow (by omega)
        obtain ⟨k0, k1, k2, k3⟩ := hc i hlt
        have hb := Hs.out.below
        exact ⟨lb, lo, rfl, (hb.cell (World.block_lt_of_cell? _ _ k0)).trans k0, (hb.cell (World.block_lt_of_cell? _ _ k1)).trans k1, (hb.cell (World.block_lt_of_cell? _ _ k2)).trans k2, (hb.cell (World.block_lt_of_cell? _ _ k3)).trans k3⟩
      obtain ⟨lb, lo, rfl, a0, a1, a2, a3⟩ := HAc.out
      have Hx := hide (HA.out.2 _ (List.getElem_mem hlt))
      clear HAc
      generalize l[i] = x at *
      obtain ⟨ma, mc, hmv, -⟩ := Hx.out.1
      obtain ⟨xk, xs, xn, xv, xm⟩ := x
      simp only at hmv a0 a1 a2 a3
      subst hmv
      have HSf := hide (Hs.out.fresh 56 [.string xk, .string xs, .int .i64 xn, .slice ma xm.length mc])
      by_cases hbig : (60 < xs.size ∧ xs.size ≠ 20001) ∨ 40 < xm.length
      · have HB := hide HSf.out.below
        clear Hs HSf
        by_cases h60 : 60 < xs.size
        · have h60' : (60 : Int) < xs.size := by omega
          by_cases h01 : xs.size = 20001
          · have h01' : ((xs.size : Int) != 20001) = false := by simp; omega
            have h40' : (40 : Int) < xm.length := by omega
            clear h60 h01 hbig
            go_wp2_with fail
            go_ret
            exact ⟨rfl, HB.out⟩
          · have h01' : ((xs.size : Int) != 20001) = true := by simp; omega
            clear h60 h01 hbig
            go_wp2_with fail
            go_ret
            exact ⟨rfl, HB.out⟩
        · have h60' : (xs.size : Int) ≤ 60 := by omega
          have h40' : (40 : Int) < xm.length := by omega
          clear h60 hbig
          go_wp2_with fail
          go_ret
          exact ⟨rfl, HB.out⟩
      · have h40 : xm.length ≤ 40 := by omega
        have hsz : xs.size ≤ 20001 := by omega
        have h40' : (xm.length : Int) ≤ 40 := by omega
        go_upto_region 17 with fail
        go_cut [88] (fun v88 wc => v88 = .bool false ∧ Hid (wc = wr.alloc (.cells #[.string xk, .string xs, .int .i64 xn, .slice ma xm.length mc] 56)))
        case first =>
          clear Hs HSf
          by_cases h60 : 60 < xs.size
          · have h60' : (60 : Int) < xs.size := by omega
            have h01' : ((xs.size : Int) != 20001) = false := by simp; omega
            clear h60 hbig
            go_wp2_with fail
            go_meet
            case rel => exact ⟨by rw [decide_eq_false (by omega)], rfl⟩
          · have h60' : (xs.size : Int) ≤ 60 := by omega
            clear h60 hbig
            go_wp2_with fail
            go_meet
            case rel => exact ⟨by rw [decide_eq_false (by omega)], rfl⟩
        case rest =>
          obtain ⟨rfl, Hq⟩ := hcut
          have hq := Hq.out
          subst hq
          clear Hq hbig
          go_upto_block 2 with fail
          go_cut [105] (fun _ wc => ∃ (s' : Sn) (r' : Rc), Hid s'.Ok ∧ Hid r'.Ok ∧ Hid (Sep Foot.none w (waL S R sa ra pm (pm + 1) s' r') wc))
          case first =>
            have k0 := (HSf.out.cell 0).1
            have k1 := (HSf.out.cell 1).1
            have k2 := (HSf.out.cell 2).1
            have k3 := (HSf.out.cell 3).1
            simp only [List.getElem?_cons_zero, List.getElem?_cons_succ] at k0 k1 k2 k3
            by_cases hk1 : xk = str lPush
            · have hb1 := kind_is hk1
              have HPu := hide (fun W (q : Env W) => Hw.out.push (.pointer (some sa)) s xs W Hok.out (by omega) q)
              have HPm := hide (fun W => rpush_ok pm s xs W Hok.out (by omega))
              have HCo := hide (fun W (q : Env W) => Hcd.out W _ q (push_code s xs) W (Below.refl _ _))
              have Hok' := hide (Hok.out.push xs)
              clear hk1 Hs
              generalize s.push xs = ps at *
              obtain ⟨s1, pn, pc⟩ := ps
              simp only at HPu HPm HCo Hok'
              generalize errW pc = ev at *
              have hpn : ((pn : Int) != (pn : Int)) = false := by simp
              go_wp2_with fail
              refine (Sep.call (L0 := [_]) (Sep.sw HSf.out) (HPu.out _ (HE.out _ HSf.out.below))).mono ?_
              rintro e w8 ⟨_, ⟨rfl, rfl⟩, hs8⟩
              simp only [List.cons_append, List.nil_append] at hs8
              have k1 := ((Sep.sw hs8).cell 1).1
              simp only [List.getElem?_cons_zero, List.getElem?_cons_succ] at k1
              have HS8 := hide (Sep.fourth hs8)
              clear hs8 HSf HPu
              go_wp2_with fail
              refine (Sep.call (L0 := [_]) HS8.out (HPm.out _)).mono ?_
              rintro e w9 ⟨_, ⟨rfl, rfl⟩, hs9⟩
              simp only [List.cons_append, List.nil_append] at hs9
              have HS9 := hide hs9
              clear hs9 HS8 HPm k1
              go_wp2_with fail
              refine (HCo.out _ (HE.out _ HS9.out.below)).mono ?_
              rintro e w10 ⟨rfl, hb10⟩
              have hs10 := HS9.out.keep hb10
              have HS10 := hide (Sep.sw2 (Sep.sw (Sep.third hs10).drop))
              clear hb10 hs10 HS9 HCo
              go_wp2_with fail
              go_meet
              case rel => exact ⟨s1, r, Hok'.out, Hro.out, HS10.out⟩
            · have hb1 := kind_not hk1
              by_cases hk2 : xk = str lAck
              · have hb2 := kind_is hk2
                have HTk := hide (fun u L W (k : Sep Foot.none w (S (.pointer (some sa)) s :: RowF intV u xm :: L) W) => Hw.out.takeL (n := xn) k Hok.out (by omega) Hx.out.2.2.1 (HE.out _ k.below))
                have HTm := hide (fun L W (k : Sep Foot.none w (RSn pm s :: L) W) => rtakeOld (n := xn) (more := xm) k Hx.out.1 Hok.out (by omega))
                have Hok' := hide (Hok.out.ack xn xm)
                generalize s.ack xn xm = s1 at *
                generalize hdd : (s.kept.length : Int) - (s1.kept.length : Int) = dd at *
                have hdn : (dd != dd) = false := by simp
                generalize wr.alloc (.cells #[.string xk, .string xs, .int .i64 xn, .slice ma xm.length mc] 56) = wA at *
                generalize wr.heap.size = B at *
                clear Hs hdd hk1 hk2
                cases ma with
                | none =>
                  obtain rfl : mc = 0 := Hx.out.2.2.2 _ _ rfl
                  have hxm : xm = [] := by
                    cases xm with
                    | nil => rfl
                    | cons y l =>
                      obtain ⟨_, _, e, hrow⟩ := Hx.out.1
                      obtain ⟨_, _, e2, _⟩ := hrow (by simp)
                      cases e
                      cases e2
                  subst hxm
                  have HSd := hide (Sep.third (Sep.rowNil (f := intV) HSf.out.drew))
                  simp only [List.length_nil] at k3
                  go_wp2_with fail
                  go_region_held3 (fun w' => w'.cell? ⟨B, 2, none⟩ = some (.int .i64 xn) ∧ w'.cell? ⟨B, 3, none⟩ = some (.slice none 0 0))
                    (go_keep)
                    (first
                      | (go_at_call 21; refine (HTm.out _ _ hs9).mono ?_; rintro e w10 ⟨rfl, hs10⟩; have hs11 := Sep.swap (L1 := [_, _, _, _]) hs10; have j2 := (Sep.cell hs11 2).1; have j3 := (Sep.cell hs11 3).1; simp only [List.getElem?_cons_zero, List.getElem?_cons_succ] at j2 j3)
                      | (go_at_call 10; refine (HTk.out _ _ _ HSd.out).mono ?_; rintro e w9 ⟨rfl, hs9'⟩; have hs9 := Sep.swap (L1 := [_, _, _, _]) hs9'; simp only [List.cons_append, List.nil_append] at hs9; have k2 := ((Sep.third hs9').cell 2).1; have k3 := ((Sep.third hs9').cell 3).1; simp only [List.getElem?_cons_zero, List.getElem?_cons_succ] at k2 k3)
                      | (refine step_append_none rfl _ _ _ rfl 0 3 _ 1 Tryd.underlying23 hi0 (.slice none 0 0) 0 [] rfl (World.ownsRow_nil _ _ _ _) rfl ?_))
                  all_goals
                    have x1 := Sep.drop hs11
                    have x2 := Sep.swap (L1 := [_, _, _]) x1
                    have HS11 := hide (Sep.drop (Sep.sw x2))
                    clear x1 x2 hs11 hs10 hs9 hs9' j2 j3 k2 k3 HSd HSf HTk HTm
                    go_wp2_with fail
                    go_meet
                    case rel => exact ⟨s1, r, Hok'.out, Hro.out, HS11.out⟩
                | some ad =>
                  have hbl := HSf.out.below
                  have Hnw : Hid (∀ j u, (xm.map intV)[j]? = some u → wA.drew.cell? (ad.add j) = some u) := by
                    intro j u hu
                    rw [List.getElem?_map] at hu
                    cases hx : xm[j]? with
                    | none => rw [hx] at hu; cases hu
                    | some y =>
                      rw [hx] at hu
                      cases hu
                      obtain ⟨hjl, hxj⟩ := List.getElem?_eq_some_iff.1 hx
                      obtain ⟨_, _, e, hrow⟩ := Hx.out.1.below hbl.drew
                      obtain ⟨b2, o2, e2, hc⟩ := hrow (by simp only; omega)
                      simp only [Value.slice.injEq] at e
                      have e3 := e.1.trans e2
                      simp only [Option.some.injEq] at e3
                      subst e3
                      have := hc j hjl
                      simp only [hxj] at this
                      rw [Go.WideShapes.add_plain]
                      exact this
                  have Hone : Hid (∀ u ∈ xm.map intV, u.oneCell' = true) := by
                    intro u hu
                    rw [List.mem_map] at hu
                    obtain ⟨y, _, rfl⟩ := hu
                    rfl
                  have Hal : Hid ((xm.map intV).length = xm.length * 1) := by show _ = _; simp
                  have Hab : Hid (0 + xm.length ≤ maxLen) := by show _ ≤ _; unfold maxLen; omega
                  have Hac : Hid ((0 + xm.length) * 8 ≤ 140737488355328) := by show _ ≤ _; omega
                  have HSd := hide HSf.out.drew
                  clear hbl
                  go_wp2_with fail
                  go_region_held3 (fun w' => w'.cell? ⟨B, 2, none⟩ = some (.int .i64 xn) ∧ w'.cell? ⟨B, 3, none⟩ = some (.slice (some ad) xm.length mc))
                    (go_keep)
                    (first
                      | (go_at_call 21; refine (HTm.out _ _ hs9).mono ?_; rintro e w10 ⟨rfl, hs10⟩; have hs11 := Sep.swap (L1 := [_, _, _, _]) hs10; have j2 := (Sep.cell hs11 2).1; have j3 := (Sep.cell hs11 3).1; simp only [List.getElem?_cons_zero, List.getElem?_cons_succ] at j2 j3)
                      | (go_at_call 10; refine (HTk.out _ _ _ hs8p).mono ?_; rintro e w9 ⟨rfl, hs9'⟩; have hs9 := Sep.swap (L1 := [_, _, _, _]) hs9'; simp only [List.cons_append, List.nil_append] at hs9; have k2 := ((Sep.third hs9').cell 2).1; have k3 := ((Sep.third hs9').cell 3).1; simp only [List.getElem?_cons_zero, List.getElem?_cons_succ] at k2 k3)
                      | ((fail_if_success (have _h := hs8p)); refine step_append_at (by rfl) _ _ _ (by rfl) 0 3 i0 (.int .i64 0) 1 8 Tryd.underlying23 hi0 hz0 hz1 hz2 rfl (by decide) (.slice none 0 0) 0 [] (by rfl) (World.ownsRow_nil _ _ _ _) ad xm.length mc (xm.map intV) (by rfl) Hal.out Hnw.out Hone.out Hab.out Hac.out (Nat.zero_le _) ?_; intro v8 w8 own8 hg8 hat8; (try simp only [Nat.zero_add, List.nil_append] at own8); have hs8 := (HSd.out.nil 3 1).append own8 hg8 hat8; obtain ⟨a8, c8, e8, -⟩ := own_slice' own8; subst e8; have hs8r := Sep.turn (L1 := [RowF intV (.slice a8 xm.length c8) xm]) hs8 (fun N hN => ⟨N, Star.one (RowF.fine _ _ _) (RowF.of_own hN), Step.refl _ _⟩); have hs8p := Sep.third hs8r; have k2 := (Sep.cell (Sep.sw hs8r) 2).1; have k3 := (Sep.cell (Sep.sw hs8r) 3).1; simp only [List.getElem?_cons_zero, List.getElem?_cons_succ] at k2 k3))
                  all_goals
                    have x1 := Sep.drop hs11
                    have x2 := Sep.swap (L1 := [_, _, _]) x1
                    have HS11 := hide (Sep.drop (Sep.sw x2))
                    clear x1 x2 hs11 hs10 hs9 hs9' hs8 hs8r hs8p own8 hg8 hat8 j2 j3 k2 k3 HSd HSf HTk HTm Hnw
                    go_wp2_with fail
                    go_meet
                    case rel => exact ⟨s1, r, Hok'.out, Hro.out, HS11.out⟩
              · have hb2 := kind_not hk2
                by_cases hk3 : xk = str lOwn
                · have hb3 := kind_is hk3
                  have hml : (r.more.map Int.ofNat).length ≤ 1000000 := by rw [List.length_map]; exact Nat.le_trans (Go.Window.more_length r) (by decide)
                  have HAc := hide (fun W (q : Env W) => Hw.out.ackR (.pointer (some ra)) r W Hro.out q)
                  have HTk := hide (fun u L W (k : Sep Foot.none w (S (.pointer (some sa)) s :: RowF intV u (r.more.map Int.ofNat) :: L) W) => Hw.out.takeL (n := (r.due : Int)) k Hok.out hml (more_wfA r) (HE.out _ k.below))
                  have HMo := hide (fun W => more_ok (pm + 1) r W)
                  have HTm := hide (fun u L W (k : Sep Foot.none w (RSn pm s :: RowF intV u (r.more.map Int.ofNat) :: L) W) => rtakeL (n := (r.due : Int)) k Hok.out hml)
                  have HDu := hide (fun L W (k : Sep Foot.none w (RRc (pm + 1) r :: L) W) => rrc_due k)
                  have Hok' := hide (Hok.out.ack (r.due : Int) (r.more.map Int.ofNat))
                  generalize s.ack (r.due : Int) (r.more.map Int.ofNat) = s1 at *
                  generalize hdd : (s.kept.length : Int) - (s1.kept.length : Int) = dd at *
                  have hdn : (dd != dd) = false := by simp
                  generalize hmm : r.more.map Int.ofNat = ms at *
                  generalize hdu : (r.due : Int) = du at *
                  generalize wr.alloc (.cells #[.string xk, .string xs, .int .i64 xn, .slice ma xm.length mc] 56) = wA at *
                  generalize wr.heap.size = B at *
                  have HSd := hide (Sep.third HSf.out.drew)
                  have d0 := HDu.out _ _ (Sep.swap (L1 := [_, _, _, _]) HSf.out)
                  clear Hs hdd hk1 hk2 hk3 hmm hdu
                  go_wp2_with fail
                  go_region_held3 (fun w' => w'.cell? ⟨pm + 1, 0, none⟩ = some (.int .i64 du))
                    (go_keep)
                    (first
                      | (go_at_call 21; refine (HTm.out _ _ _ hs10m).mono ?_; rintro e w11 ⟨rfl, hs11⟩; have d4 := HDu.out _ _ (Sep.third hs11))
                      | (go_at_call 22; refine (Sep.call (L0 := [_]) hs9r (HMo.out _)).mono ?_; rintro e w10 ⟨_, ⟨uv, rfl, rfl⟩, hs10⟩; obtain ⟨va, vc, rfl, -⟩ := hs10.rowForm; have d3 := HDu.out _ _ (Sep.sw hs10); have hs10m := Sep.swap (L1 := [_, _, _, _, _, _]) hs10)
                      | (go_at_call 10; refine (HTk.out _ _ _ (Sep.fourth hs8)).mono ?_; rintro e w9 ⟨rfl, hs9⟩; have hs9r := Sep.swap (L1 := [_, _, _, _, _]) hs9; have d2 := HDu.out _ _ hs9r)
                      | (go_at_call 11; refine (Sep.call (L0 := [_]) HSd.out (HAc.out _ (HE.out _ HSd.out.below))).mono ?_; rintro e w8 ⟨_, ⟨uu, rfl, rfl⟩, hs8⟩; obtain ⟨ua, uc, rfl, -⟩ := hs8.rowForm; have d1 := HDu.out _ _ (Sep.swap (L1 := [_, _, _, _, _]) hs8)))
                  all_goals
                    have x1 := Sep.drop (Sep.sw hs11)
                    have x2 := Sep.drop (Sep.fourth x1)
                    have x3 := Sep.drop (Sep.swap (L1 := [_, _, _, _]) x2)
                    have HS11 := hide (Sep.swap (L1 := [_, _]) x3)
                    clear x1 x2 x3 hs8 hs9 hs9r hs10 hs10m hs11 d0 d1 d2 d3 d4 HSd HSf HTk HTm HAc HMo HDu
                    go_wp2_with fail
                    go_meet
                    case rel => exact ⟨s1, r, Hok'.out, Hro.out, HS11.out⟩
                · have hb3 := kind_not hk3
                  have HTr := hide (fun W (q : Env W) => Hw.out.takeR (.pointer (some ra)) r xn xs W Hro.out (by omega) q)
                  have HTo := hide (fun W => rrtake_ok (pm + 1) r xn xs W (by omega))
                  have Hro' := hide (Hro.out.takeI xn xs)
                  have hol := takeI_length Hro.out xn xs
                  generalize r.takeI xn xs = rr at *
                  obtain ⟨r2, out⟩ := rr
                  simp only at HTr HTo Hro' hol
                  have HSm := hide (fun u v W (hu : Row1 strV W u out) (hv : Row1 strV W v out) => sameTexts_ok u v out out W hu hv (by omega) (by omega))
                  rw [show decide (out = out) = true from by simp] at HSm
                  generalize wr.alloc (.cells #[.string xk, .string xs, .int .i64 xn, .slice ma xm.length mc] 56) = wA at *
                  generalize wr.heap.size = B at *
                  have HSd := hide (Sep.third HSf.out.drew)
                  clear Hs hk1 hk2 hk3
                  go_wp2_with fail
                  go_region_held3 (fun w' => w'.cell? ⟨B, 1, none⟩ = some (.string xs) ∧ w'.cell? ⟨B, 2, none⟩ = some (.int .i64 xn))
                    (go_keep)
                    (first
                      | (go_at_call 15; refine (HSm.out _ _ _ (Sep.third hs9).row hs9.row).mono ?_; rintro e w10 ⟨rfl, hb10⟩; have hs10 := hs9a.keep hb10; have p1 := (Sep.cell hs10 1).1; have p2 := (Sep.cell hs10 2).1; simp only [List.getElem?_cons_zero, List.getElem?_cons_succ] at p1 p2)
                      | (go_at_call 23; refine (Sep.call (L0 := [_]) hs8r (HTo.out _)).mono ?_; rintro e w9 ⟨_, ⟨uv, rfl, rfl⟩, hs9⟩; obtain ⟨va, vc, rfl, -⟩ := hs9.rowForm; have hs9a := Sep.swap (L1 := [_, _, _, _]) hs9; have q1 := (Sep.cell hs9a 1).1; have q2 := (Sep.cell hs9a 2).1; simp only [List.getElem?_cons_zero, List.getElem?_cons_succ] at q1 q2)
                      | (go_at_call 14; refine (Sep.call (L0 := [_]) HSd.out (HTr.out _ (HE.out _ HSd.out.below))).mono ?_; rintro e w8 ⟨_, ⟨uu, rfl, rfl⟩, hs8⟩; obtain ⟨ua, uc, rfl, -⟩ := hs8.rowForm; have hs8r := Sep.swap (L1 := [_, _, _, _, _]) hs8; have o1 := (Sep.cell (Sep.third hs8) 1).1; have o2 := (Sep.cell (Sep.third hs8) 2).1; simp only [List.getElem?_cons_zero, List.getElem?_cons_succ] at o1 o2))
                  all_goals
                    have x1 := Sep.drop hs10
                    have x2 := Sep.drop (Sep.third x1)
                    have x3 := Sep.drop (Sep.fourth x2)
                    have HS11 := hide (Sep.sw (Sep.fourth x3))
                    clear x1 x2 x3 hs8 hs8r hs9 hs9a hs10 hb10 p1 p2 q1 q2 o1 o2 HSd HSf HTr HTo HSm
                    go_wp2_with fail
                    go_meet
                    case rel => exact ⟨s, r2, Hok.out, Hro'.out, HS11.out⟩
          case rest =>
            obtain ⟨s', r', Hok2, Hro2, Hs2⟩ := hcut
            clear HSf Hs Hok Hro Hx a0 a1 a2 a3
            have HAc := hide (fun W (q : Env W) => Hw.out.ackR (.pointer (some ra)) r' W Hro2.out q)
            have HKp := hide (fun W (q : Env W) => Hw.out.kept (.pointer (some sa)) s' W Hok2.out q)
            have HMo := hide (fun W => more_ok (pm + 1) r' W)
            have HDu := hide (fun L W (k : Sep Foot.none w (RRc (pm + 1) r' :: L) W) => rrc_due k)
            have hml : (r'.more.map Int.ofNat).length ≤ 1000000 := by rw [List.length_map]; exact Nat.le_trans (Go.Window.more_length r') (by decide)
            have hkl : (s'.kept.map fun p => (p.1 : Int)).length ≤ 1000000 := by rw [List.length_map]; have := Hok2.out.length; omega
            have HSk := hide (fun u v W (hu : Row1 intV W u (s'.kept.map fun p => (p.1 : Int))) (hv : Row1 intV W v (s'.kept.map fun p => (p.1 : Int))) => sameInts1 u v _ _ W hu hv hkl hkl)
            have HSm := hide (fun u v W (hu : Row1 intV W u (r'.more.map Int.ofNat)) (hv : Row1 intV W v (r'.more.map Int.ofNat)) => sameInts1 u v _ _ W hu hv hml hml)
            rw [decide_eq_true (rfl : (s'.kept.map fun p => (p.1 : Int)) = _)] at HSk
            rw [decide_eq_true (rfl : r'.more.map Int.ofNat = _)] at HSm
            have hnn : s'.kept.map numV = (s'.kept.map fun p => (p.1 : Int)).map intV := by rw [List.map_map]; rfl
            have hkn : s'.kept.length = (s'.kept.map fun p => (p.1 : Int)).length := (List.length_map ..).symm
            -- the document's sender, opened
            obtain ⟨⟨v1, v2⟩, hso⟩ := (Sep.third Hs2.out).unpack
            simp only [List.cons_append, List.nil_append] at hso
            obtain ⟨b1, c1, rfl, -⟩ := own_slice hso.sw.own
            have Hsh := hide (fun W (k : Sep Foot.none w (rsnL pm s' (.slice b1 s'.kept.length c1, v2) ++ [S (.pointer (some sa)) s', R (.pointer (some ra)) r', RRc (pm + 1) r']) W) => (Sep.pack (f := rsnL pm s') (.slice b1 s'.kept.length c1, v2) k).sw.sw2)
            have hso2 := Sep.swap (L1 := [_, _, _, _]) hso
            have HSo := hide hso2
            clear Hs2 hso hso2
            generalize hmm : r'.more.map Int.ofNat = ms at *
            generalize hkk : (s'.kept.map fun p => (p.1 : Int)) = ks at *
            generalize hdu : (r'.due : Int) = du at *
            have hdn : (du != du) = false := by simp
            go_wp2_with fail
            refine (Sep.call (L0 := [_]) HSo.out (HAc.out _ (HE.out _ HSo.out.below))).mono ?_
            rintro e w8 ⟨_, ⟨uu, rfl, rfl⟩, hs8⟩
            simp only [List.cons_append, List.nil_append] at hs8
            obtain ⟨ua, uc, rfl, -⟩ := hs8.rowForm
            have hs8f := hs8.fresh 38 [.int .i64 du, .slice ua ms.length uc]
            have HS8 := hide (Sep.swap (L1 := [_, _, _, _, _, _, _]) hs8f.drew)
            have HC := hide (fun L W (k : Sep Foot.none w L W) (h1 : CellsF pm 51 [.int .i64 (s'.next : Int), .slice b1 s'.kept.length c1, v2] ∈ L) (h2 : RRc (pm + 1) r' ∈ L) (h3 : CellsF w8.heap.size 38 [.int .i64 du, .slice ua ms.length uc] ∈ L) =>
              show W.cell? ⟨pm, 1, none⟩ = some (.slice b1 s'.kept.length c1) ∧ W.cell? ⟨pm + 1, 0, none⟩ = some (.int .i64 du) ∧ W.cell? ⟨w8.heap.size, 0, none⟩ = some (.int .i64 du) ∧ W.cell? ⟨w8.heap.size, 1, none⟩ = some (.slice ua ms.length uc) from
              ⟨cellMem k h1 1, hdu ▸ dueMem k h2, cellMem k h3 0, cellMem k h3 1⟩)
            have HN := hide (fun L W (k : Sep Foot.none w L W) (h1 : OwnF 3 1 (.slice b1 s'.kept.length c1) s'.kept.length (s'.kept.map numV) ∈ L) => show Row1 intV W (.slice b1 s'.kept.length c1) ks from by
              have := k.ownMem h1
              rw [hnn] at this
              exact Row1.of_own this)
            obtain ⟨e1, e2, e3, e4⟩ := HC.out _ _ hs8f (by simp) (by simp) (by simp)
            clear hs8 hs8f HSo HAc hnn hkn hdu
            generalize hB : w8.heap.size = B at *
            have HD := hide (fun L W (k : Sep Foot.none w L W) => k.below)
            go_upto_region 35 with fail
            generalize w8.alloc (.cells #[.int .i64 du, .slice ua ms.length uc] 38) = w9 at *
            go_region_held3 (fun w' => w'.cell? ⟨pm, 1, none⟩ = some (.slice b1 s'.kept.length c1) ∧ w'.cell? ⟨pm + 1, 0, none⟩ = some (.int .i64 du) ∧ w'.cell? ⟨B, 0, none⟩ = some (.int .i64 du) ∧ w'.cell? ⟨B, 1, none⟩ = some (.slice ua ms.length uc))
              (go_keep)
              (first
                | (go_at_call 24; refine (HSm.out _ _ _ (rowMem hs12 (by simp)) hs12.row).mono ?_; rintro e w13 ⟨rfl, hb13⟩; have hs13 := hs12.keep hb13; obtain ⟨d1, d2, d3, d4⟩ := HC.out _ _ hs13 (by simp) (by simp) (by simp))
                | (go_at_call 22; refine (Sep.call (L0 := [_]) hs11r (HMo.out _)).mono ?_; rintro e w12 ⟨_, ⟨uv, rfl, rfl⟩, hs12⟩; obtain ⟨va, vc, rfl, -⟩ := hs12.rowForm; obtain ⟨p1, p2, p3, p4⟩ := HC.out _ _ hs12 (by simp) (by simp) (by simp))
                | (go_at_call 24; refine (HSk.out _ _ _ hs10.row (HN.out _ _ hs10 (by simp))).mono ?_; rintro e w11 ⟨rfl, hb11⟩; have hs11 := hs10.keep hb11; have hs11r := Sep.swap (L1 := [_, _, _, _, _]) hs11; obtain ⟨q1, q2, q3, q4⟩ := HC.out _ _ hs11 (by simp) (by simp) (by simp))
                | (go_at_call 12; refine (Sep.call (L0 := [_]) HS8.out (HKp.out _ (HE.out _ HS8.out.below))).mono ?_; rintro e w10 ⟨_, ⟨uk, rfl, rfl⟩, hs10⟩; obtain ⟨ka, kc, rfl, -⟩ := hs10.rowForm; obtain ⟨o1, o2, o3, o4⟩ := HC.out _ _ hs10 (by simp) (by simp) (by simp)))
            all_goals
              have x1 := Sep.swap (L1 := [_]) (Sep.drop hs13)
              have x2 := Sep.drop (Sep.swap (L1 := [_, _, _]) x1)
              have x3 := Sep.drop (Sep.sw x2)
              have x4 := Sep.drop (Sep.sw x3)
              have HS14 := hide (Hsh.out _ (Sep.swap (L1 := [_, _, _]) x4))
              clear x1 x2 x3 x4 hs10 hs11 hs11r hs12 hs13 hb11 hb13 d1 d2 d3 d4 p1 p2 p3 p4 q1 q2 q3 q4 o1 o2 o3 o4 e1 e2 e3 e4 HS8 HC HN HD HKp HMo HDu HSk HSm Hsh
              go_wp2_with fail
              go_roundw
              case rel => exact ⟨i + 1, s', r', by go_num, by omega, Hok2.out, Hro2.out, HS14.out⟩
              case measure => simp [intOf]; omega
    · have hle : (l.length : Int) ≤ (i : Int) := by omega
      obtain ⟨⟨v1, v2⟩, hso⟩ := (Sep.third Hs.out).unpack
      simp only [List.cons_append, List.nil_append] at hso
      obtain ⟨b1, c1, rfl, -⟩ := own_slice hso.sw.own
      obtain ⟨b2, c2, rfl, -⟩ := own_slice hso.third.own
      have HSo := hide hso
      have hkl := Hok.out.length
      have hkl' : (s.kept.length : Int) ≤ 32 := by omega
      have hdl : decide (i < l.length) = false := by simp; omega
      clear Hs hso HA
      go_wp2_with fail
      go_loopw [23] (fun t23 wz => ∃ j : Nat, t23 = .int .i64 j ∧ j ≤ s.kept.length ∧ Hid (Sep Foot.none w (rsnL pm s (.slice b1 s.kept.length c1, .slice b2 s.kept.length c2) ++ [S (.pointer (some sa)) s, R (.pointer (some ra)) r, RRc (pm + 1) r]) wz)) (fun t23 _ => s.kept.length - (intOf t23).toNat)
      case atStart => exact ⟨0, rfl, Nat.zero_le _, HSo.out⟩
      case round =>
        clear HSo
        obtain ⟨j, rfl, hj, Hs⟩ := hrel
        have e1 := (Sep.cell Hs.out 1).1
        have e2 := (Sep.cell Hs.out 2).1
        simp only [List.getElem?_cons_zero, List.getElem?_cons_succ] at e1 e2
        by_cases hjl : j < s.kept.length
        · have hjl' : (j : Int) < s.kept.length := by omega
          have Hcl : Hid (∃ g1 g2, b1 = some ⟨g1, 0, none⟩ ∧ b2 = some ⟨g2, 0, none⟩ ∧ ∀ L W, Sep Foot.none w (rsnL pm s (.slice b1 s.kept.length c1, .slice b2 s.kept.length c2) ++ L) W → W.cell? ⟨g1, j, none⟩ = some (.int .i64 (s.kept[j].1 : Int)) ∧ W.cell? ⟨g2, j, none⟩ = some (.string s.kept[j].2)) := by
            rcases (Sep.sw Hs.out).own.2 with ⟨e, e0⟩ | ⟨g1, _, _, e, _⟩
            · omega
            · cases e
              rcases (Sep.third Hs.out).own.2 with ⟨e, e0⟩ | ⟨g2, _, _, e, _⟩
              · omega
              · cases e
                exact ⟨g1, g2, rfl, rfl, fun L W k => ⟨((Sep.sw k).own.cellAt j (by omega)).trans (by rw [List.getElem?_map, List.getElem?_eq_getElem hjl]; rfl), ((Sep.third k).own.cellAt j (by omega)).trans (by rw [List.getElem?_map, List.getElem?_eq_getElem hjl]; rfl)⟩⟩
          obtain ⟨g1, g2, rfl, rfl, hcl⟩ := Hcl.out
          have HCl := hide hcl
          obtain ⟨n1, n2⟩ := hcl _ _ Hs.out
          have hmem := List.getElem_mem hjl
          have hnl := (Hok.out.lt _ hmem).1
          have HDt := hide (fun W (q : Env W) => Hw.out.data (.pointer (some sa)) s (s.kept[j].1 : Int) W Hok.out ⟨by omega, by omega⟩ q)
          rw [Hok.out.data hmem] at HDt
          simp only [Option.getD_some, Option.isSome_some] at HDt
          have hqq : (s.kept[j].2.toList != s.kept[j].2.toList) = false := by simp
          clear Hcl hcl hmem
          generalize s.kept[j] = pq at *
          obtain ⟨kn, kd⟩ := pq
          simp only at n1 n2 hnl HDt hqq HCl
          clear hjl
          go_wp2_with fail
          have hs7 := Sep.swap (L1 := [_, _, _]) Hs.out
          refine (Sep.call (L0 := [_]) hs7 (HDt.out _ (HE.out _ hs7.below))).mono ?_
          rintro e w8 ⟨_, ⟨rfl, rfl⟩, hs8⟩
          have hs9 := Sep.swap (L1 := [_, _, _]) hs8
          have f1 := (Sep.cell hs9 1).1
          have f2 := (Sep.cell hs9 2).1
          obtain ⟨m1, m2⟩ := HCl.out _ _ hs9
          simp only [List.getElem?_cons_zero, List.getElem?_cons_succ] at f1 f2
          have HS9 := hide hs9
          clear hs7 hs8 hs9 Hs n1 n2 e1 e2 HDt HCl
          go_wp2_with fail
          go_roundw
          case rel => exact ⟨j + 1, by go_num, by omega, HS9.out⟩
          case measure => simp [intOf]; omega
        · have hjl' : (s.kept.length : Int) ≤ (j : Int) := by omega
          have HDt := hide (fun W (q : Env W) => Hw.out.data (.pointer (some sa)) s (-1) W Hok.out ⟨by omega, by omega⟩ q)
          rw [Go.Window.Sn.data_none (-1) (fun p _ => by omega)] at HDt
          simp only [Option.getD_none, Option.isSome_none] at HDt
          go_wp2_with fail
          have hs7 := Sep.swap (L1 := [_, _, _]) Hs.out
          refine (Sep.call (L0 := [_]) hs7 (HDt.out _ (HE.out _ hs7.below))).mono ?_
          rintro e w8 ⟨_, ⟨rfl, rfl⟩, hs8⟩
          have HB := hide (Sep.below hs8)
          clear hs7 hs8 Hs e1 e2 HDt
          go_wp2_with fail
          go_ret
          exact ⟨rfl, HB.out⟩

set_option maxHeartbeats 1000000 in
set_option maxRecDepth 100000 in
theorem wacts_early (Env : World → Prop) (S : Value → Sn → Fam) (R : Value → Rc → Fam) (errW : Nat → Value) (h : WinOk Env S R errW) (first a b : Int) (la : Option Addr) (ll lc : Nat) (w : World) (hE : Env w) (hl : 80 < ll) :
    Calls Tryd.prog 4 #[.int .i64 first, .slice la ll lc, .int .i64 a, .int .i64 b] w fun e w' => e = .returned (.bool true) ∧ Below w.heap.size w w' := by
  have HM := hide (windowed_ok Env S R errW h w hE)
  have hl' : (80 : Int) < ll := by omega
  clear hE h hl
  go_enter Tryd.func4, Tryd.ntmps4
  go_wp2_with fail
  refine HM.out.mono ?_
  rintro e w1 ⟨rfl, hb1⟩
  have Hb1 := hide hb1
  clear hb1 HM
  go_wp2_with fail
  go_ret
  exact ⟨rfl, Hb1.out⟩
/-- WindowActs, whole. -/
theorem wacts_walk (Env : World → Prop) (S : Value → Sn → Fam) (R : Value → Rc → Fam) (errW : Nat → Value) (h : WinOk Env S R errW) (hcd : ∀ W c, Env W → (c = 0 ∨ c = 2 ∨ c = 8) → Codes W (errW c) c) (first a b : Int) (v : Value) (l : List Actx) (w : World) (hE : Env w) (hA : ActRow w v l) :
    Calls Tryd.prog 4 #[.int .i64 first, v, .int .i64 a, .int .i64 b] w fun e w' => e = .returned (.bool true) ∧ Below w.heap.size w w' := by
  have hA' := hA
  obtain ⟨⟨la, lc, rfl, -⟩, -⟩ := hA'
  by_cases hl : 80 < l.length
  · exact wacts_early Env S R errW h first a b la _ lc w hE hl
  · exact wacts_main Env S R errW h hcd first a b la lc l w hE hA (by omega)
end Go.Proofs.YtaambclpkghddaaDoor
