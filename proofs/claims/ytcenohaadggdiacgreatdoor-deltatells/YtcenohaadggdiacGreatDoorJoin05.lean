/-
  The errors that packages sign and delta meet: what their variables hold, and an error by its number.
  Contracts of sign.hasBytes, hasSum, firstWrong over this dump, at any list of blocks.
  Contracts of sign.firstWrong whole, and of Check, over this dump.
  Contracts of slices.Index at blocks, and of sign.Find, over this dump.
  Contracts of the document's answer: Fine, Bare.
-/
import Derived.Test.YtcenohaadggdiacGreatDoorJoin01
import Derived.Test.YtcenohaadggdiacGreatDoorJoin04
namespace Go.Proofs.YtcenohaadggdiacGreatDoor
open Go.RowKit

/-- The three errors that are met: what their variables hold. -/
structure EV where
  tT : TypeId
  xT : Value
  tB : TypeId
  xB : Value
  tF : TypeId
  xF : Value
/-- An error by its number. -/
def errV (e : EV) : Nat → Value
  | 0 => .nilIface
  | 1 => .iface e.tT e.xT
  | 2 => .iface e.tB e.xB
  | _ => .iface e.tF e.xF
end Go.Proofs.YtcenohaadggdiacGreatDoor

namespace Go.Proofs.YtcenohaadggdiacGreatDoor
open Go.RowKit
open Go.Sign (Blk)

structure Er (e : EV) (w : World) : Prop where
  text : w.cell? ⟨1, 0, none⟩ = some (.iface e.tT e.xT)
  bound : w.cell? ⟨0, 0, none⟩ = some (.iface e.tB e.xB)
  full : w.cell? ⟨7, 0, none⟩ = some (.iface e.tF e.xF)
theorem Er.below {e : EV} {w w' : World} (h : Er e w) (hb : Below w.heap.size w w') : Er e w' :=
  ⟨(hb.cell (World.block_lt_of_cell? _ _ h.text)).trans h.text, (hb.cell (World.block_lt_of_cell? _ _ h.bound)).trans h.bound, (hb.cell (World.block_lt_of_cell? _ _ h.full)).trans h.full⟩
/-- The two of them that a check meets. -/
structure Er2 (e : EV) (w : World) : Prop where
  bound : w.cell? ⟨0, 0, none⟩ = some (.iface e.tB e.xB)
  full : w.cell? ⟨7, 0, none⟩ = some (.iface e.tF e.xF)
theorem Er2.below {e : EV} {w w' : World} (h : Er2 e w) (hb : Below w.heap.size w w') : Er2 e w' :=
  ⟨(hb.cell (World.block_lt_of_cell? _ _ h.bound)).trans h.bound, (hb.cell (World.block_lt_of_cell? _ _ h.full)).trans h.full⟩
theorem Er.two {e : EV} {w : World} (h : Er e w) : Er2 e w := ⟨h.bound, h.full⟩
instance (e : EV) (w : World) : Coe (Er e w) (Er2 e w) := ⟨Er.two⟩
set_option maxHeartbeats 1000000 in
theorem hasSum_ok (b : Blk) (w : World) : Calls Tryz.prog 59 #[bval b] w fun r w' => r = .returned (.bool (decide (0 ≤ b.weak) && decide (b.weak < 4294967296))) ∧ Below w.heap.size w w' := by
  obtain ⟨n, k, c⟩ := b
  unfold bval
  by_cases h0 : 0 ≤ k
  · have h0' : decide (0 ≤ k) = true := by simp; omega
    go_enter Tryz.func59, Tryz.ntmps59
    go_wp2
    go_ret
    exact ⟨ret_bool (by simp [h0]), (Below.refl _ _).alloc (Nat.le_refl _) _⟩
  · have h0' : decide (0 ≤ k) = false := by simp; omega
    go_enter Tryz.func59, Tryz.ntmps59
    go_wp2
    go_ret
    exact ⟨ret_bool (by simp), (Below.refl _ _).alloc (Nat.le_refl _) _⟩

set_option maxHeartbeats 1000000 in
theorem hasBytes_ok (b : Blk) (size : Int) (last : Bool) (w : World) : Calls Tryz.prog 58 #[bval b, .int .i64 size, .bool last] w fun r w' => r = .returned (.bool (b.n == size || (last && decide (1 ≤ b.n) && decide (b.n < size)))) ∧ Below w.heap.size w w' := by
  obtain ⟨n, k, c⟩ := b
  unfold bval
  by_cases he : n = size
  · subst he
    go_enter Tryz.func58, Tryz.ntmps58
    go_wp2
    go_ret
    exact ⟨ret_bool (by simp), (Below.refl _ _).alloc (Nat.le_refl _) _⟩
  · have he' : (n == size) = false := by simpa using he
    clear he
    cases last
    · go_enter Tryz.func58, Tryz.ntmps58
      go_wp2
      go_ret
      exact ⟨ret_bool (by simp [he']), (Below.refl _ _).alloc (Nat.le_refl _) _⟩
    · by_cases h1 : 1 ≤ n
      · have h1' : decide (1 ≤ n) = true := by simp; omega
        go_enter Tryz.func58, Tryz.ntmps58
        go_wp2
        go_ret
        exact ⟨ret_bool (by simp [he', h1]), (Below.refl _ _).alloc (Nat.le_refl _) _⟩
      · have h1' : decide (1 ≤ n) = false := by simp; omega
        go_enter Tryz.func58, Tryz.ntmps58
        go_wp2
        go_ret
        exact ⟨ret_bool (by simp), (Below.refl _ _).alloc (Nat.le_refl _) _⟩

set_option maxHeartbeats 1000000 in
set_option maxRecDepth 100000 in
theorem wrong_size (v : Value) (l : List Blk) (size : Int) (e : EV) (w : World) (hv : RowIn w v l) (hs : ¬ (1 ≤ size ∧ size ≤ 64)) (he : Er2 e w) :
    Calls Tryz.prog 37 #[v, .int .i64 size] w fun r w' => r = .returned (.tuple #[.int .i64 (-1), .iface e.tB e.xB]) ∧ Below w.heap.size w w' := by
  have I := hide (fun W => isSize_ok size W)
  rw [show decide (1 ≤ size ∧ size ≤ 64) = false from decide_eq_false hs] at I
  obtain ⟨a, c, rfl, _⟩ := hv
  have hB := he.bound
  clear he hs
  go_enter Tryz.func37, Tryz.ntmps37
  go_wp2_with fail
  refine (I.out _).mono ?_
  rintro e1 w1 ⟨rfl, rfl⟩
  go_wp2_with fail
  go_quiet (fail)
  go_wp2
  go_ret2
  exact ⟨rfl, (Below.refl _ _).trans ⟨rfl, rfl, rfl, Nat.le_refl _, fun _ _ => rfl⟩⟩

/-- What the scan comes to, as firstWrong tells it. -/
def wrongOut : Option (Nat × Nat) → Int × Nat
  | none => (-1, 0)
  | some (i, c) => (i, c)

theorem scan_step (size : Int) (l : List Blk) (j : Nat) (all : Int) (h : j < l.length) : Go.Sign.scanW size (l.drop j) j all = if Go.Sign.fits size (decide (j + 1 = l.length)) l[j] then (if 4000 < all + l[j].n then some (j, 8) else Go.Sign.scanW size (l.drop (j + 1)) (j + 1) (all + l[j].n)) else some (j, 2) := by
  rw [List.drop_eq_getElem_cons h, Go.Sign.scanW]
  have : (l.drop (j + 1)).isEmpty = decide (j + 1 = l.length) := by
    rw [Bool.eq_iff_iff]
    simp
    omega
  rw [this]

set_option maxHeartbeats 1000000 in
set_option maxRecDepth 100000 in
theorem wrong_scan (v : Value) (l : List Blk) (size : Int) (e : EV) (w : World) (hv : RowIn w v l) (hs : 1 ≤ size ∧ size ≤ 64) (hl : l.length ≤ 1000000) (he : Er2 e w) :
    Calls Tryz.prog 37 #[v, .int .i64 size] w fun r w' => r = .returned (.tuple #[.int .i64 (wrongOut (Go.Sign.scanW size l 0 0)).1, errV e (wrongOut (Go.Sign.scanW size l 0 0)).2]) ∧ Below w.heap.size w w' := by
  have I := hide (fun W => isSize_ok size W)
  rw [show decide (1 ≤ size ∧ size ≤ 64) = true from decide_eq_true hs] at I
  obtain ⟨a, c, rfl, hv⟩ := hv
  have HV := hide hv
  have HE := hide he
  have hl' : (l.length : Int) ≤ 1000000 := by omega
  have s1 := hs.1
  have s2 := hs.2
  clear he hv hs
  generalize hR : Go.Sign.scanW size l 0 0 = R
  have HR := hide hR
  clear hR
  go_enter Tryz.func37, Tryz.ntmps37
  go_wp2_with fail
  refine (I.out _).mono ?_
  rintro e1 w1 ⟨rfl, rfl⟩
  go_wp2_with fail
  go_loopw [6, 15] (fun t6 t15 wr => ∃ (j : Nat) (all : Int), t15 = .int .i64 j ∧ t6 = .int .i64 all ∧ 0 ≤ all ∧ all ≤ 4000 ∧ j ≤ l.length ∧ Hid (Go.Sign.scanW size (l.drop j) j all = R) ∧ Hid (Below w1.heap.size w1 wr)) (fun _ t15 _ => l.length - (intOf t15).toNat)
  case atStart => exact ⟨0, 0, rfl, rfl, by omega, by omega, by omega, HR.out, Below.refl _ _⟩
  case round =>
    clear HR I
    obtain ⟨j, all, rfl, rfl, a0, a1, hj, Hsc, Hb⟩ := hrel
    by_cases hlt : j < l.length
    · have hlt' : (j : Int) < l.length := by omega
      obtain ⟨b, o, rfl, hc⟩ := HV.out (by omega)
      obtain ⟨c0, c1, c2⟩ := hc j hlt
      have c0 := (Hb.out.cell (World.block_lt_of_cell? _ _ c0)).trans c0
      have c1 := (Hb.out.cell (World.block_lt_of_cell? _ _ c1)).trans c1
      have c2 := (Hb.out.cell (World.block_lt_of_cell? _ _ c2)).trans c2
      clear hc
      have hq : (((j : Int) == (l.length : Int) - 1)) = decide (j + 1 = l.length) := by
        rw [Bool.eq_iff_iff]; simp; omega
      have Hs := hide (scan_step size l j all hlt)
      rw [← hq, Hsc.out] at Hs
      have HBy := hide (fun W => hasBytes_ok l[j] size ((j : Int) == (l.length : Int) - 1) W)
      have HSu := hide (fun W => hasSum_ok l[j] W)
      have Hf : Hid (Go.Sign.fits size ((j : Int) == (l.length : Int) - 1) l[j] = ((l[j].n == size || (((j : Int) == (l.length : Int) - 1) && decide (1 ≤ l[j].n) && decide (l[j].n < size))) && (decide (0 ≤ l[j].weak) && decide (l[j].weak < 4294967296)))) := rfl
      unfold bval at HBy HSu
      generalize l[j] = bk at *
      clear hq Hsc HV
      have hE := HE.out.below Hb.out
      have hB := hE.bound
      have hF := hE.full
      clear hE HE
      generalize hy : (bk.n == size || (((j : Int) == (l.length : Int) - 1) && decide (1 ≤ bk.n) && decide (bk.n < size))) = y at *
      generalize hz : (decide (0 ≤ bk.weak) && decide (bk.weak < 4294967296)) = z at *
      have Hy := hide hy
      have Hz := hide hz
      clear hy hz
      go_wp2_with fail
      refine (HBy.out _).mono ?_
      rintro e1 w2 ⟨rfl, hb2⟩
      have hk := (BkAt.fresh wr bk 75).below hb2 (by simp)
      have hbf := (((Below.refl wr.heap.size wr).alloc (Nat.le_refl _) (.cells #[.int .i64 bk.n, .int .i64 bk.weak, .int .u32 bk.strong] 75)).trans (hb2.mono (by simp)))
      have hB2 := (hbf.cell (World.block_lt_of_cell? _ _ hB)).trans hB
      have hF2 := (hbf.cell (World.block_lt_of_cell? _ _ hF)).trans hF
      have Hb2 := hide (bthen Hb.out hbf)
      have Hk := hide hk
      clear hb2 hbf HBy c0 c1 c2 hB hF
      obtain ⟨k0, k1, k2, _, _, _, _⟩ := hk
      cases y with
      | false =>
        have hR : R = some (j, 2) := by rw [Hs.out, Hf.out]; simp
        subst hR
        go_wp2_with fail
        go_quiet (fail)
        go_wp2
        go_ret2
        exact ⟨rfl, Hb2.out.trans ⟨rfl, rfl, rfl, Nat.le_refl _, fun _ _ => rfl⟩⟩
      | true =>
        go_wp2_with fail
        refine (HSu.out _).mono ?_
        rintro e1 w3 ⟨rfl, hb3⟩
        have hB3 := (hb3.cell (World.block_lt_of_cell? _ _ hB2)).trans hB2
        have hF3 := (hb3.cell (World.block_lt_of_cell? _ _ hF2)).trans hF2
        have Hb3 := hide (bthen Hb2.out hb3)
        have hk3 := Hk.out.below hb3 Hk.out.lt
        clear hb3 HSu hB2 hF2 k0 k1 k2
        obtain ⟨k0, k1, k2, _, _, _, _⟩ := hk3
        cases z with
        | false =>
          have hR : R = some (j, 2) := by rw [Hs.out, Hf.out]; simp
          subst hR
          go_wp2_with fail
          go_quiet (fail)
          go_wp2
          go_ret2
          exact ⟨rfl, Hb3.out.trans ⟨rfl, rfl, rfl, Nat.le_refl _, fun _ _ => rfl⟩⟩
        | true =>
          have hbd : 1 ≤ bk.n ∧ bk.n ≤ 64 := by
            have := Go.Sign.fits_bounds (size := size) (last := ((j : Int) == (l.length : Int) - 1)) (b := bk) (by rw [Hf.out]; rfl) s1
            omega
          have n0 := hbd.1
          have n1 := hbd.2
          clear hbd
          have hR := Hs.out
          rw [Hf.out] at hR
          simp only [Bool.and_true, if_true] at hR
          by_cases h4 : 4000 < all + bk.n
          · rw [if_pos h4] at hR
            subst hR
            go_wp2_with fail
            go_quiet (fail)
            go_wp2
            go_ret2
            exact ⟨rfl, Hb3.out.trans ⟨rfl, rfl, rfl, Nat.le_refl _, fun _ _ => rfl⟩⟩
          · rw [if_neg h4] at hR
            have HR := hide hR
            have h4' : all + bk.n ≤ 4000 := by omega
            clear hR h4
            go_wp2_with fail
            go_roundw
            case rel => exact ⟨j + 1, all + bk.n, by go_num, by go_num, by omega, by omega, by omega, HR.out.symm, Hb3.out⟩
            case measure => simp [intOf]; omega
    · have hle : (l.length : Int) ≤ (j : Int) := by omega
      have he : R = none := by rw [← Hsc.out, List.drop_eq_nil_of_le (by omega), Go.Sign.scanW]
      subst he
      go_wp2_with fail
      go_ret2
      exact ⟨rfl, Hb.out⟩
end Go.Proofs.YtcenohaadggdiacGreatDoor

namespace Go.Proofs.YtcenohaadggdiacGreatDoor
open Go.RowKit
open Go.Sign (Blk)

theorem wrong_ok (v : Value) (l : List Blk) (size : Int) (e : EV) (w : World) (hv : RowIn w v l) (hl : l.length ≤ 1000000) (he : Er2 e w) :
    Calls Tryz.prog 37 #[v, .int .i64 size] w fun r w' => r = .returned (.tuple #[.int .i64 (Go.Sign.fault l size).2, errV e (Go.Sign.fault l size).1]) ∧ Below w.heap.size w w' := by
  unfold Go.Sign.fault
  by_cases hs : 1 ≤ size ∧ size ≤ 64
  · rw [if_pos hs]
    refine (wrong_scan v l size e w hv hs hl he).mono ?_
    rintro r w' ⟨rfl, hb⟩
    refine ⟨?_, hb⟩
    cases Go.Sign.scanW size l 0 0 <;> rfl
  · rw [if_neg hs]
    exact wrong_size v l size e w hv hs he

/-- What Check answers. -/
def CheckRes (e : EV) (base : Nat) (f : Nat × Int) (w' : World) (r : Ending) : Prop :=
  if f.1 = 0 ∨ f.2 = -1 then r = .returned (errV e f.1) else
    ∃ p, r = .returned (.iface 63 (.pointer (some ⟨p, 0, none⟩))) ∧ base ≤ p ∧ w'.cell? ⟨p, 0, none⟩ = some (.int .i64 f.2) ∧ w'.cell? ⟨p, 1, none⟩ = some (errV e f.1)

theorem errV_form (e : EV) (c : Nat) (h : c ≠ 0) : ∃ t x, errV e c = .iface t x := by
  match c, h with
  | 1, _ => exact ⟨_, _, rfl⟩
  | 2, _ => exact ⟨_, _, rfl⟩
  | c + 3, _ => exact ⟨_, _, rfl⟩

section
variable (a : Option Addr) (n cap : Nat) (size at_ : Int) (t : TypeId) (x : Value) (w : World)

set_option maxHeartbeats 1000000 in
set_option maxRecDepth 100000 in
theorem check_nil (h : Calls Tryz.prog 37 #[.slice a n cap, .int .i64 size] w fun r w' => r = .returned (.tuple #[.int .i64 at_, .nilIface]) ∧ Below w.heap.size w w') :
    Calls Tryz.prog 21 #[.slice a n cap, .int .i64 size] w fun r w' => r = .returned .nilIface ∧ Below w.heap.size w w' := by
  have HW := hide h
  clear h
  go_enter Tryz.func21, Tryz.ntmps21
  go_wp2_with fail
  refine HW.out.mono ?_
  rintro e1 w1 ⟨rfl, hb1⟩
  have Hb1 := hide hb1
  clear hb1
  go_wp2
  go_ret
  exact ⟨rfl, Hb1.out⟩

set_option maxHeartbeats 1000000 in
set_option maxRecDepth 100000 in
theorem check_bare (h : Calls Tryz.prog 37 #[.slice a n cap, .int .i64 size] w fun r w' => r = .returned (.tuple #[.int .i64 (-1), .iface t x]) ∧ Below w.heap.size w w') :
    Calls Tryz.prog 21 #[.slice a n cap, .int .i64 size] w fun r w' => r = .returned (.iface t x) ∧ Below w.heap.size w w' := by
  have HW := hide h
  clear h
  go_enter Tryz.func21, Tryz.ntmps21
  go_wp2_with fail
  refine HW.out.mono ?_
  rintro e1 w1 ⟨rfl, hb1⟩
  have Hb1 := hide hb1
  clear hb1
  go_wp2
  go_ret
  exact ⟨rfl, Hb1.out⟩

set_option maxHeartbeats 1000000 in
set_option maxRecDepth 100000 in
theorem check_at (ha : at_ ≠ -1) (h : Calls Tryz.prog 37 #[.slice a n cap, .int .i64 size] w fun r w' => r = .returned (.tuple #[.int .i64 at_, .iface t x]) ∧ Below w.heap.size w w') :
    Calls Tryz.prog 21 #[.slice a n cap, .int .i64 size] w fun r w' => (∃ p, r = .returned (.iface 63 (.pointer (some ⟨p, 0, none⟩))) ∧ w.heap.size ≤ p ∧ w'.cell? ⟨p, 0, none⟩ = some (.int .i64 at_) ∧ w'.cell? ⟨p, 1, none⟩ = some (.iface t x)) ∧ Below w.heap.size w w' := by
  have HW := hide h
  have ha' : (at_ == -1) = false := by simpa using ha
  clear h ha
  go_enter Tryz.func21, Tryz.ntmps21
  go_wp2_with fail
  refine HW.out.mono ?_
  rintro e1 w1 ⟨rfl, hb1⟩
  have Hb1 := hide hb1
  clear hb1
  go_wp2
  go_ret
  exact ⟨⟨w1.heap.size, rfl, Hb1.out.size, by simp, by simp⟩, Hb1.out.alloc Hb1.out.size _⟩
end

theorem check_ok (v : Value) (l : List Blk) (size : Int) (e : EV) (w : World) (hv : RowIn w v l) (hl : l.length ≤ 1000000) (he : Er2 e w) :
    Calls Tryz.prog 21 #[v, .int .i64 size] w fun r w' => CheckRes e w.heap.size (Go.Sign.fault l size) w' r ∧ Below w.heap.size w w' := by
  have HW := wrong_ok v l size e w hv hl he
  generalize Go.Sign.fault l size = f at *
  obtain ⟨c, at_⟩ := f
  obtain ⟨a, cap, rfl, _⟩ := hv
  by_cases hc : c = 0
  · subst hc
    refine (check_nil _ _ _ _ _ _ HW).mono ?_
    rintro r w' ⟨rfl, hb⟩
    exact ⟨by rw [CheckRes, if_pos (Or.inl rfl)]; rfl, hb⟩
  · obtain ⟨t, x, ev⟩ := errV_form e c hc
    simp only [ev] at HW
    by_cases ha : at_ = -1
    · subst ha
      refine (check_bare _ _ _ _ _ _ _ HW).mono ?_
      rintro r w' ⟨rfl, hb⟩
      exact ⟨by rw [CheckRes, if_pos (Or.inr rfl), ev], hb⟩
    · refine (check_at _ _ _ _ _ _ _ _ ha HW).mono ?_
      rintro r w' ⟨hr, hb⟩
      refine ⟨?_, hb⟩
      rw [CheckRes, if_neg (by simp only [not_or]; exact ⟨hc, ha⟩), ev]
      exact hr
end Go.Proofs.YtcenohaadggdiacGreatDoor

namespace Go.Proofs.YtcenohaadggdiacGreatDoor
open Go.RowKit
open Go.Sign (Blk)

/-- The place of the first one from place j on (-1: none). -/
def findFrom (b : Blk) : List Blk → Nat → Int
  | [], _ => -1
  | x :: r, j => if x = b then j else findFrom b r (j + 1)
def findOut (l : List Blk) (b : Blk) : Int := findFrom b l 0
theorem find_step (b : Blk) (l : List Blk) (j : Nat) (h : j < l.length) : findFrom b (l.drop j) j = if l[j] = b then (j : Int) else findFrom b (l.drop (j + 1)) (j + 1) := by
  rw [List.drop_eq_getElem_cons h, findFrom]
theorem bval_eq (a b : Blk) : a = b ↔ a.n = b.n ∧ a.weak = b.weak ∧ a.strong = b.strong := by
  cases a; cases b; simp

theorem Tryz.blkGuard : Tryz.prog.eqGuardType Tryz.prog.depth 75 = false := by kernel_rfl
theorem Tryz.blkHeld : Tryz.prog.stoodInHeld 75 = false := by kernel_rfl
set_option maxRecDepth 100000 in
/-- Blocks held against one another. -/
theorem blk_eql (a b : Blk) (w : World) : (binOp .eql 75 (.agg #[.int .i64 a.n, .int .i64 a.weak, .int .u32 a.strong]) (.agg #[.int .i64 b.n, .int .i64 b.weak, .int .u32 b.strong])).run Tryz.prog w = .ok (.bool (decide (a = b))) w := by
  have hf : Tryz.prog.fieldsOf 75 = (match Tryz.prog.underlying 75 with | some (.struct fs) => fs | _ => #[]) := rfl
  rw [Tryz.underlying75] at hf
  simp only at hf
  rw [run_eql_struct, run_equalIn_struct _ _ _ _ _ (by rw [hf]; exact Tryz.underlying75) Tryz.blkHeld, hf]
  have e : decide (a = b) = (a.n == b.n && (a.weak == b.weak && a.strong == b.strong)) := by
    rw [Bool.eq_iff_iff]; simp [bval_eq]
  rw [e]
  simp only [Op.eqFields]
  go_simp
  by_cases h1 : a.n = b.n
  · by_cases h2 : a.weak = b.weak
    · by_cases h3 : a.strong = b.strong
      · have h3' : (a.strong : Int) = b.strong := by omega
        simp [h1, h2, h3]
      · have h3' : ¬ (a.strong : Int) = b.strong := by omega
        simp [h1, h2, h3, h3']
    · simp [h1, h2]
  · simp [h1]

set_option maxHeartbeats 2000000 in
set_option maxRecDepth 100000 in
theorem index_ok (v : Value) (l : List Blk) (b : Blk) (w : World) (hv : RowIn w v l) (hl : l.length ≤ 1000000) :
    Calls Tryz.prog 86 #[v, bval b] w fun r w' => r = .returned (.int .i64 (findOut l b)) ∧ Below w.heap.size w w' := by
  obtain ⟨a, c, rfl, hv⟩ := hv
  have HV := hide hv
  have hl' : (l.length : Int) ≤ 1000000 := by omega
  clear hv
  unfold bval findOut
  generalize hR : findFrom b l 0 = R
  have HR := hide hR
  clear hR
  go_enter Tryz.func86, Tryz.ntmps86
  go_wp2_with fail
  have hb0 : Below w.heap.size w (w.alloc (.cells #[.int .i64 b.n, .int .i64 b.weak, .int .u32 b.strong] 75)) := (Below.refl _ _).alloc (Nat.le_refl _) _
  have Hq := hide (BkAt.fresh w b 75)
  have Hb := hide hb0
  clear hb0
  go_loopw [8] (fun t wr => ∃ j : Nat, t = .int .i64 j ∧ j ≤ l.length ∧ Hid (findFrom b (l.drop j) j = R) ∧ Hid (BkAt w.heap.size wr b) ∧ Hid (Below w.heap.size w wr)) (fun t _ => l.length - (intOf t).toNat)
  case atStart => exact ⟨0, rfl, by omega, HR.out, Hq.out, Hb.out⟩
  case round =>
    clear HR Hq Hb
    obtain ⟨j, rfl, hj, Hf, Hq, Hb⟩ := hrel
    by_cases hlt : j < l.length
    · have hlt' : (j : Int) < l.length := by omega
      obtain ⟨g, o, rfl, hc⟩ := HV.out (by omega)
      obtain ⟨c0, c1, c2⟩ := hc j hlt
      have d0 := (Hb.out.cell (World.block_lt_of_cell? _ _ c0)).trans c0
      have d1 := (Hb.out.cell (World.block_lt_of_cell? _ _ c1)).trans c1
      have d2 := (Hb.out.cell (World.block_lt_of_cell? _ _ c2)).trans c2
      have Hs := hide (find_step b l j hlt)
      rw [Hf.out] at Hs
      have Heq := hide (bval_eq l[j] b)
      clear hc c0 c1 c2
      generalize l[j] = x at *
      obtain ⟨q0, q1, q2, _, _, _, _⟩ := Hq.out
      have hE := blk_eql b x
      have hG := Tryz.blkGuard
      by_cases hx : b = x
      · have hR : R = (j : Int) := by rw [Hs.out, if_pos hx.symm]
        rw [show decide (b = x) = true from decide_eq_true hx] at hE
        clear hx Hs
        subst hR
        go_wp2_with fail
        go_quiet (fail)
        go_wp2
        go_ret
        exact ⟨rfl, Hb.out.trans ⟨rfl, rfl, rfl, Nat.le_refl _, fun _ _ => rfl⟩⟩
      · have Hn : Hid (findFrom b (l.drop (j + 1)) (j + 1) = R) := by rw [Hs.out, if_neg (fun e => hx e.symm)]; exact rfl
        rw [show decide (b = x) = false from decide_eq_false hx] at hE
        clear hx Hs
        go_wp2_with fail
        go_quiet (fail)
        go_wp2
        go_roundw
        case rel => exact ⟨j + 1, by go_num, by omega, Hn.out, ⟨Hq.out.c0, Hq.out.c1, Hq.out.c2, Hq.out.f0, Hq.out.f1, Hq.out.f2, Hq.out.lt⟩, Hb.out.trans ⟨rfl, rfl, rfl, Nat.le_refl _, fun _ _ => rfl⟩⟩
        case measure => simp [intOf]; omega
    · have hle : (l.length : Int) ≤ (j : Int) := by omega
      have hR : R = -1 := by rw [← Hf.out, List.drop_eq_nil_of_le (by omega), findFrom]
      subst hR
      go_wp2_with fail
      go_ret
      exact ⟨rfl, Hb.out⟩

set_option maxHeartbeats 1000000 in
set_option maxRecDepth 100000 in
theorem find_ok (v : Value) (l : List Blk) (s : ByteArray) (w : World) (hv : RowIn w v l) (hl : l.length ≤ 1000000) (hs : s.size ≤ 1000000) :
    Calls Tryz.prog 66 #[v, .string s] w fun r w' => r = .returned (.int .i64 (findOut l (blk s.data.toList))) ∧ Below w.heap.size w w' := by
  have HB := hide (fun W => blockOf_ok s W hs)
  have HI := hide (fun W (h : Below w.heap.size w W) => index_ok v l (blk s.data.toList) W (hv.below h) hl)
  obtain ⟨a, c, rfl, _⟩ := hv
  unfold bval at HB HI
  generalize blk s.data.toList = b at *
  go_enter Tryz.func66, Tryz.ntmps66
  go_wp2_with fail
  refine (HB.out _).mono ?_
  rintro r w1 ⟨rfl, hb1⟩
  have Hb1 := hide hb1
  clear hb1
  go_wp2_with fail
  refine (HI.out _ Hb1.out).mono ?_
  rintro r w2 ⟨rfl, hb2⟩
  have Hb2 := hide (bthen Hb1.out hb2)
  clear hb2
  go_wp2
  go_ret
  exact ⟨rfl, Hb2.out⟩
end Go.Proofs.YtcenohaadggdiacGreatDoor

namespace Go.Proofs.YtcenohaadggdiacGreatDoor
open Go.RowKit

/-- A fault of the document's answer: an error's number and where. -/
def fval (f : Nat × Int) : Value := .agg #[.int .i64 f.1, .int .i64 f.2]

set_option maxHeartbeats 1000000 in
set_option maxRecDepth 100000 in
theorem fine_ok (w : World) : Calls Tryz.prog 26 #[] w fun r w' => r = .returned (.agg #[.int .i64 0, .int .i64 (-1)]) ∧ Below w.heap.size w w' := by
  go_enter Tryz.func26, Tryz.ntmps26
  go_wp2
  (try simp only [Exit.inBlock, Exit.then])
  refine bodyPost_ret (v := .agg #[.int .i64 0, .int .i64 (-1)]) ?_ rfl ⟨rfl, (Below.refl _ _).alloc (Nat.le_refl _) _⟩
  simp only [results, show Tryz.f26.results = #[.cell 0 32] from rfl]
  go_simp

set_option maxHeartbeats 1000000 in
set_option maxRecDepth 100000 in
theorem bare_ok (c : Int) (w : World) : Calls Tryz.prog 24 #[.int .i64 c] w fun r w' => r = .returned (.agg #[.int .i64 c, .int .i64 (-1)]) ∧ Below w.heap.size w w' := by
  go_enter Tryz.func24, Tryz.ntmps24
  go_wp2
  (try simp only [Exit.inBlock, Exit.then])
  refine bodyPost_ret (v := .agg #[.int .i64 c, .int .i64 (-1)]) ?_ rfl ⟨rfl, (Below.refl _ _).alloc (Nat.le_refl _) _⟩
  simp only [results, show Tryz.f24.results = #[.cell 2 32] from rfl]
  go_simp

end Go.Proofs.YtcenohaadggdiacGreatDoor
