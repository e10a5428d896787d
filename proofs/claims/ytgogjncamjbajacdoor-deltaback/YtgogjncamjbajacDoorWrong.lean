/-
  Contracts of sign.hasBytes, hasSum, firstWrong over this dump, at any list of blocks.
-/
import Derived.Test.YtgogjncamjbajacDoorRowIn
namespace Go.Proofs.YtgogjncamjbajacDoor
open Go.RowKit
open Go.Sign (Blk)

/-- The three errors that are met: what their variables hold. -/
structure EV where
  tT : TypeId
  xT : Value
  tB : TypeId
  xB : Value
  tF : TypeId
  xF : Value
structure Er (e : EV) (w : World) : Prop where
  text : w.cell? ⟨3, 0, none⟩ = some (.iface e.tT e.xT)
  bound : w.cell? ⟨0, 0, none⟩ = some (.iface e.tB e.xB)
  full : w.cell? ⟨1, 0, none⟩ = some (.iface e.tF e.xF)
theorem Er.below {e : EV} {w w' : World} (h : Er e w) (hb : Below w.heap.size w w') : Er e w' :=
  ⟨(hb.cell (World.block_lt_of_cell? _ _ h.text)).trans h.text, (hb.cell (World.block_lt_of_cell? _ _ h.bound)).trans h.bound, (hb.cell (World.block_lt_of_cell? _ _ h.full)).trans h.full⟩
/-- The two of them that a check meets. -/
structure Er2 (e : EV) (w : World) : Prop where
  bound : w.cell? ⟨0, 0, none⟩ = some (.iface e.tB e.xB)
  full : w.cell? ⟨1, 0, none⟩ = some (.iface e.tF e.xF)
theorem Er2.below {e : EV} {w w' : World} (h : Er2 e w) (hb : Below w.heap.size w w') : Er2 e w' :=
  ⟨(hb.cell (World.block_lt_of_cell? _ _ h.bound)).trans h.bound, (hb.cell (World.block_lt_of_cell? _ _ h.full)).trans h.full⟩
theorem Er.two {e : EV} {w : World} (h : Er e w) : Er2 e w := ⟨h.bound, h.full⟩
instance (e : EV) (w : World) : Coe (Er e w) (Er2 e w) := ⟨Er.two⟩
/-- An error by its number. -/
def errV (e : EV) : Nat → Value
  | 0 => .nilIface
  | 1 => .iface e.tT e.xT
  | 2 => .iface e.tB e.xB
  | _ => .iface e.tF e.xF

set_option maxHeartbeats 1000000 in
theorem hasSum_ok (b : Blk) (w : World) : Calls Tryd.prog 45 #[bval b] w fun r w' => r = .returned (.bool (decide (0 ≤ b.weak) && decide (b.weak < 4294967296))) ∧ Below w.heap.size w w' := by
  obtain ⟨n, k, c⟩ := b
  unfold bval
  by_cases h0 : 0 ≤ k
  · have h0' : decide (0 ≤ k) = true := by simp; omega
    go_enter Tryd.func45, Tryd.ntmps45
    go_wp2
    go_ret
    exact ⟨ret_bool (by simp [h0]), (Below.refl _ _).alloc (Nat.le_refl _) _⟩
  · have h0' : decide (0 ≤ k) = false := by simp; omega
    go_enter Tryd.func45, Tryd.ntmps45
    go_wp2
    go_ret
    exact ⟨ret_bool (by simp), (Below.refl _ _).alloc (Nat.le_refl _) _⟩

set_option maxHeartbeats 1000000 in
theorem hasBytes_ok (b : Blk) (size : Int) (last : Bool) (w : World) : Calls Tryd.prog 44 #[bval b, .int .i64 size, .bool last] w fun r w' => r = .returned (.bool (b.n == size || (last && decide (1 ≤ b.n) && decide (b.n < size)))) ∧ Below w.heap.size w w' := by
  obtain ⟨n, k, c⟩ := b
  unfold bval
  by_cases he : n = size
  · subst he
    go_enter Tryd.func44, Tryd.ntmps44
    go_wp2
    go_ret
    exact ⟨ret_bool (by simp), (Below.refl _ _).alloc (Nat.le_refl _) _⟩
  · have he' : (n == size) = false := by simpa using he
    clear he
    cases last
    · go_enter Tryd.func44, Tryd.ntmps44
      go_wp2
      go_ret
      exact ⟨ret_bool (by simp [he']), (Below.refl _ _).alloc (Nat.le_refl _) _⟩
    · by_cases h1 : 1 ≤ n
      · have h1' : decide (1 ≤ n) = true := by simp; omega
        go_enter Tryd.func44, Tryd.ntmps44
        go_wp2
        go_ret
        exact ⟨ret_bool (by simp [he', h1]), (Below.refl _ _).alloc (Nat.le_refl _) _⟩
      · have h1' : decide (1 ≤ n) = false := by simp; omega
        go_enter Tryd.func44, Tryd.ntmps44
        go_wp2
        go_ret
        exact ⟨ret_bool (by simp), (Below.refl _ _).alloc (Nat.le_refl _) _⟩

set_option maxHeartbeats 1000000 in
set_option maxRecDepth 100000 in
theorem wrong_size (v : Value) (l : List Blk) (size : Int) (e : EV) (w : World) (hv : RowIn w v l) (hs : ¬ (1 ≤ size ∧ size ≤ 64)) (he : Er2 e w) :
    Calls Tryd.prog 28 #[v, .int .i64 size] w fun r w' => r = .returned (.tuple #[.int .i64 (-1), .iface e.tB e.xB]) ∧ Below w.heap.size w w' := by
  have I := hide (fun W => isSize_ok size W)
  rw [show decide (1 ≤ size ∧ size ≤ 64) = false from decide_eq_false hs] at I
  obtain ⟨a, c, rfl, _⟩ := hv
  have hB := he.bound
  clear he hs
  go_enter Tryd.func28, Tryd.ntmps28
  go_wp2_with fail
  refine (I.out _).mono ?_
  rintro e1 w1 ⟨rfl, rfl⟩
  go_wp2_with fail
  go_quiet (fail)
  go_wp2
  go_ret2
  exact ⟨rfl, (Below.refl _ _).trans ⟨rfl, rfl, rfl, Nat.le_refl _, fun _ _ => rfl⟩⟩

/-- What the scan comes to, as firstWrong tells it. -/
def wrongOut : Option (Nat × Nat) → Int × Nat
  | none => (-1, 0)
  | some (i, c) => (i, c)

theorem scan_step (size : Int) (l : List Blk) (j : Nat) (all : Int) (h : j < l.length) : Go.Sign.scanW size (l.drop j) j all = if Go.Sign.fits size (decide (j + 1 = l.length)) l[j] then (if 4000 < all + l[j].n then some (j, 8) else Go.Sign.scanW size (l.drop (j + 1)) (j + 1) (all + l[j].n)) else some (j, 2) := by
  rw [List.drop_eq_getElem_cons h, Go.Sign.scanW]
  have : (l.drop (j + 1)).isEmpty = decide (j + 1 = l.length) := by
    rw [Bool.eq_iff_iff]
    simp
    omega
  rw [this]

set_option maxHeartbeats 1000000 in
set_option maxRecDepth 100000 in
theorem wrong_scan (v : Value) (l : List Blk) (size : Int) (e : EV) (w : World) (hv : RowIn w v l) (hs : 1 ≤ size ∧ size ≤ 64) (hl : l.length ≤ 1000000) (he : Er2 e w) :
    Calls Tryd.prog 28 #[v, .int .i64 size] w fun r w' => r = .returned (.tuple #[.int .i64 (wrongOut (Go.Sign.scanW size l 0 0)).1, errV e (wrongOut (Go.Sign.scanW size l 0 0)).2]) ∧ Below w.heap.size w w' := by
  have I := hide (fun W => isSize_ok size W)
  rw [show decide (1 ≤ size ∧ size ≤ 64) = true from decide_eq_true hs] at I
  obtain ⟨a, c, rfl, hv⟩ := hv
  have HV := hide hv
  have HE := hide he
  have hl' : (l.length : Int) ≤ 1000000 := by omega
  have s1 := hs.1
  have s2 := hs.2
  clear he hv hs
  generalize hR : Go.Sign.scanW size l 0 0 = R
  have HR := hide hR
  clear hR
  go_enter Tryd.func28, Tryd.ntmps28
  go_wp2_with fail
  refine (I.out _).mono ?_
  rintro e1 w1 ⟨rfl, rfl⟩
  go_wp2_with fail
  go_loopw [6, 15] (fun t6 t15 wr => ∃ (j : Nat) (all : Int), t15 = .int .i64 j ∧ t6 = .int .i64 all ∧ 0 ≤ all ∧ all ≤ 4000 ∧ j ≤ l.length ∧ Hid (Go.Sign.scanW size (l.drop j) j all = R) ∧ Hid (Below w1.heap.size w1 wr)) (fun _ t15 _ => l.length - (intOf t15).toNat)
  case atStart => exact ⟨0, 0, rfl, rfl, by omega, by omega, by omega, HR.out, Below.refl _ _⟩
  case round =>
    clear HR I
    obtain ⟨j, all, rfl, rfl, a0, a1, hj, Hsc, Hb⟩ := hrel
    by_cases hlt : j < l.length
    · have hlt' : (j : Int) < l.length := by omega
      obtain ⟨b, o, rfl, hc⟩ := HV.out (by omega)
      obtain ⟨c0, c1, c2⟩ := hc j hlt
      have c0 := (Hb.out.cell (World.block_lt_of_cell? _ _ c0)).trans c0
      have c1 := (Hb.out.cell (World.block_lt_of_cell? _ _ c1)).trans c1
      have c2 := (Hb.out.cell (World.block_lt_of_cell? _ _ c2)).trans c2
      clear hc
      have hq : (((j : Int) == (l.length : Int) - 1)) = decide (j + 1 = l.length) := by
        rw [Bool.eq_iff_iff]; simp; omega
      have Hs := hide (scan_step size l j all hlt)
      rw [← hq, Hsc.out] at Hs
      have HBy := hide (fun W => hasBytes_ok l[j] size ((j : Int) == (l.length : Int) - 1) W)
      have HSu := hide (fun W => hasSum_ok l[j] W)
      have Hf : Hid (Go.Sign.fits size ((j : Int) == (l.length : Int) - 1) l[j] = ((l[j].n == size || (((j : Int) == (l.length : Int) - 1) && decide (1 ≤ l[j].n) && decide (l[j].n < size))) && (decide (0 ≤ l[j].weak) && decide (l[j].weak < 4294967296)))) := rfl
      unfold bval at HBy HSu
      generalize l[j] = bk at *
      clear hq Hsc HV
      have hE := HE.out.below Hb.out
      have hB := hE.bound
      have hF := hE.full
      clear hE HE
      generalize hy : (bk.n == size || (((j : Int) == (l.length : Int) - 1) && decide (1 ≤ bk.n) && decide (bk.n < size))) = y at *
      generalize hz : (decide (0 ≤ bk.weak) && decide (bk.weak < 4294967296)) = z at *
      have Hy := hide hy
      have Hz := hide hz
      clear hy hz
      go_wp2_with fail
      refine (HBy.out _).mono ?_
      rintro e1 w2 ⟨rfl, hb2⟩
      have hk := (BkAt.fresh wr bk 43).below hb2 (by simp)
      have hbf := (((Below.refl wr.heap.size wr).alloc (Nat.le_refl _) (.cells #[.int .i64 bk.n, .int .i64 bk.weak, .int .u32 bk.strong] 43)).trans (hb2.mono (by simp)))
      have hB2 := (hbf.cell (World.block_lt_of_cell? _ _ hB)).trans hB
      have hF2 := (hbf.cell (World.block_lt_of_cell? _ _ hF)).trans hF
      have Hb2 := hide (bthen Hb.out hbf)
      have Hk := hide hk
      clear hb2 hbf HBy c0 c1 c2 hB hF
      obtain ⟨k0, k1, k2, _, _, _, _⟩ := hk
      cases y with
      | false =>
        have hR : R = some (j, 2) := by rw [Hs.out, Hf.out]; simp
        subst hR
        go_wp2_with fail
        go_quiet (fail)
        go_wp2
        go_ret2
        exact ⟨rfl, Hb2.out.trans ⟨rfl, rfl, rfl, Nat.le_refl _, fun _ _ => rfl⟩⟩
      | true =>
        go_wp2_with fail
        refine (HSu.out _).mono ?_
        rintro e1 w3 ⟨rfl, hb3⟩
        have hB3 := (hb3.cell (World.block_lt_of_cell? _ _ hB2)).trans hB2
        have hF3 := (hb3.cell (World.block_lt_of_cell? _ _ hF2)).trans hF2
        have Hb3 := hide (bthen Hb2.out hb3)
        have hk3 := Hk.out.below hb3 Hk.out.lt
        clear hb3 HSu hB2 hF2 k0 k1 k2
        obtain ⟨k0, k1, k2, _, _, _, _⟩ := hk3
        cases z with
        | false =>
          have hR : R = some (j, 2) := by rw [Hs.out, Hf.out]; simp
          subst hR
          go_wp2_with fail
          go_quiet (fail)
          go_wp2
          go_ret2
          exact ⟨rfl, Hb3.out.trans ⟨rfl, rfl, rfl, Nat.le_refl _, fun _ _ => rfl⟩⟩
        | true =>
          have hbd : 1 ≤ bk.n ∧ bk.n ≤ 64 := by
            have := Go.Sign.fits_bounds (size := size) (last := ((j : Int) == (l.length : Int) - 1)) (b := bk) (by rw [Hf.out]; rfl) s1
            omega
          have n0 := hbd.1
          have n1 := hbd.2
          clear hbd
          have hR := Hs.out
          rw [Hf.out] at hR
          simp only [Bool.and_true, if_true] at hR
          by_cases h4 : 4000 < all + bk.n
          · rw [if_pos h4] at hR
            subst hR
            go_wp2_with fail
            go_quiet (fail)
            go_wp2
            go_ret2
            exact ⟨rfl, Hb3.out.trans ⟨rfl, rfl, rfl, Nat.le_refl _, fun _ _ => rfl⟩⟩
          · rw [if_neg h4] at hR
            have HR := hide hR
            have h4' : all + bk.n ≤ 4000 := by omega
            clear hR h4
            go_wp2_with fail
            go_roundw
            case rel => exact ⟨j + 1, all + bk.n, by go_num, by go_num, by omega, by omega, by omega, HR.out.symm, Hb3.out⟩
            case measure => simp [intOf]; omega
    · have hle : (l.length : Int) ≤ (j : Int) := by omega
      have he : R = none := by rw [← Hsc.out, List.drop_eq_nil_of_le (by omega), Go.Sign.scanW]
      subst he
      go_wp2_with fail
      go_ret2
      exact ⟨rfl, Hb.out⟩
end Go.Proofs.YtgogjncamjbajacDoor
