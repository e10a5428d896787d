/-
  Contracts of package sign's small functions over this dump: Size, isSize, blockOf. A block as three cells.
  Contract of sign.Of over this dump.
  A slice that reads as blocks.
  The errors that packages sign and delta meet: what their variables hold, and an error by its number.
  Contracts of sign.hasBytes, hasSum, firstWrong over this dump, at any list of blocks.
-/
import Derived.Test.YtcenohaadggdiacDoorJoin01
import Derived.Test.YtcenohaadggdiacDoorJoin02
import Derived.OwnWalk
import Derived.WideShapes
import Derived.Deep.QuietTactic
import Derived.BigQuiet
namespace Go.Proofs.YtcenohaadggdiacDoor
open Go.RowKit
open Go.Sign (Blk)

/-- A block as cells, and as a value. -/
def bcells (b : Blk) : List Value := [.int .i64 b.n, .int .i64 b.weak, .int .u32 b.strong]
def bval (b : Blk) : Value := .agg #[.int .i64 b.n, .int .i64 b.weak, .int .u32 b.strong]
/-- The block of a text. -/
def blk (l : List UInt8) : Blk := ⟨l.length, wk l, Go.Crc.crc 0 l⟩

/-- A block's three cells at block p of the memory. -/
structure BkAt (p : Nat) (w : World) (b : Blk) : Prop where
  c0 : w.cell? ⟨p, 0, none⟩ = some (.int .i64 b.n)
  c1 : w.cell? ⟨p, 1, none⟩ = some (.int .i64 b.weak)
  c2 : w.cell? ⟨p, 2, none⟩ = some (.int .u32 b.strong)
  f0 : w.frozen? ⟨p, 0, none⟩ = false
  f1 : w.frozen? ⟨p, 1, none⟩ = false
  f2 : w.frozen? ⟨p, 2, none⟩ = false
  lt : p < w.heap.size
theorem BkAt.below {p k : Nat} {w w' : World} {b : Blk} (h : BkAt p w b) (hb : Below k w w') (hp : p < k) : BkAt p w' b :=
  ⟨(hb.cell (p := ⟨p, 0, none⟩) (by simpa using hp)).trans h.c0, (hb.cell (p := ⟨p, 1, none⟩) (by simpa using hp)).trans h.c1, (hb.cell (p := ⟨p, 2, none⟩) (by simpa using hp)).trans h.c2, (hb.frozen (p := ⟨p, 0, none⟩) (by simpa using hp)).trans h.f0, (hb.frozen (p := ⟨p, 1, none⟩) (by simpa using hp)).trans h.f1, (hb.frozen (p := ⟨p, 2, none⟩) (by simpa using hp)).trans h.f2, Nat.lt_of_lt_of_le h.lt hb.size⟩
theorem BkAt.set {p : Nat} {w : World} {b : Blk} (h : BkAt p w b) (c : Blk) : BkAt p (((w.setCell ⟨p, 0, none⟩ (.int .i64 c.n)).setCell ⟨p, 1, none⟩ (.int .i64 c.weak)).setCell ⟨p, 2, none⟩ (.int .u32 c.strong)) c := by
  obtain ⟨c0, c1, c2, f0, f1, f2, lt⟩ := h
  refine ⟨?_, ?_, ?_, by simpa using f0, by simpa using f1, by simpa using f2, by simpa using lt⟩
  · rw [World.cell?_setCell_other _ _ _ _ (by simp), World.cell?_setCell_other _ _ _ _ (by simp)]; exact World.cell?_setCell_same _ _ _ c0
  · rw [World.cell?_setCell_other _ _ _ _ (by simp)]; exact World.cell?_setCell_same _ _ _ (by rw [World.cell?_setCell_other _ _ _ _ (by simp)]; exact c1)
  · exact World.cell?_setCell_same _ _ _ (by rw [World.cell?_setCell_other _ _ _ _ (by simp), World.cell?_setCell_other _ _ _ _ (by simp)]; exact c2)
theorem BkAt.fresh (w : World) (b : Blk) (t : TypeId) : BkAt w.heap.size (w.alloc (.cells #[.int .i64 b.n, .int .i64 b.weak, .int .u32 b.strong] t)) b :=
  ⟨by simp, by simp, by simp, by simp, by simp, by simp, by simp⟩
theorem BkAt.drew {p : Nat} {w : World} {b : Blk} (h : BkAt p w b) : BkAt p w.drew b := ⟨h.c0, h.c1, h.c2, h.f0, h.f1, h.f2, h.lt⟩
def zeroB : Blk := ⟨0, 0, 0⟩

theorem isSize_ok (n : Int) (w : World) : Calls Tryd.prog 31 #[.int .i64 n] w fun r w' => r = .returned (.bool (decide (1 ≤ n ∧ n ≤ 64))) ∧ w' = w := by
  by_cases h0 : 1 ≤ n
  · go_enter Tryd.func31, Tryd.ntmps31
    go_wp2
    go_ret
    exact ⟨ret_bool (by simp [h0]), rfl⟩
  · have h0' : decide (1 ≤ n) = false := by simp; omega
    go_enter Tryd.func31, Tryd.ntmps31
    go_wp2
    go_ret
    exact ⟨ret_bool (by simp), rfl⟩

set_option maxHeartbeats 1000000 in
set_option maxRecDepth 100000 in
theorem blockOf_ok (s : ByteArray) (w : World) (hs : s.size ≤ 1000000) : Calls Tryd.prog 32 #[.string s] w fun r w' => r = .returned (bval (blk s.data.toList)) ∧ Below w.heap.size w w' := by
  have HW := hide (fun W => wSum_ok s W hs)
  have HS := hide (fun W => sum_ok s W hs)
  have hs' : (s.size : Int) ≤ 1000000 := by omega
  unfold bval blk
  rw [lenL]
  generalize wk s.data.toList = k at *
  generalize Go.Crc.crc 0 s.data.toList = c at *
  go_enter Tryd.func32, Tryd.ntmps32
  go_wp2_with fail
  refine (HW.out _).mono ?_
  rintro e w1 ⟨rfl, hb1⟩
  have hf := (BkAt.fresh w zeroB 55).below hb1 (by simp)
  have Hb1 := hide (((Below.refl w.heap.size w).alloc (Nat.le_refl _) (.cells #[.int .i64 0, .int .i64 0, .int .u32 0] 55)).trans (hb1.mono (by simp)))
  have Hf := hide hf
  clear hb1
  obtain ⟨c0, c1, c2, f0, f1, f2, lt⟩ := hf
  go_wp2_with fail
  refine (HS.out _).mono ?_
  rintro e w2 ⟨rfl, rfl⟩
  go_wp2_with fail
  (try simp only [Exit.inBlock, Exit.then])
  refine bodyPost_ret (v := .agg #[.int .i64 s.size, .int .i64 k, .int .u32 c]) ?_ rfl ⟨rfl, ((Hb1.out.setCell (by simp) _).setCell (by simp) _).setCell (by simp) _⟩
  obtain ⟨s0, s1, s2, _, _, _, _⟩ := Hf.out.set ⟨s.size, k, c⟩
  simp only [results, show Tryd.f32.results = #[.cell 2 55] from rfl]
  go_simp
end Go.Proofs.YtcenohaadggdiacDoor

namespace Go.Proofs.YtcenohaadggdiacDoor
open Go.RowKit
open Go.Sign (Blk)

theorem Tryd.info55 : (Tryd.prog.info? 55).map (fun i => (i.zero, i.size, i.bytes)) = some (some (.agg #[.int .i64 0, .int .i64 0, .int .u32 0]), 3, 24) := by kernel_rfl

/-- Blocks as cells. -/
def bcs (l : List Blk) : List Value := l.flatMap bcells
theorem bcs_snoc (l : List Blk) (b : Blk) : bcs (l ++ [b]) = bcs l ++ bcells b := by simp [bcs]
theorem bcs_length (l : List Blk) : (bcs l).length = l.length * 3 := by
  induction l with
  | nil => rfl
  | cons b l ih => rw [bcs, List.flatMap_cons, List.length_append, ← bcs, ih, List.length_cons]; simp [bcells]; omega
theorem bcs_get (l : List Blk) (j : Nat) (h : j < l.length) : (bcs l)[j * 3]? = some (.int .i64 l[j].n) ∧ (bcs l)[j * 3 + 1]? = some (.int .i64 l[j].weak) ∧ (bcs l)[j * 3 + 2]? = some (.int .u32 l[j].strong) := by
  induction l generalizing j with
  | nil => simp at h
  | cons b l ih =>
    have e : bcs (b :: l) = .int .i64 b.n :: .int .i64 b.weak :: .int .u32 b.strong :: bcs l := by simp [bcs, bcells]
    rw [e]
    cases j with
    | zero => simp
    | succ j =>
      have := ih j (by simpa using h)
      rw [show (j + 1) * 3 = j * 3 + 3 by omega]
      simpa using this

/-- How many blocks so many bytes make. -/
def many (len size : Nat) : Nat := (len + size - 1) / size
/-- The first k blocks of a file. -/
def sigK (l : List UInt8) (size k : Nat) : List Blk := (List.range k).map fun j => blk ((l.drop (j * size)).take size)
theorem sigK_succ (l : List UInt8) (size k : Nat) : sigK l size (k + 1) = sigK l size k ++ [blk ((l.drop (k * size)).take size)] := by simp [sigK, List.range_succ]
theorem sigK_length (l : List UInt8) (size k : Nat) : (sigK l size k).length = k := by simp [sigK]
/-- The signature of a file. -/
def sigL (l : List UInt8) (size : Nat) : List Blk := sigK l size (many l.length size)
theorem many_eq {len size k : Nat} (h1 : 1 ≤ size) (ha : len ≤ k * size) (hb : k * size < len + size) : k = many len size := by
  unfold many
  have h3 : k * size ≤ len + size - 1 := by omega
  have h4 : len + size - 1 < (k + 1) * size := by rw [Nat.succ_mul]; omega
  have a1 : k ≤ (len + size - 1) / size := (Nat.le_div_iff_mul_le (by omega)).2 h3
  have a2 : (len + size - 1) / size < k + 1 := (Nat.div_lt_iff_lt_mul (by omega)).2 h4
  omega
theorem many_le {len size : Nat} (h1 : 1 ≤ size) : many len size ≤ len := by
  unfold many
  have : (len + size - 1) / size < len + 1 := (Nat.div_lt_iff_lt_mul (by omega)).2 (by
    have : len + 1 ≤ (len + 1) * size := Nat.le_mul_of_pos_right _ h1
    have h2 : (len + 1) * size = len * size + size := Nat.succ_mul ..
    have h3 : len ≤ len * size := Nat.le_mul_of_pos_right _ h1
    omega)
  omega

set_option maxHeartbeats 1000000 in
set_option maxRecDepth 100000 in
theorem of_err (s : ByteArray) (size : Int) (t : TypeId) (x : Value) (w : World) (h : 4000 < s.size ∨ ¬ (1 ≤ size ∧ size ≤ 64)) (hB : w.cell? ⟨0, 0, none⟩ = some (.iface t x)) :
    Calls Tryd.prog 10 #[.string s, .int .i64 size] w fun r w' => r = .returned (.tuple #[.slice none 0 0, .iface t x]) ∧ Below w.heap.size w w' := by
  have I := hide (fun W => isSize_ok size W)
  by_cases hl : 4000 < s.size
  · have hl' : decide ((4000 : Int) < s.size) = true := by simp; omega
    clear h
    go_enter Tryd.func10, Tryd.ntmps10
    go_wp2_with fail
    go_quiet (fail)
    go_wp2
    go_ret2
    exact ⟨rfl, (Below.refl _ _).trans ⟨rfl, rfl, rfl, Nat.le_refl _, fun _ _ => rfl⟩⟩
  · have hl' : decide ((4000 : Int) < s.size) = false := by simp; omega
    have h2 : ¬ (1 ≤ size ∧ size ≤ 64) := h.resolve_left hl
    rw [show decide (1 ≤ size ∧ size ≤ 64) = false from decide_eq_false h2] at I
    clear h h2
    go_enter Tryd.func10, Tryd.ntmps10
    go_wp2_with fail
    refine (I.out _).mono ?_
    rintro e w1 ⟨rfl, rfl⟩
    go_wp2_with fail
    go_quiet (fail)
    go_wp2
    go_ret2
    exact ⟨rfl, (Below.refl _ _).trans ⟨rfl, rfl, rfl, Nat.le_refl _, fun _ _ => rfl⟩⟩

set_option maxHeartbeats 1000000 in
set_option maxRecDepth 100000 in
theorem of_ok (s : ByteArray) (size : Nat) (w : World) (hs : s.size ≤ 4000) (h1 : 1 ≤ size) (h2 : size ≤ 64) :
    Calls Tryd.prog 10 #[.string s, .int .i64 size] w fun r w' => ∃ v, r = .returned (.tuple #[v, .nilIface]) ∧ w'.ownsRow w.heap.size 55 3 v (many s.size size) (bcs (sigL s.data.toList size)) ∧ Below w.heap.size w w' := by
  obtain ⟨i0, hi, hz0, hz1, hz2⟩ := info_parts Tryd.info55
  have I := hide (fun W => isSize_ok size W)
  rw [show decide (1 ≤ (size : Int) ∧ (size : Int) ≤ 64) = true from decide_eq_true (by omega)] at I
  have hl' : decide ((4000 : Int) < s.size) = false := by simp; omega
  have hs' : (s.size : Int) ≤ 4000 := by omega
  have h1' : (1 : Int) ≤ size := by omega
  have h2' : (size : Int) ≤ 64 := by omega
  have hm : many s.size size ≤ 4000 := Nat.le_trans (many_le h1) hs
  have hq : Int.tdiv ((s.size : Int) + (size : Int) - 1) (size : Int) = ((many s.size size : Nat) : Int) := by
    unfold many
    rw [show (s.size : Int) + (size : Int) - 1 = ((s.size + size - 1 : Nat) : Int) by omega, Int.tdiv_eq_ediv_of_nonneg (by omega)]
    rfl
  go_enter Tryd.func10, Tryd.ntmps10
  go_wp2_with fail
  refine (I.out _).mono ?_
  rintro e w1 ⟨rfl, rfl⟩
  go_wp2_with (first | (at_make; refine wpList_make_own _ rfl _ _ 24 rfl w1.heap.size 55 i0 (.agg #[.int .i64 0, .int .i64 0, .int .u32 0]) 3 Tryd.underlying24 hi hz0 hz1 .i64 .i64 _ (many s.size size) rfl rfl ?m1 ?m2 ?m3 ?m4 ?next))
  case m1 => first | exact hq | (rw [← hq]; rfl) | simp
  case m2 => rw [hz2]; omega
  case m3 => unfold maxLen; omega
  case m4 => exact Nat.le_refl _
  case next =>
    intro w3 hown3 hgrow3
    have hb3 : Below w1.heap.size w1 w3 := (Below.refl _ _).grown hgrow3 (Nat.le_refl _) (fun k hk => by cases hk)
    have Hown3 := hide hown3
    have Hb3 := hide hb3
    clear hown3 hgrow3 hb3 hq hm I
    generalize many s.size size = cap at Hown3
    go_wp2_with fail
    go_loopw [6, 7] (fun t6 t7 wr => ∃ k f : Nat, t7 = .int .i64 f ∧ f = k * size ∧ f < s.size + size ∧ Hid (wr.ownsRow w1.heap.size 55 3 t6 k (bcs (sigK s.data.toList size k))) ∧ Hid (Below w1.heap.size w1 wr)) (fun _ t7 _ => s.size + size - (intOf t7).toNat)
    case atStart => exact ⟨0, 0, rfl, by simp, by omega, Hown3.out, Hb3.out⟩
    case round =>
      clear Hown3 Hb3
      obtain ⟨k, f, rfl, hf, hlt0, Hown, Hb⟩ := hrel
      have Hf := hide hf
      have hk : k ≤ f := by rw [hf]; exact Nat.le_mul_of_pos_right _ h1
      clear hf
      by_cases hlt : f < s.size
      · have hlt' : (f : Int) < s.size := by omega
        have hx : (s.extract f (min (f + size) s.size)).data.toList = (s.data.toList.drop (k * size)).take size := by
          rw [extractL, ← Hf.out]
          rcases Nat.le_total (f + size) s.size with h | h
          · rw [Nat.min_eq_left h, Nat.add_sub_cancel_left]
          · rw [Nat.min_eq_right h]
            rw [List.take_of_length_le (by rw [List.length_drop, lenL]; omega), List.take_of_length_le (by rw [List.length_drop, lenL]; omega)]
        have HBk := hide (fun W y (hy : y = min (f + size) s.size) => (show Calls Tryd.prog 32 #[.string (s.extract f y)] W fun r w' => r = .returned (bval (blk (s.extract f (min (f + size) s.size)).data.toList)) ∧ Below W.heap.size W w' from hy ▸ blockOf_ok (s.extract f (min (f + size) s.size)) W (by rw [ByteArray.size_extract]; omega)))
        rw [hx] at HBk
        have hbv : Hid (bcells (blk ((s.data.toList.drop (k * size)).take size)) = [.int .i64 (blk ((s.data.toList.drop (k * size)).take size)).n, .int .i64 (blk ((s.data.toList.drop (k * size)).take size)).weak, .int .u32 (blk ((s.data.toList.drop (k * size)).take size)).strong]) := rfl
        unfold bval at HBk
        clear hx
        have Hsk := hide (sigK_succ s.data.toList size k)
        generalize blk ((s.data.toList.drop (k * size)).take size) = b at *
        go_wp2_with fail
        all_goals
          refine (HBk.out _ _ (by omega)).mono ?_
          rintro e w4 ⟨rfl, hb4⟩
          have Hown4 := hide (own_below Hown.out hb4)
          have Hb4 := hide (bthen Hb.out hb4)
          clear hb4 HBk
          go_wp2_with (first | (at_builtin; refine wpList_append_own _ rfl (.tmp 32) (.tmp 43) 24 rfl w1.heap.size 55 i0 (.agg #[.int .i64 0, .int .i64 0, .int .u32 0]) 3 24 Tryd.underlying24 hi hz0 hz1 hz2 rfl (by decide) u6 k (bcs (sigK s.data.toList size k)) rfl ?own ⟨w4.heap.size, 0, none⟩ 1 1 [.int .i64 b.n, .int .i64 b.weak, .int .u32 b.strong] rfl rfl ?c1 ?c2 ?b1 ?b2 ?b3 ?next))
          case own => exact Hown4.out.alloc _
          case c1 => intro j u hj; match j, hj with | 0, hj | 1, hj | 2, hj => simp at hj; subst hj; simp [Addr.add]
          case c2 => intro u hu; simp at hu; rcases hu with rfl | rfl | rfl <;> rfl
          case b1 => unfold maxLen; omega
          case b2 => omega
          case b3 => have := Hb4.out.size; simp; omega
          case next =>
            intro v5 w5 hown5 hgrow5 _
            have hb5 : Below w1.heap.size w4 w5 := ((Below.refl _ _).alloc Hb4.out.size _).grown hgrow5 (by have := Hb4.out.size; simp; omega) (fun k hk => (Hown4.out.lt k hk).1)
            have Hb5 := hide (Hb4.out.trans hb5)
            have Hown5 := hide hown5
            clear hb5 hown5 hgrow5 Hown4 Hb4
            go_wp2_with fail
            go_roundw
            case rel =>
              refine ⟨k + 1, f + size, by go_num, by rw [Nat.succ_mul, Hf.out], by omega, ?_, Hb5.out⟩
              have h := Hown5.out
              rw [← hbv.out, ← bcs_snoc, ← Hsk.out] at h
              exact h
            case measure => simp [intOf]; omega
      · have hle : (s.size : Int) ≤ (f : Int) := by omega
        have hke : k = many s.size size := many_eq h1 (by rw [← Hf.out]; omega) (by rw [← Hf.out]; omega)
        go_wp2_with fail
        go_ret2
        refine ⟨_, rfl, ?_, Hb.out⟩
        have h := Hown.out
        rw [hke] at h
        unfold sigL
        rw [lenL]
        exact h
end Go.Proofs.YtcenohaadggdiacDoor

namespace Go.Proofs.YtcenohaadggdiacDoor
open Go.RowKit
open Go.Sign (Blk)

/-- A slice that reads as these blocks. -/
def RowIn (w : World) (v : Value) (l : List Blk) : Prop :=
  ∃ a c, v = .slice a l.length c ∧ (0 < l.length → ∃ b o, a = some ⟨b, o, none⟩ ∧ ∀ j (h : j < l.length), w.cell? ⟨b, o + j * 3, none⟩ = some (.int .i64 l[j].n) ∧ w.cell? ⟨b, o + j * 3 + 1, none⟩ = some (.int .i64 l[j].weak) ∧ w.cell? ⟨b, o + j * 3 + 2, none⟩ = some (.int .u32 l[j].strong))
theorem RowIn.below {w w' : World} {v : Value} {l : List Blk} (h : RowIn w v l) (hb : Below w.heap.size w w') : RowIn w' v l := by
  obtain ⟨a, c, rfl, h⟩ := h
  refine ⟨a, c, rfl, fun hp => ?_⟩
  obtain ⟨b, o, rfl, h'⟩ := h hp
  refine ⟨b, o, rfl, fun j hj => ?_⟩
  obtain ⟨h0, h1, h2⟩ := h' j hj
  exact ⟨(hb.cell (World.block_lt_of_cell? _ _ h0)).trans h0, (hb.cell (World.block_lt_of_cell? _ _ h1)).trans h1, (hb.cell (World.block_lt_of_cell? _ _ h2)).trans h2⟩
/-- A row that is owned reads as its blocks. -/
theorem RowIn.of_own {w : World} {base : Nat} {v : Value} {n : Nat} {l : List Blk} (h : w.ownsRow base 55 3 v n (bcs l)) : RowIn w v l := by
  have hl : l.length = n := by have := h.1; rw [bcs_length] at this; omega
  subst hl
  rcases h.2 with ⟨rfl, h0⟩ | ⟨g, c, cur, rfl, _⟩
  · exact ⟨none, 0, by rw [h0], fun hp => by omega⟩
  · refine ⟨_, c, rfl, fun _ => ⟨g, 0, rfl, fun j hj => ?_⟩⟩
    obtain ⟨h0, h1, h2⟩ := bcs_get l j hj
    have k0 := h.cells (g := g) rfl _ _ h0
    have k1 := h.cells (g := g) rfl _ _ h1
    have k2 := h.cells (g := g) rfl _ _ h2
    rw [Go.WideShapes.add_plain] at k0 k1 k2
    exact ⟨by simpa using k0, by simpa [Nat.add_assoc] using k1, by simpa [Nat.add_assoc] using k2⟩
end Go.Proofs.YtcenohaadggdiacDoor

namespace Go.Proofs.YtcenohaadggdiacDoor
open Go.RowKit

/-- The three errors that are met: what their variables hold. -/
structure EV where
  tT : TypeId
  xT : Value
  tB : TypeId
  xB : Value
  tF : TypeId
  xF : Value
/-- An error by its number. -/
def errV (e : EV) : Nat → Value
  | 0 => .nilIface
  | 1 => .iface e.tT e.xT
  | 2 => .iface e.tB e.xB
  | _ => .iface e.tF e.xF
end Go.Proofs.YtcenohaadggdiacDoor

namespace Go.Proofs.YtcenohaadggdiacDoor
open Go.RowKit
open Go.Sign (Blk)

structure Er (e : EV) (w : World) : Prop where
  text : w.cell? ⟨4, 0, none⟩ = some (.iface e.tT e.xT)
  bound : w.cell? ⟨0, 0, none⟩ = some (.iface e.tB e.xB)
  full : w.cell? ⟨3, 0, none⟩ = some (.iface e.tF e.xF)
theorem Er.below {e : EV} {w w' : World} (h : Er e w) (hb : Below w.heap.size w w') : Er e w' :=
  ⟨(hb.cell (World.block_lt_of_cell? _ _ h.text)).trans h.text, (hb.cell (World.block_lt_of_cell? _ _ h.bound)).trans h.bound, (hb.cell (World.block_lt_of_cell? _ _ h.full)).trans h.full⟩
/-- The two of them that a check meets. -/
structure Er2 (e : EV) (w : World) : Prop where
  bound : w.cell? ⟨0, 0, none⟩ = some (.iface e.tB e.xB)
  full : w.cell? ⟨3, 0, none⟩ = some (.iface e.tF e.xF)
theorem Er2.below {e : EV} {w w' : World} (h : Er2 e w) (hb : Below w.heap.size w w') : Er2 e w' :=
  ⟨(hb.cell (World.block_lt_of_cell? _ _ h.bound)).trans h.bound, (hb.cell (World.block_lt_of_cell? _ _ h.full)).trans h.full⟩
theorem Er.two {e : EV} {w : World} (h : Er e w) : Er2 e w := ⟨h.bound, h.full⟩
instance (e : EV) (w : World) : Coe (Er e w) (Er2 e w) := ⟨Er.two⟩
set_option maxHeartbeats 1000000 in
theorem hasSum_ok (b : Blk) (w : World) : Calls Tryd.prog 72 #[bval b] w fun r w' => r = .returned (.bool (decide (0 ≤ b.weak) && decide (b.weak < 4294967296))) ∧ Below w.heap.size w w' := by
  obtain ⟨n, k, c⟩ := b
  unfold bval
  by_cases h0 : 0 ≤ k
  · have h0' : decide (0 ≤ k) = true := by simp; omega
    go_enter Tryd.func72, Tryd.ntmps72
    go_wp2
    go_ret
    exact ⟨ret_bool (by simp [h0]), (Below.refl _ _).alloc (Nat.le_refl _) _⟩
  · have h0' : decide (0 ≤ k) = false := by simp; omega
    go_enter Tryd.func72, Tryd.ntmps72
    go_wp2
    go_ret
    exact ⟨ret_bool (by simp), (Below.refl _ _).alloc (Nat.le_refl _) _⟩

set_option maxHeartbeats 1000000 in
theorem hasBytes_ok (b : Blk) (size : Int) (last : Bool) (w : World) : Calls Tryd.prog 71 #[bval b, .int .i64 size, .bool last] w fun r w' => r = .returned (.bool (b.n == size || (last && decide (1 ≤ b.n) && decide (b.n < size)))) ∧ Below w.heap.size w w' := by
  obtain ⟨n, k, c⟩ := b
  unfold bval
  by_cases he : n = size
  · subst he
    go_enter Tryd.func71, Tryd.ntmps71
    go_wp2
    go_ret
    exact ⟨ret_bool (by simp), (Below.refl _ _).alloc (Nat.le_refl _) _⟩
  · have he' : (n == size) = false := by simpa using he
    clear he
    cases last
    · go_enter Tryd.func71, Tryd.ntmps71
      go_wp2
      go_ret
      exact ⟨ret_bool (by simp [he']), (Below.refl _ _).alloc (Nat.le_refl _) _⟩
    · by_cases h1 : 1 ≤ n
      · have h1' : decide (1 ≤ n) = true := by simp; omega
        go_enter Tryd.func71, Tryd.ntmps71
        go_wp2
        go_ret
        exact ⟨ret_bool (by simp [he', h1]), (Below.refl _ _).alloc (Nat.le_refl _) _⟩
      · have h1' : decide (1 ≤ n) = false := by simp; omega
        go_enter Tryd.func71, Tryd.ntmps71
        go_wp2
        go_ret
        exact ⟨ret_bool (by simp), (Below.refl _ _).alloc (Nat.le_refl _) _⟩

set_option maxHeartbeats 1000000 in
set_option maxRecDepth 100000 in
theorem wrong_size (v : Value) (l : List Blk) (size : Int) (e : EV) (w : World) (hv : RowIn w v l) (hs : ¬ (1 ≤ size ∧ size ≤ 64)) (he : Er2 e w) :
    Calls Tryd.prog 49 #[v, .int .i64 size] w fun r w' => r = .returned (.tuple #[.int .i64 (-1), .iface e.tB e.xB]) ∧ Below w.heap.size w w' := by
  have I := hide (fun W => isSize_ok size W)
  rw [show decide (1 ≤ size ∧ size ≤ 64) = false from decide_eq_false hs] at I
  obtain ⟨a, c, rfl, _⟩ := hv
  have hB := he.bound
  clear he hs
  go_enter Tryd.func49, Tryd.ntmps49
  go_wp2_with fail
  refine (I.out _).mono ?_
  rintro e1 w1 ⟨rfl, rfl⟩
  go_wp2_with fail
  go_quiet (fail)
  go_wp2
  go_ret2
  exact ⟨rfl, (Below.refl _ _).trans ⟨rfl, rfl, rfl, Nat.le_refl _, fun _ _ => rfl⟩⟩

/-- What the scan comes to, as firstWrong tells it. -/
def wrongOut : Option (Nat × Nat) → Int × Nat
  | none => (-1, 0)
  | some (i, c) => (i, c)

theorem scan_step (size : Int) (l : List Blk) (j : Nat) (all : Int) (h : j < l.length) : Go.Sign.scanW size (l.drop j) j all = if Go.Sign.fits size (decide (j + 1 = l.length)) l[j] then (if 4000 < all + l[j].n then some (j, 8) else Go.Sign.scanW size (l.drop (j + 1)) (j + 1) (all + l[j].n)) else some (j, 2) := by
  rw [List.drop_eq_getElem_cons h, Go.Sign.scanW]
  have : (l.drop (j + 1)).isEmpty = decide (j + 1 = l.length) := by
    rw [Bool.eq_iff_iff]
    simp
    omega
  rw [this]

set_option maxHeartbeats 1000000 in
set_option maxRecDepth 100000 in
theorem wrong_scan (v : Value) (l : List Blk) (size : Int) (e : EV) (w : World) (hv : RowIn w v l) (hs : 1 ≤ size ∧ size ≤ 64) (hl : l.length ≤ 1000000) (he : Er2 e w) :
    Calls Tryd.prog 49 #[v, .int .i64 size] w fun r w' => r = .returned (.tuple #[.int .i64 (wrongOut (Go.Sign.scanW size l 0 0)).1, errV e (wrongOut (Go.Sign.scanW size l 0 0)).2]) ∧ Below w.heap.size w w' := by
  have I := hide (fun W => isSize_ok size W)
  rw [show decide (1 ≤ size ∧ size ≤ 64) = true from decide_eq_true hs] at I
  obtain ⟨a, c, rfl, hv⟩ := hv
  have HV := hide hv
  have HE := hide he
  have hl' : (l.length : Int) ≤ 1000000 := by omega
  have s1 := hs.1
  have s2 := hs.2
  clear he hv hs
  generalize hR : Go.Sign.scanW size l 0 0 = R
  have HR := hide hR
  clear hR
  go_enter Tryd.func49, Tryd.ntmps49
  go_wp2_with fail
  refine (I.out _).mono ?_
  rintro e1 w1 ⟨rfl, rfl⟩
  go_wp2_with fail
  go_loopw [6, 15] (fun t6 t15 wr => ∃ (j : Nat) (all : Int), t15 = .int .i64 j ∧ t6 = .int .i64 all ∧ 0 ≤ all ∧ all ≤ 4000 ∧ j ≤ l.length ∧ Hid (Go.Sign.scanW size (l.drop j) j all = R) ∧ Hid (Below w1.heap.size w1 wr)) (fun _ t15 _ => l.length - (intOf t15).toNat)
  case atStart => exact ⟨0, 0, rfl, rfl, by omega, by omega, by omega, HR.out, Below.refl _ _⟩
  case round =>
    clear HR I
    obtain ⟨j, all, rfl, rfl, a0, a1, hj, Hsc, Hb⟩ := hrel
    by_cases hlt : j < l.length
    · have hlt' : (j : Int) < l.length := by omega
      obtain ⟨b, o, rfl, hc⟩ := HV.out (by omega)
      obtain ⟨c0, c1, c2⟩ := hc j hlt
      have c0 := (Hb.out.cell (World.block_lt_of_cell? _ _ c0)).trans c0
      have c1 := (Hb.out.cell (World.block_lt_of_cell? _ _ c1)).trans c1
      have c2 := (Hb.out.cell (World.block_lt_of_cell? _ _ c2)).trans c2
      clear hc
      have hq : (((j : Int) == (l.length : Int) - 1)) = decide (j + 1 = l.length) := by
        rw [Bool.eq_iff_iff]; simp; omega
      have Hs := hide (scan_step size l j all hlt)
      rw [← hq, Hsc.out] at Hs
      have HBy := hide (fun W => hasBytes_ok l[j] size ((j : Int) == (l.length : Int) - 1) W)
      have HSu := hide (fun W => hasSum_ok l[j] W)
      have Hf : Hid (Go.Sign.fits size ((j : Int) == (l.length : Int) - 1) l[j] = ((l[j].n == size || (((j : Int) == (l.length : Int) - 1) && decide (1 ≤ l[j].n) && decide (l[j].n < size))) && (decide (0 ≤ l[j].weak) && decide (l[j].weak < 4294967296)))) := rfl
      unfold bval at HBy HSu
      generalize l[j] = bk at *
      clear hq Hsc HV
      have hE := HE.out.below Hb.out
      have hB := hE.bound
      have hF := hE.full
      clear hE HE
      generalize hy : (bk.n == size || (((j : Int) == (l.length : Int) - 1) && decide (1 ≤ bk.n) && decide (bk.n < size))) = y at *
      generalize hz : (decide (0 ≤ bk.weak) && decide (bk.weak < 4294967296)) = z at *
      have Hy := hide hy
      have Hz := hide hz
      clear hy hz
      go_wp2_with fail
      refine (HBy.out _).mono ?_
      rintro e1 w2 ⟨rfl, hb2⟩
      have hk := (BkAt.fresh wr bk 55).below hb2 (by simp)
      have hbf := (((Below.refl wr.heap.size wr).alloc (Nat.le_refl _) (.cells #[.int .i64 bk.n, .int .i64 bk.weak, .int .u32 bk.strong] 55)).trans (hb2.mono (by simp)))
      have hB2 := (hbf.cell (World.block_lt_of_cell? _ _ hB)).trans hB
      have hF2 := (hbf.cell (World.block_lt_of_cell? _ _ hF)).trans hF
      have Hb2 := hide (bthen Hb.out hbf)
      have Hk := hide hk
      clear hb2 hbf HBy c0 c1 c2 hB hF
      obtain ⟨k0, k1, k2, _, _, _, _⟩ := hk
      cases y with
      | false =>
        have hR : R = some (j, 2) := by rw [Hs.out, Hf.out]; simp
        subst hR
        go_wp2_with fail
        go_quiet (fail)
        go_wp2
        go_ret2
        exact ⟨rfl, Hb2.out.trans ⟨rfl, rfl, rfl, Nat.le_refl _, fun _ _ => rfl⟩⟩
      | true =>
        go_wp2_with fail
        refine (HSu.out _).mono ?_
        rintro e1 w3 ⟨rfl, hb3⟩
        have hB3 := (hb3.cell (World.block_lt_of_cell? _ _ hB2)).trans hB2
        have hF3 := (hb3.cell (World.block_lt_of_cell? _ _ hF2)).trans hF2
        have Hb3 := hide (bthen Hb2.out hb3)
        have hk3 := Hk.out.below hb3 Hk.out.lt
        clear hb3 HSu hB2 hF2 k0 k1 k2
        obtain ⟨k0, k1, k2, _, _, _, _⟩ := hk3
        cases z with
        | false =>
          have hR : R = some (j, 2) := by rw [Hs.out, Hf.out]; simp
          subst hR
          go_wp2_with fail
          go_quiet (fail)
          go_wp2
          go_ret2
          exact ⟨rfl, Hb3.out.trans ⟨rfl, rfl, rfl, Nat.le_refl _, fun _ _ => rfl⟩⟩
        | true =>
          have hbd : 1 ≤ bk.n ∧ bk.n ≤ 64 := by
            have := Go.Sign.fits_bounds (size := size) (last := ((j : Int) == (l.length : Int) - 1)) (b := bk) (by rw [Hf.out]; rfl) s1
            omega
          have n0 := hbd.1
          have n1 := hbd.2
          clear hbd
          have hR := Hs.out
          rw [Hf.out] at hR
          simp only [Bool.and_true, if_true] at hR
          by_cases h4 : 4000 < all + bk.n
          · rw [if_pos h4] at hR
            subst hR
            go_wp2_with fail
            go_quiet (fail)
            go_wp2
            go_ret2
            exact ⟨rfl, Hb3.out.trans ⟨rfl, rfl, rfl, Nat.le_refl _, fun _ _ => rfl⟩⟩
          · rw [if_neg h4] at hR
            have HR := hide hR
            have h4' : all + bk.n ≤ 4000 := by omega
            clear hR h4
            go_wp2_with fail
            go_roundw
            case rel => exact ⟨j + 1, all + bk.n, by go_num, by go_num, by omega, by omega, by omega, HR.out.symm, Hb3.out⟩
            case measure => simp [intOf]; omega
    · have hle : (l.length : Int) ≤ (j : Int) := by omega
      have he : R = none := by rw [← Hsc.out, List.drop_eq_nil_of_le (by omega), Go.Sign.scanW]
      subst he
      go_wp2_with fail
      go_ret2
      exact ⟨rfl, Hb.out⟩
end Go.Proofs.YtcenohaadggdiacDoor
