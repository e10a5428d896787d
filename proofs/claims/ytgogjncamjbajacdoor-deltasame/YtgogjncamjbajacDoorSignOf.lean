/-
  Contract of sign.Of over this dump.
-/
import Derived.Test.YtgogjncamjbajacDoorBlocks
import Derived.OwnWalk
import Derived.WideShapes
import Derived.Deep.QuietTactic
import Derived.BigQuiet
namespace Go.Proofs.YtgogjncamjbajacDoor
open Go.RowKit
open Go.Sign (Blk)

theorem Tryd.info43 : (Tryd.prog.info? 43).map (fun i => (i.zero, i.size, i.bytes)) = some (some (.agg #[.int .i64 0, .int .i64 0, .int .u32 0]), 3, 24) := by kernel_rfl

/-- Blocks as cells. -/
def bcs (l : List Blk) : List Value := l.flatMap bcells
theorem bcs_snoc (l : List Blk) (b : Blk) : bcs (l ++ [b]) = bcs l ++ bcells b := by simp [bcs]
theorem bcs_length (l : List Blk) : (bcs l).length = l.length * 3 := by
  induction l with
  | nil => rfl
  | cons b l ih => rw [bcs, List.flatMap_cons, List.length_append, ← bcs, ih, List.length_cons]; simp [bcells]; omega
theorem bcs_get (l : List Blk) (j : Nat) (h : j < l.length) : (bcs l)[j * 3]? = some (.int .i64 l[j].n) ∧ (bcs l)[j * 3 + 1]? = some (.int .i64 l[j].weak) ∧ (bcs l)[j * 3 + 2]? = some (.int .u32 l[j].strong) := by
  induction l generalizing j with
  | nil => simp at h
  | cons b l ih =>
    have e : bcs (b :: l) = .int .i64 b.n :: .int .i64 b.weak :: .int .u32 b.strong :: bcs l := by simp [bcs, bcells]
    rw [e]
    cases j with
    | zero => simp
    | succ j =>
      have := ih j (by simpa using h)
      rw [show (j + 1) * 3 = j * 3 + 3 by omega]
      simpa using this

/-- How many blocks so many bytes make. -/
def many (len size : Nat) : Nat := (len + size - 1) / size
/-- The first k blocks of a file. -/
def sigK (l : List UInt8) (size k : Nat) : List Blk := (List.range k).map fun j => blk ((l.drop (j * size)).take size)
theorem sigK_succ (l : List UInt8) (size k : Nat) : sigK l size (k + 1) = sigK l size k ++ [blk ((l.drop (k * size)).take size)] := by simp [sigK, List.range_succ]
theorem sigK_length (l : List UInt8) (size k : Nat) : (sigK l size k).length = k := by simp [sigK]
/-- The signature of a file. -/
def sigL (l : List UInt8) (size : Nat) : List Blk := sigK l size (many l.length size)
theorem many_eq {len size k : Nat} (h1 : 1 ≤ size) (ha : len ≤ k * size) (hb : k * size < len + size) : k = many len size := by
  unfold many
  have h3 : k * size ≤ len + size - 1 := by omega
  have h4 : len + size - 1 < (k + 1) * size := by rw [Nat.succ_mul]; omega
  have a1 : k ≤ (len + size - 1) / size := (Nat.le_div_iff_mul_le (by omega)).2 h3
  have a2 : (len + size - 1) / size < k + 1 := (Nat.div_lt_iff_lt_mul (by omega)).2 h4
  omega
theorem many_le {len size : Nat} (h1 : 1 ≤ size) : many len size ≤ len := by
  unfold many
  have : (len + size - 1) / size < len + 1 := (Nat.div_lt_iff_lt_mul (by omega)).2 (by
    have : len + 1 ≤ (len + 1) * size := Nat.le_mul_of_pos_right _ h1
    have h2 : (len + 1) * size = len * size + size := Nat.succ_mul ..
    have h3 : len ≤ len * size := Nat.le_mul_of_pos_right _ h1
    omega)
  omega

set_option maxHeartbeats 1000000 in
set_option maxRecDepth 100000 in
theorem of_err (s : ByteArray) (size : Int) (t : TypeId) (x : Value) (w : World) (h : 4000 < s.size ∨ ¬ (1 ≤ size ∧ size ≤ 64)) (hB : w.cell? ⟨0, 0, none⟩ = some (.iface t x)) :
    Calls Tryd.prog 8 #[.string s, .int .i64 size] w fun r w' => r = .returned (.tuple #[.slice none 0 0, .iface t x]) ∧ Below w.heap.size w w' := by
  have I := hide (fun W => isSize_ok size W)
  by_cases hl : 4000 < s.size
  · have hl' : decide ((4000 : Int) < s.size) = true := by simp; omega
    clear h
    go_enter Tryd.func8, Tryd.ntmps8
    go_wp2_with fail
    go_quiet (fail)
    go_wp2
    go_ret2
    exact ⟨rfl, (Below.refl _ _).trans ⟨rfl, rfl, rfl, Nat.le_refl _, fun _ _ => rfl⟩⟩
  · have hl' : decide ((4000 : Int) < s.size) = false := by simp; omega
    have h2 : ¬ (1 ≤ size ∧ size ≤ 64) := h.resolve_left hl
    rw [show decide (1 ≤ size ∧ size ≤ 64) = false from decide_eq_false h2] at I
    clear h h2
    go_enter Tryd.func8, Tryd.ntmps8
    go_wp2_with fail
    refine (I.out _).mono ?_
    rintro e w1 ⟨rfl, rfl⟩
    go_wp2_with fail
    go_quiet (fail)
    go_wp2
    go_ret2
    exact ⟨rfl, (Below.refl _ _).trans ⟨rfl, rfl, rfl, Nat.le_refl _, fun _ _ => rfl⟩⟩

set_option maxHeartbeats 1000000 in
set_option maxRecDepth 100000 in
theorem of_ok (s : ByteArray) (size : Nat) (w : World) (hs : s.size ≤ 4000) (h1 : 1 ≤ size) (h2 : size ≤ 64) :
    Calls Tryd.prog 8 #[.string s, .int .i64 size] w fun r w' => ∃ v, r = .returned (.tuple #[v, .nilIface]) ∧ w'.ownsRow w.heap.size 43 3 v (many s.size size) (bcs (sigL s.data.toList size)) ∧ Below w.heap.size w w' := by
  obtain ⟨i0, hi, hz0, hz1, hz2⟩ := info_parts Tryd.info43
  have I := hide (fun W => isSize_ok size W)
  rw [show decide (1 ≤ (size : Int) ∧ (size : Int) ≤ 64) = true from decide_eq_true (by omega)] at I
  have hl' : decide ((4000 : Int) < s.size) = false := by simp; omega
  have hs' : (s.size : Int) ≤ 4000 := by omega
  have h1' : (1 : Int) ≤ size := by omega
  have h2' : (size : Int) ≤ 64 := by omega
  have hm : many s.size size ≤ 4000 := Nat.le_trans (many_le h1) hs
  have hq : Int.tdiv ((s.size : Int) + (size : Int) - 1) (size : Int) = ((many s.size size : Nat) : Int) := by
    unfold many
    rw [show (s.size : Int) + (size : Int) - 1 = ((s.size + size - 1 : Nat) : Int) by omega, Int.tdiv_eq_ediv_of_nonneg (by omega)]
    rfl
  go_enter Tryd.func8, Tryd.ntmps8
  go_wp2_with fail
  refine (I.out _).mono ?_
  rintro e w1 ⟨rfl, rfl⟩
  go_wp2_with (first | (at_make; refine wpList_make_own _ rfl _ _ 24 rfl w1.heap.size 43 i0 (.agg #[.int .i64 0, .int .i64 0, .int .u32 0]) 3 Tryd.underlying24 hi hz0 hz1 .i64 .i64 _ (many s.size size) rfl rfl ?m1 ?m2 ?m3 ?m4 ?next))
  case m1 => first | exact hq | (rw [← hq]; rfl) | simp
  case m2 => rw [hz2]; omega
  case m3 => unfold maxLen; omega
  case m4 => exact Nat.le_refl _
  case next =>
    intro w3 hown3 hgrow3
    have hb3 : Below w1.heap.size w1 w3 := (Below.refl _ _).grown hgrow3 (Nat.le_refl _) (fun k hk => by cases hk)
    have Hown3 := hide hown3
    have Hb3 := hide hb3
    clear hown3 hgrow3 hb3 hq hm I
    generalize many s.size size = cap at Hown3
    go_wp2_with fail
    go_loopw [6, 7] (fun t6 t7 wr => ∃ k f : Nat, t7 = .int .i64 f ∧ f = k * size ∧ f < s.size + size ∧ Hid (wr.ownsRow w1.heap.size 43 3 t6 k (bcs (sigK s.data.toList size k))) ∧ Hid (Below w1.heap.size w1 wr)) (fun _ t7 _ => s.size + size - (intOf t7).toNat)
    case atStart => exact ⟨0, 0, rfl, by simp, by omega, Hown3.out, Hb3.out⟩
    case round =>
      clear Hown3 Hb3
      obtain ⟨k, f, rfl, hf, hlt0, Hown, Hb⟩ := hrel
      have Hf := hide hf
      have hk : k ≤ f := by rw [hf]; exact Nat.le_mul_of_pos_right _ h1
      clear hf
      by_cases hlt : f < s.size
      · have hlt' : (f : Int) < s.size := by omega
        have hx : (s.extract f (min (f + size) s.size)).data.toList = (s.data.toList.drop (k * size)).take size := by
          rw [extractL, ← Hf.out]
          rcases Nat.le_total (f + size) s.size with h | h
          · rw [Nat.min_eq_left h, Nat.add_sub_cancel_left]
          · rw [Nat.min_eq_right h]
            rw [List.take_of_length_le (by rw [List.length_drop, lenL]; omega), List.take_of_length_le (by rw [List.length_drop, lenL]; omega)]
        have HBk := hide (fun W y (hy : y = min (f + size) s.size) => (show Calls Tryd.prog 19 #[.string (s.extract f y)] W fun r w' => r = .returned (bval (blk (s.extract f (min (f + size) s.size)).data.toList)) ∧ Below W.heap.size W w' from hy ▸ blockOf_ok (s.extract f (min (f + size) s.size)) W (by rw [ByteArray.size_extract]; omega)))
        rw [hx] at HBk
        have hbv : Hid (bcells (blk ((s.data.toList.drop (k * size)).take size)) = [.int .i64 (blk ((s.data.toList.drop (k * size)).take size)).n, .int .i64 (blk ((s.data.toList.drop (k * size)).take size)).weak, .int .u32 (blk ((s.data.toList.drop (k * size)).take size)).strong]) := rfl
        unfold bval at HBk
        clear hx
        have Hsk := hide (sigK_succ s.data.toList size k)
        generalize blk ((s.data.toList.drop (k * size)).take size) = b at *
        go_wp2_with fail
        all_goals
          refine (HBk.out _ _ (by omega)).mono ?_
          rintro e w4 ⟨rfl, hb4⟩
          have Hown4 := hide (own_below Hown.out hb4)
          have Hb4 := hide (bthen Hb.out hb4)
          clear hb4 HBk
          go_wp2_with (first | (at_builtin; refine wpList_append_own _ rfl (.tmp 32) (.tmp 43) 24 rfl w1.heap.size 43 i0 (.agg #[.int .i64 0, .int .i64 0, .int .u32 0]) 3 24 Tryd.underlying24 hi hz0 hz1 hz2 rfl (by decide) u6 k (bcs (sigK s.data.toList size k)) rfl ?own ⟨w4.heap.size, 0, none⟩ 1 1 [.int .i64 b.n, .int .i64 b.weak, .int .u32 b.strong] rfl rfl ?c1 ?c2 ?b1 ?b2 ?b3 ?next))
          case own => exact Hown4.out.alloc _
          case c1 => intro j u hj; match j, hj with | 0, hj | 1, hj | 2, hj => simp at hj; subst hj; simp [Addr.add]
          case c2 => intro u hu; simp at hu; rcases hu with rfl | rfl | rfl <;> rfl
          case b1 => unfold maxLen; omega
          case b2 => omega
          case b3 => have := Hb4.out.size; simp; omega
          case next =>
            intro v5 w5 hown5 hgrow5 _
            have hb5 : Below w1.heap.size w4 w5 := ((Below.refl _ _).alloc Hb4.out.size _).grown hgrow5 (by have := Hb4.out.size; simp; omega) (fun k hk => (Hown4.out.lt k hk).1)
            have Hb5 := hide (Hb4.out.trans hb5)
            have Hown5 := hide hown5
            clear hb5 hown5 hgrow5 Hown4 Hb4
            go_wp2_with fail
            go_roundw
            case rel =>
              refine ⟨k + 1, f + size, by go_num, by rw [Nat.succ_mul, Hf.out], by omega, ?_, Hb5.out⟩
              have h := Hown5.out
              rw [← hbv.out, ← bcs_snoc, ← Hsk.out] at h
              exact h
            case measure => simp [intOf]; omega
      · have hle : (s.size : Int) ≤ (f : Int) := by omega
        have hke : k = many s.size size := many_eq h1 (by rw [← Hf.out]; omega) (by rw [← Hf.out]; omega)
        go_wp2_with fail
        go_ret2
        refine ⟨_, rfl, ?_, Hb.out⟩
        have h := Hown.out
        rw [hke] at h
        unfold sigL
        rw [lenL]
        exact h
end Go.Proofs.YtgogjncamjbajacDoor
