/-
  Contracts of the document's answer for signatures over this dump: BlocksOf, SizeOf, Fine, Bare, SignFault, FindOf.
-/
import Derived.Test.YtgcpljgdeoeppabDoorFind
import Derived.Test.YtgcpljgdeoeppabDoorWrong
import Derived.Test.YtgcpljgdeoeppabDoorRefWeakOf
import Derived.Test.YtgcpljgdeoeppabDoorRefSumOf
namespace Go.Proofs.YtgcpljgdeoeppabDoor
open Go.RowKit
open Go.Sign (Blk)

set_option maxHeartbeats 1000000 in
set_option maxRecDepth 100000 in
theorem rsize_ok (n : Int) (w : World) : Calls Tryd.prog 29 #[.int .i64 n] w fun r w' => r = .returned (.int .i64 (sizeOut n)) ∧ w' = w := by
  go_enter Tryd.func29, Tryd.ntmps29
  go_wp2_with fail
  go_loop [3] (fun t => ∃ k : Int, t = .int .i64 k ∧ Hid ((k = 4) ∨ (k = 8 ∧ 16 < n) ∨ (k = 16 ∧ 64 < n) ∨ (k = 32 ∧ 256 < n) ∨ (k = 64 ∧ 1024 < n))) (fun t => 64 - (intOf t).toNat)
  case atStart => exact ⟨4, rfl, Or.inl rfl⟩
  case round =>
    obtain ⟨k, rfl, Hk⟩ := hrel
    rcases Hk.out with rfl | ⟨rfl, h⟩ | ⟨rfl, h⟩ | ⟨rfl, h⟩ | ⟨rfl, h⟩
    · by_cases hlt : 16 < n
      · have hlt' : decide (n ≤ (16 : Int)) = false := by simp; omega
        go_wp2_with fail
        go_round
        case rel => exact ⟨8, rfl, by unfold Hid; omega⟩
        case measure => simp [intOf]
      · have hlt' : decide (n ≤ (16 : Int)) = true := by simp; omega
        have e : sizeOut n = 4 := by unfold sizeOut; repeat' split <;> omega
        go_wp2_with fail
        go_ret
        exact ⟨rfl, rfl⟩
    · by_cases hlt : 64 < n
      · have hlt' : decide (n ≤ (64 : Int)) = false := by simp; omega
        go_wp2_with fail
        go_round
        case rel => exact ⟨16, rfl, by unfold Hid; omega⟩
        case measure => simp [intOf]
      · have hlt' : decide (n ≤ (64 : Int)) = true := by simp; omega
        have e : sizeOut n = 8 := by unfold sizeOut; repeat' split <;> omega
        go_wp2_with fail
        go_ret
        exact ⟨rfl, rfl⟩
    · by_cases hlt : 256 < n
      · have hlt' : decide (n ≤ (256 : Int)) = false := by simp; omega
        go_wp2_with fail
        go_round
        case rel => exact ⟨32, rfl, by unfold Hid; omega⟩
        case measure => simp [intOf]
      · have hlt' : decide (n ≤ (256 : Int)) = true := by simp; omega
        have e : sizeOut n = 16 := by unfold sizeOut; repeat' split <;> omega
        go_wp2_with fail
        go_ret
        exact ⟨rfl, rfl⟩
    · by_cases hlt : 1024 < n
      · have hlt' : decide (n ≤ (1024 : Int)) = false := by simp; omega
        go_wp2_with fail
        go_round
        case rel => exact ⟨64, rfl, by unfold Hid; omega⟩
        case measure => simp [intOf]
      · have hlt' : decide (n ≤ (1024 : Int)) = true := by simp; omega
        have e : sizeOut n = 32 := by unfold sizeOut; repeat' split <;> omega
        go_wp2_with fail
        go_ret
        exact ⟨rfl, rfl⟩
    · have e : sizeOut n = 64 := by unfold sizeOut; repeat' split <;> omega
      go_wp2_with fail
      go_ret
      exact ⟨rfl, rfl⟩

/-- A fault of the document's answer: an error's number and where. -/
def fval (f : Nat × Int) : Value := .agg #[.int .i64 f.1, .int .i64 f.2]

set_option maxHeartbeats 1000000 in
set_option maxRecDepth 100000 in
theorem fine_ok (w : World) : Calls Tryd.prog 41 #[] w fun r w' => r = .returned (.agg #[.int .i64 0, .int .i64 (-1)]) ∧ Below w.heap.size w w' := by
  go_enter Tryd.func41, Tryd.ntmps41
  go_wp2
  (try simp only [Exit.inBlock, Exit.then])
  refine bodyPost_ret (v := .agg #[.int .i64 0, .int .i64 (-1)]) ?_ rfl ⟨rfl, (Below.refl _ _).alloc (Nat.le_refl _) _⟩
  simp only [results, show Tryd.f41.results = #[.cell 0 45] from rfl]
  go_simp

set_option maxHeartbeats 1000000 in
set_option maxRecDepth 100000 in
theorem bare_ok (c : Int) (w : World) : Calls Tryd.prog 39 #[.int .i64 c] w fun r w' => r = .returned (.agg #[.int .i64 c, .int .i64 (-1)]) ∧ Below w.heap.size w w' := by
  go_enter Tryd.func39, Tryd.ntmps39
  go_wp2
  (try simp only [Exit.inBlock, Exit.then])
  refine bodyPost_ret (v := .agg #[.int .i64 c, .int .i64 (-1)]) ?_ rfl ⟨rfl, (Below.refl _ _).alloc (Nat.le_refl _) _⟩
  simp only [results, show Tryd.f39.results = #[.cell 2 45] from rfl]
  go_simp

set_option maxHeartbeats 1000000 in
set_option maxRecDepth 100000 in
theorem blocksOf_ok (s : ByteArray) (size : Nat) (w : World) (hs : s.size ≤ 4000) (h1 : 1 ≤ size) (h2 : size ≤ 64) :
    Calls Tryd.prog 19 #[.string s, .int .i64 size] w fun r w' => ∃ v, r = .returned v ∧ w'.ownsRow w.heap.size 60 3 v (many s.size size) (bcs (sigL s.data.toList size)) ∧ Below w.heap.size w w' := by
  obtain ⟨i0, hi, hz0, hz1, hz2⟩ := info_parts Tryd.info60
  have hs' : (s.size : Int) ≤ 4000 := by omega
  have h1' : (1 : Int) ≤ size := by omega
  have h2' : (size : Int) ≤ 64 := by omega
  go_enter Tryd.func19, Tryd.ntmps19
  go_wp2_with fail
  go_loopw [5, 6] (fun t5 t6 wr => ∃ k f : Nat, t6 = .int .i64 f ∧ f = k * size ∧ f < s.size + size ∧ Hid (wr.ownsRow w.heap.size 60 3 t5 k (bcs (sigK s.data.toList size k))) ∧ Hid (Below w.heap.size w wr)) (fun _ t6 _ => s.size + size - (intOf t6).toNat)
  case atStart => exact ⟨0, 0, rfl, by simp, by omega, World.ownsRow_nil _ _ _ _, Below.refl _ _⟩
  case round =>
    obtain ⟨k, f, rfl, hf, hlt0, Hown, Hb⟩ := hrel
    have Hf := hide hf
    have hk : k ≤ f := by rw [hf]; exact Nat.le_mul_of_pos_right _ h1
    clear hf
    by_cases hlt : f < s.size
    · have hlt' : (f : Int) < s.size := by omega
      have hx : ∀ y, y = min (f + size) s.size → (s.extract f y).data.toList = (s.data.toList.drop (k * size)).take size := by
        intro y hy
        subst hy
        rw [extractL, ← Hf.out]
        rcases Nat.le_total (f + size) s.size with h | h
        · rw [Nat.min_eq_left h, Nat.add_sub_cancel_left]
        · rw [Nat.min_eq_right h]
          rw [List.take_of_length_le (by rw [List.length_drop, lenL]; omega), List.take_of_length_le (by rw [List.length_drop, lenL]; omega)]
      have HWk : Hid (∀ W y, y = min (f + size) s.size → Calls Tryd.prog 38 #[.string (s.extract f y)] W fun r w' => r = .returned (.int .i64 (wk ((s.data.toList.drop (k * size)).take size))) ∧ w' = W) := fun W y hy => by
        have := weakOf_ok (s.extract f y) W (by rw [ByteArray.size_extract]; omega)
        rw [hx y hy] at this
        exact this
      have HSk : Hid (∀ W y, y = min (f + size) s.size → Calls Tryd.prog 10 #[.string (s.extract f y)] W fun r w' => r = .returned (.int .i64 (Go.Crc.crc 0 ((s.data.toList.drop (k * size)).take size) : Nat)) ∧ w' = W) := fun W y hy => by
        have := sumOf_ok (s.extract f y) W (by rw [ByteArray.size_extract]; omega)
        rw [hx y hy] at this
        exact this
      have hcl := Go.Crc.crc_lt 0 ((s.data.toList.drop (k * size)).take size) (by decide)
      have hll : ((s.data.toList.drop (k * size)).take size).length = min (f + size) s.size - f := by
        rw [List.length_take, List.length_drop, lenL, ← Hf.out]; omega
      have Hsk := hide (sigK_succ s.data.toList size k)
      have Hbk : Hid (bcells (blk ((s.data.toList.drop (k * size)).take size)) = [.int .i64 ((min (f + size) s.size - f : Nat) : Int), .int .i64 (wk ((s.data.toList.drop (k * size)).take size)), .int .u32 (Go.Crc.crc 0 ((s.data.toList.drop (k * size)).take size) : Nat)]) := by
        rw [← hll]; rfl
      clear hx hll
      generalize blk ((s.data.toList.drop (k * size)).take size) = b at *
      generalize wk ((s.data.toList.drop (k * size)).take size) = k0 at *
      generalize Go.Crc.crc 0 ((s.data.toList.drop (k * size)).take size) = c0 at *
      have hc1 : (c0 : Int) % 4294967296 = (c0 : Int) := by omega
      have hc2 : (c0 : Int) < 4294967296 := by omega
      by_cases hle : f + size ≤ s.size
      · have hg : decide ((s.size : Int) < (f : Int) + (size : Int)) = false := by simp; omega
        have hg' : (f : Int) + (size : Int) ≤ s.size := by omega
        have hmn : min (f + size) s.size = f + size := by omega
        rw [hmn] at HWk HSk Hbk
        rw [show f + size - f = size by omega] at Hbk
        clear hcl hmn
        go_wp2_with fail
        refine (HWk.out _ _ (by omega)).mono ?_
        rintro r w1 ⟨rfl, rfl⟩
        go_wp2_with fail
        refine (HSk.out _ _ (by omega)).mono ?_
        rintro r w2 ⟨rfl, rfl⟩
        go_wp2_with (first | (at_builtin; refine wpList_append_own _ rfl (.tmp 29) (.tmp 38) 35 rfl w.heap.size 60 i0 (.agg #[.int .i64 0, .int .i64 0, .int .u32 0]) 3 24 Tryd.underlying35 hi hz0 hz1 hz2 rfl (by decide) u5 k (bcs (sigK s.data.toList size k)) rfl ?own ⟨w2.heap.size, 0, none⟩ 1 1 [.int .i64 (size : Int), .int .i64 k0, .int .u32 c0] rfl rfl ?c1 ?c2 ?b1 ?b2 ?b3 ?next))
        case own => exact Hown.out.alloc _
        case c1 => intro j u hj; match j, hj with | 0, hj | 1, hj | 2, hj => simp at hj; subst hj; simp [Addr.add]
        case c2 => intro u hu; simp at hu; rcases hu with rfl | rfl | rfl <;> rfl
        case b1 => unfold maxLen; omega
        case b2 => omega
        case b3 => have := Hb.out.size; simp; omega
        case next =>
          intro v5 w5 hown5 hgrow5 _
          have hb5 : Below w.heap.size w2 w5 := ((Below.refl _ _).alloc Hb.out.size _).grown hgrow5 (by have := Hb.out.size; simp; omega) (fun k hk => (Hown.out.lt k hk).1)
          have Hb5 := hide (Hb.out.trans hb5)
          have Hown5 := hide hown5
          clear hb5 hown5 hgrow5 Hown Hb
          go_wp2_with fail
          go_roundw
          case rel =>
            refine ⟨k + 1, f + size, by go_num, by rw [Nat.succ_mul, Hf.out], by omega, ?_, Hb5.out⟩
            have h := Hown5.out
            rw [← Hbk.out, ← bcs_snoc, ← Hsk.out] at h
            exact h
          case measure => simp [intOf]; omega
      · have hg : decide ((s.size : Int) < (f : Int) + (size : Int)) = true := by simp; omega
        have hmn : min (f + size) s.size = s.size := by omega
        rw [hmn] at HWk HSk Hbk
        clear hcl hmn
        go_wp2_with fail
        refine (HWk.out _ _ (by omega)).mono ?_
        rintro r w1 ⟨rfl, rfl⟩
        go_wp2_with fail
        refine (HSk.out _ _ (by omega)).mono ?_
        rintro r w2 ⟨rfl, rfl⟩
        go_wp2_with (first | (at_builtin; refine wpList_append_own _ rfl (.tmp 29) (.tmp 38) 35 rfl w.heap.size 60 i0 (.agg #[.int .i64 0, .int .i64 0, .int .u32 0]) 3 24 Tryd.underlying35 hi hz0 hz1 hz2 rfl (by decide) u5 k (bcs (sigK s.data.toList size k)) rfl ?own ⟨w2.heap.size, 0, none⟩ 1 1 [.int .i64 ((s.size - f : Nat) : Int), .int .i64 k0, .int .u32 c0] rfl rfl ?c1 ?c2 ?b1 ?b2 ?b3 ?next))
        case own => exact Hown.out.alloc _
        case c1 => intro j u hj; match j, hj with | 0, hj | 1, hj | 2, hj => simp at hj; subst hj; simp [Addr.add]
        case c2 => intro u hu; simp at hu; rcases hu with rfl | rfl | rfl <;> rfl
        case b1 => unfold maxLen; omega
        case b2 => omega
        case b3 => have := Hb.out.size; simp; omega
        case next =>
          intro v5 w5 hown5 hgrow5 _
          have hb5 : Below w.heap.size w2 w5 := ((Below.refl _ _).alloc Hb.out.size _).grown hgrow5 (by have := Hb.out.size; simp; omega) (fun k hk => (Hown.out.lt k hk).1)
          have Hb5 := hide (Hb.out.trans hb5)
          have Hown5 := hide hown5
          clear hb5 hown5 hgrow5 Hown Hb
          go_wp2_with fail
          go_roundw
          case rel =>
            refine ⟨k + 1, f + size, by go_num, by rw [Nat.succ_mul, Hf.out], by omega, ?_, Hb5.out⟩
            have h := Hown5.out
            rw [← Hbk.out, ← bcs_snoc, ← Hsk.out] at h
            exact h
          case measure => simp [intOf]; omega
    · have hle : (s.size : Int) ≤ (f : Int) := by omega
      have hke : k = many s.size size := many_eq h1 (by rw [← Hf.out]; omega) (by rw [← Hf.out]; omega)
      go_wp2_with fail
      go_ret
      refine ⟨_, rfl, ?_, Hb.out⟩
      have h := Hown.out
      rw [hke] at h
      unfold sigL
      rw [lenL]
      exact h
end Go.Proofs.YtgcpljgdeoeppabDoor
