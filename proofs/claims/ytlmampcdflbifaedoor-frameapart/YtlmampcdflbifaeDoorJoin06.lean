/-
  Contracts of sum.divide, sum.More, sum.Sum over this dump; what the model spells for the bits of numbers.
  Plain mathematics of a bit that is turned: the sums of the two texts; a text's bytes as a slice of memory, changed at one place, and back.
  Contract of frame.seal over this dump.
  Contract of frame.Check over this dump.
  Contract of the writer's Byte over this dump.
-/
import Derived.Test.YtlmampcdflbifaeDoorJoin01
import Derived.Test.YtlmampcdflbifaeDoorJoin02
import Derived.Laws.BitsAllLaws
import Derived.Laws.IdiomStrings
import Derived.Test.YtlmampcdflbifaeDoorJoin03
import Derived.Test.YtlmampcdflbifaeDoorJoin04
namespace Go.Proofs.YtlmampcdflbifaeDoor
open Go.RowKit

theorem i64_xor_nat (a b : Nat) (ha : a < 9223372036854775808) (hb : b < 9223372036854775808) : bits .xor .i64 (a : Int) (b : Int) = ((a ^^^ b : Nat) : Int) := by
  have hx : a ^^^ b < 2 ^ 63 := Nat.xor_lt_two_pow (by omega) (by omega)
  have h1 : (BitVec.ofInt 64 (a : Int)).toNat = a := by
    rw [BitVec.ofInt_natCast, BitVec.toNat_ofNat]; exact Nat.mod_eq_of_lt (by omega)
  have h2 : (BitVec.ofInt 64 (b : Int)).toNat = b := by
    rw [BitVec.ofInt_natCast, BitVec.toNat_ofNat]; exact Nat.mod_eq_of_lt (by omega)
  show IntKind.i64.wrap ((BitVec.ofInt 64 (a : Int) ^^^ BitVec.ofInt 64 (b : Int)).toNat : Int) = _
  rw [BitVec.toNat_xor, h1, h2, IntKind.wrap_i64]
  omega
theorem i64_and_nat (a b : Nat) (ha : a < 9223372036854775808) (hb : b < 9223372036854775808) : bits .and .i64 (a : Int) (b : Int) = ((a &&& b : Nat) : Int) := by
  have hx : a &&& b < 2 ^ 63 := Nat.and_lt_two_pow _ (by omega)
  have h1 : (BitVec.ofInt 64 (a : Int)).toNat = a := by
    rw [BitVec.ofInt_natCast, BitVec.toNat_ofNat]; exact Nat.mod_eq_of_lt (by omega)
  have h2 : (BitVec.ofInt 64 (b : Int)).toNat = b := by
    rw [BitVec.ofInt_natCast, BitVec.toNat_ofNat]; exact Nat.mod_eq_of_lt (by omega)
  show IntKind.i64.wrap ((BitVec.ofInt 64 (a : Int) &&& BitVec.ofInt 64 (b : Int)).toNat : Int) = _
  rw [BitVec.toNat_and, h1, h2, IntKind.wrap_i64]
  omega
theorem ret_u32 {a b : Int} (h : a = b) : Ending.returned (.int .u32 a) = .returned (.int .u32 b) := by rw [h]

theorem u32_sh (x : Nat) (hx : x < 2 ^ 32) : bits .xor .u32 ((x : Int) / 2) (3988292384 * bits .and .u32 (x : Int) 1 % 4294967296) = (Go.Crc.sh x : Nat) := by
  have e1 : bits .and .u32 (x : Int) 1 = ((x % 2 : Nat) : Int) := by
    rw [show (1 : Int) = ((1 : Nat) : Int) from rfl, u32_and_nat x 1 hx (by omega), nat_mask1]
  rw [e1, show (x : Int) / 2 = ((x / 2 : Nat) : Int) by omega, show (3988292384 * ((x % 2 : Nat) : Int) % 4294967296) = ((3988292384 * (x % 2) : Nat) : Int) by omega, u32_xor_nat _ _ (by omega) (by omega)]
  rfl

set_option maxHeartbeats 1000000 in
set_option maxRecDepth 100000 in
theorem divide_ok (c : Nat) (w : World) (hc : c < 4294967296) : Calls Tryd.prog 38 #[.int .u32 c] w fun r w' => r = .returned (.int .u32 (Go.Crc.shs 8 c : Nat)) ∧ w' = w := by
  go_enter Tryd.func38, Tryd.ntmps38
  go_wp2_with fail
  go_loop [0, 3] (fun t0 t3 => ∃ i : Nat, t3 = .int .i64 i ∧ i ≤ 8 ∧ t0 = .int .u32 (Go.Crc.shs i c : Nat)) (fun _ t3 => 8 - (intOf t3).toNat)
  case atStart => exact ⟨0, rfl, by omega, rfl⟩
  case round =>
    obtain ⟨i, rfl, hi, rfl⟩ := hrel
    have hx := Go.Crc.shs_lt i c hc
    have He : Hid (Go.Crc.sh (Go.Crc.shs i c) = Go.Crc.shs (i + 1) c) := rfl
    by_cases hlt : i < 8
    · have hlt' : (i : Int) < 8 := by omega
      generalize Go.Crc.shs i c = x at *
      go_wp2_with fail
      go_round
      case rel => exact ⟨i + 1, by go_num, by omega, by rw [u32_sh x hx, He.out]⟩
      case measure => simp [intOf]; omega
    · have hle : (8 : Int) ≤ i := by omega
      obtain rfl : i = 8 := by omega
      go_wp2_with fail
      go_ret
      exact ⟨rfl, rfl⟩

theorem u32_not (c : Nat) (hc : c < 4294967296) : bits .xor .u32 IntKind.u32.max (c : Int) = ((c ^^^ Go.Crc.ones : Nat) : Int) := by
  rw [show IntKind.u32.max = ((Go.Crc.ones : Nat) : Int) from rfl, u32_xor_nat _ _ Go.Crc.ones_lt hc, Nat.xor_comm]

set_option maxHeartbeats 1000000 in
set_option maxRecDepth 100000 in
theorem more_ok (c : Nat) (s : ByteArray) (w : World) (hc : c < 4294967296) (hs : s.size ≤ 1000000) : Calls Tryd.prog 29 #[.int .u32 c, .string s] w fun r w' => r = .returned (.int .u32 (Go.Crc.crc c s.data.toList : Nat)) ∧ w' = w := by
  have hs' : (s.size : Int) ≤ 1000000 := by omega
  have hsg : IntKind.u32.signed = false := rfl
  have hnot := u32_not c hc
  have hc1 : c ^^^ Go.Crc.ones < 2 ^ 32 := Nat.xor_lt_two_pow hc Go.Crc.ones_lt
  have Hc : Hid (Go.Crc.crc c s.data.toList = Go.Crc.run (c ^^^ Go.Crc.ones) s.data.toList ^^^ Go.Crc.ones) := rfl
  generalize c ^^^ Go.Crc.ones = d at *
  go_enter Tryd.func29, Tryd.ntmps29
  go_wp2_with fail
  go_loop [0, 5] (fun t0 t5 => ∃ i : Nat, t5 = .int .i64 i ∧ i ≤ s.size ∧ t0 = .int .u32 (Go.Crc.run d (s.data.toList.take i) : Nat)) (fun _ t5 => s.size - (intOf t5).toNat)
  case atStart => exact ⟨0, rfl, by omega, rfl⟩
  case round =>
    obtain ⟨i, rfl, hi, rfl⟩ := hrel
    have hx : Go.Crc.run d (s.data.toList.take i) < 2 ^ 32 := Go.Crc.run_lt _ _ hc1
    by_cases hlt : i < s.size
    · have hlt' : (i : Int) < s.size := by omega
      have hb := byte_lt s[i]
      have hn := Go.Crc.run_snoc d (s.data.toList.take i) s[i]
      rw [← takeL s i hlt] at hn
      have He := hide hn
      clear hn
      generalize Go.Crc.run d (s.data.toList.take i) = x at *
      have hxb : x ^^^ s[i].toNat < 2 ^ 32 := Nat.xor_lt_two_pow hx (by omega)
      have hxe : bits .xor .u32 (x : Int) (s[i].toNat : Int) = ((x ^^^ s[i].toNat : Nat) : Int) := u32_xor_nat _ _ hx (by omega)
      have HD := hide (fun W => divide_ok (x ^^^ s[i].toNat) W hxb)
      go_wp2_with fail
      refine (HD.out _).mono ?_
      rintro e w1 ⟨rfl, rfl⟩
      go_wp2_with fail
      go_round
      case rel => exact ⟨i + 1, by go_num, by omega, by rw [He.out]⟩
      case measure => simp [intOf]; omega
    · have hle : (s.size : Int) ≤ i := by omega
      obtain rfl : i = s.size := by omega
      have ht : s.data.toList.take s.size = s.data.toList := by rw [← lenL s, List.take_length]
      rw [ht] at hx ⊢
      have hn2 := u32_not _ hx
      rw [← Hc.out] at hn2
      clear ht Hc
      generalize Go.Crc.run d s.data.toList = x at *
      go_wp2_with fail
      go_ret
      exact ⟨rfl, rfl⟩

set_option maxHeartbeats 1000000 in
theorem sum_ok (s : ByteArray) (w : World) (hs : s.size ≤ 1000000) : Calls Tryd.prog 20 #[.string s] w fun r w' => r = .returned (.int .u32 (Go.Crc.crc 0 s.data.toList : Nat)) ∧ w' = w := by
  have H := hide (fun W => more_ok 0 s W (by omega) hs)
  generalize Go.Crc.crc 0 s.data.toList = x at *
  go_enter Tryd.func20, Tryd.ntmps20
  go_wp2_with fail
  refine (H.out _).mono ?_
  rintro e w1 ⟨rfl, rfl⟩
  go_wp2_with fail
  go_ret
  exact ⟨rfl, rfl⟩
end Go.Proofs.YtlmampcdflbifaeDoor

namespace Go.Proofs.YtlmampcdflbifaeDoor
open Go.RowKit

theorem set_parts (l : List UInt8) (i : Nat) (d : UInt8) (hi : i < l.length) : l = l.take i ++ l[i] :: l.drop (i + 1) ∧ l.set i d = l.take i ++ d :: l.drop (i + 1) := by
  constructor
  · rw [← List.drop_eq_getElem_cons hi, List.take_append_drop]
  · rw [List.set_eq_take_append_cons_drop, if_pos hi]

theorem turned (l : List UInt8) (i p : Nat) (d : UInt8) (hi : i < l.length) (hd : l[i].toNat ^^^ d.toNat = p) (hp0 : p ≠ 0) (hp : p < 256) :
    Go.Crc.crc 0 l ≠ Go.Crc.crc 0 (l.set i d) ∧ Go.Crc.crc 0 (l.take (i + 1)) ≠ Go.Crc.crc 0 ((l.set i d).take (i + 1)) ∧
    Go.Crc.shs (8 * (l.length - (i + 1))) (Go.Crc.crc 0 (l.take (i + 1))) ^^^ Go.Crc.shs (8 * (l.length - (i + 1))) (Go.Crc.crc 0 ((l.set i d).take (i + 1))) = Go.Crc.crc 0 l ^^^ Go.Crc.crc 0 (l.set i d) := by
  obtain ⟨e1, e2⟩ := set_parts l i d hi
  have h1 := Go.Crc.crc_turn (l.take i) (l.drop (i + 1)) l[i] d
  have h2 := Go.Crc.crc_turn (l.take i) [] l[i] d
  rw [← e1, ← e2, hd, List.length_drop] at h1
  have t1 : l.take (i + 1) = l.take i ++ [l[i]] := List.take_succ_eq_append_getElem hi
  have t2 : (l.set i d).take (i + 1) = l.take i ++ [d] := by
    rw [List.take_succ_eq_append_getElem (by simpa using hi), List.getElem_set_self, List.take_set_of_le (Nat.le_refl _)]
  rw [← t1, ← t2, hd] at h2
  have hp32 : p < 2 ^ 32 := by omega
  have n1 := Go.Crc.shs_ne 8 p hp32 hp0
  refine ⟨Go.Crc.xor_ne ?_, Go.Crc.xor_ne ?_, ?_⟩
  · rw [h1]; exact Go.Crc.shs_ne _ _ (Go.Crc.shs_lt 8 p hp32) n1
  · rw [h2]; exact Go.Crc.shs_ne _ _ (Go.Crc.shs_lt 8 p hp32) n1
  · rw [← Go.Crc.shs_xor, h2, h1]; rfl

/-- A text as bytes of its own. -/
theorem bytes_of (w : World) (s : ByteArray) : ∃ cap W1, (convert 9 32 (.string s)).run Tryd.prog w = .ok (.slice (some ⟨w.heap.size, 0, none⟩) s.size cap) W1 ∧ Below w.heap.size w W1 ∧
    ∀ j (h : j < s.size), W1.cell? ⟨w.heap.size, j, none⟩ = some (.int .u8 (s[j].toNat : Nat)) ∧ W1.frozen? ⟨w.heap.size, j, none⟩ = false := by
  refine ⟨_, _, run_bytes_of_string w _ _ _ s Tryd.underlying9 Tryd.underlying32 Tryd.underlying5, ((Below.refl _ _).drew).alloc (Nat.le_refl _) _, ?_⟩
  intro j h
  have hb : (w.drew.alloc (.cells (bytesRow s (grownCap w s.size 0 5)) 5 ((bytesRow s (grownCap w s.size 0 5)).size, (bytesRow s (grownCap w s.size 0 5)).size + 1))).heap[w.heap.size]? = some (.cells (bytesRow s (grownCap w s.size 0 5)) 5 ((bytesRow s (grownCap w s.size 0 5)).size, (bytesRow s (grownCap w s.size 0 5)).size + 1)) := heap_alloc_new w.drew _
  have hz : s.size ≤ (bytesRow s (grownCap w s.size 0 5)).size := by
    rw [bytesRow, Array.size_append, Array.size_map]
    exact Nat.le_add_right _ _
  constructor
  · rw [cell_of_row _ _ j _ _ _ hb, bytesRow_at s _ j h]
    rfl
  · simp only [World.frozen?, hb]
    simp
    omega
/-- Bytes of one's own, one of them changed, as a text. -/
theorem bytes_back (W1 : World) (g cap i : Nat) (s : ByteArray) (d : UInt8) (hi : i < s.size) (h : ∀ j (h : j < s.size), W1.cell? ⟨g, j, none⟩ = some (.int .u8 (s[j].toNat : Nat))) :
    (convert 32 9 (.slice (some ⟨g, 0, none⟩) s.size cap)).run Tryd.prog (W1.setCell ⟨g, i, none⟩ (.int .u8 (d.toNat : Nat))) = .ok (.string (str (s.data.toList.set i d))) (W1.setCell ⟨g, i, none⟩ (.int .u8 (d.toNat : Nat))) := by
  have hl : (s.data.toList.set i d).length = s.size := by rw [List.length_set, lenL]
  have := run_convert_bytes_back (P := Tryd.prog) (W1.setCell ⟨g, i, none⟩ (.int .u8 (d.toNat : Nat))) 32 9 5 ⟨g, 0, none⟩ cap (s.data.toList.set i d) Tryd.underlying32 Tryd.underlying5 Tryd.underlying9 (fun j hj => ?_)
  · rw [hl] at this
    exact this
  · rw [hl] at hj
    have hadd : (⟨g, 0, none⟩ : Addr).add j = ⟨g, j, none⟩ := by unfold Addr.add; split <;> simp_all
    rw [hadd]
    by_cases e : i = j
    · subst e
      rw [World.cell?_setCell_same _ _ _ (h i hi), List.getElem_set_self]
    · rw [World.cell?_setCell_other _ _ _ _ (by intro hh; cases hh; exact e rfl), h j hj, List.getElem_set_ne e, atL s j hj]
end Go.Proofs.YtlmampcdflbifaeDoor

namespace Go.Proofs.YtlmampcdflbifaeDoor
open Go.RowKit
open Go.Frame (low4)

/-- Four bytes, of which the first j are those of a sum. -/
def SealAt (g : Nat) (w : World) (c j : Nat) : Prop := ∀ k, k < 4 → w.cell? ⟨g, k, none⟩ = some (.int .u8 ((if k < j then c / 256 ^ k % 256 else 0 : Nat) : Int)) ∧ w.frozen? ⟨g, k, none⟩ = false
theorem SealAt.fresh (w : World) (c : Nat) (T : TypeId) : SealAt w.heap.size (w.alloc (.cells #[.int .u8 0, .int .u8 0, .int .u8 0, .int .u8 0] T)) c 0 := by
  intro k hk
  match k, hk with
  | 0, _ => simp
  | 1, _ => simp
  | 2, _ => simp
  | 3, _ => simp
theorem SealAt.step {g c j : Nat} {w : World} (h : SealAt g w c j) (hj : j < 4) (x : Int) (hx : x = ((c / 256 ^ j % 256 : Nat) : Int)) : SealAt g (w.setCell ⟨g, j, none⟩ (.int .u8 x)) c (j + 1) := by
  intro k hk
  obtain ⟨h1, h2⟩ := h k hk
  refine ⟨?_, by simpa using h2⟩
  by_cases e : k = j
  · subst e
    rw [World.cell?_setCell_same _ _ _ h1, if_pos (by omega), hx]
  · rw [World.cell?_setCell_other _ _ _ _ (by intro q; cases q; exact e rfl), h1]
    by_cases q : k < j
    · rw [if_pos q, if_pos (by omega)]
    · rw [if_neg q, if_neg (by omega)]
theorem SealAt.text {g c : Nat} {w : World} (h : SealAt g w c 4) (hc : c < 4294967296) : (convert 32 9 (.slice (some ⟨g, 0, none⟩) 4 4)).run Tryd.prog w = .ok (.string (str (low4 c))) w := by
  have := run_convert_bytes_back (P := Tryd.prog) w 32 9 5 ⟨g, 0, none⟩ 4 (low4 c) Tryd.underlying32 Tryd.underlying5 Tryd.underlying9 (fun j hj => ?_)
  · exact this
  · have hj' : j < 4 := hj
    have hadd : (⟨g, 0, none⟩ : Addr).add j = ⟨g, j, none⟩ := by unfold Addr.add; split <;> simp_all
    rw [hadd, (h j hj').1, if_pos hj']
    have t : ∀ n, n < 256 → (UInt8.ofNat n).toNat = n := fun n hn => Go.Num.toNat_ofNat n hn
    match j, hj' with
    | 0, _ => simp only [low4, List.getElem_cons_zero]; rw [t _ (by omega)]; simp
    | 1, _ => simp only [low4, List.getElem_cons_zero, List.getElem_cons_succ]; rw [t _ (by omega)]
    | 2, _ => simp only [low4, List.getElem_cons_zero, List.getElem_cons_succ]; rw [t _ (by omega)]
    | 3, _ => simp only [low4, List.getElem_cons_zero, List.getElem_cons_succ]; rw [t _ (by omega)]; congr 3; omega

set_option maxHeartbeats 2000000 in
set_option maxRecDepth 100000 in
theorem seal_ok (s : ByteArray) (w : World) (hs : s.size ≤ 1000000) : Calls Tryd.prog 11 #[.string s] w fun r w' => r = .returned (.string (str (low4 (Go.Crc.crc 0 s.data.toList)))) ∧ Below w.heap.size w w' := by
  have HS := hide (fun W => sum_ok s W hs)
  have hc := Go.Crc.crc_lt 0 s.data.toList (by decide)
  generalize Go.Crc.crc 0 s.data.toList = c at *
  have hc' : (c : Int) < 4294967296 := by omega
  have Hc := hide hc
  have hmk : ∀ w, (Instr.makeSlice 32 (.int .i64 4) (.int .i64 4)).run Tryd.prog w = .ok (.slice (some ⟨w.heap.size, 0, none⟩) 4 4) (w.alloc (.cells #[.int .u8 0, .int .u8 0, .int .u8 0, .int .u8 0] 5)) := fun _ => by kernel_rfl
  clear hs hc
  go_enter Tryd.func11, Tryd.ntmps11
  go_wp2_with fail
  refine (HS.out _).mono ?_
  rintro r w1 ⟨rfl, rfl⟩
  have Ha := hide (SealAt.fresh w1 c 5)
  have Hb : Hid (Below w1.heap.size w1 (w1.alloc (.cells #[.int .u8 0, .int .u8 0, .int .u8 0, .int .u8 0] 5))) := (Below.refl _ _).alloc (Nat.le_refl _) _
  go_wp2_with fail
  go_loopw [5, 11] (fun _ t wr => ∃ j : Nat, t = .int .i64 j ∧ j ≤ 4 ∧ Hid (SealAt w1.heap.size wr c j) ∧ Hid (Below w1.heap.size w1 wr)) (fun _ t _ => 4 - (intOf t).toNat)
  case atStart => exact ⟨0, rfl, by omega, Ha.out, Hb.out⟩
  case round =>
    clear Ha Hb hmk
    obtain ⟨j, rfl, hj, Ha, Hb⟩ := hrel
    match j, hj with
    | 0, _ =>
      obtain ⟨a1, a2⟩ := Ha.out 0 (by omega)
      rw [if_neg (by omega)] at a1
      go_wp2_with fail
      go_roundw
      case rel => exact ⟨1, by go_num, by omega, Ha.out.step (by omega) _ (by omega), Hb.out.setCell (by simp) _⟩
      case measure => simp [intOf]
    | 1, _ =>
      obtain ⟨a1, a2⟩ := Ha.out 1 (by omega)
      rw [if_neg (by omega)] at a1
      go_wp2_with fail
      go_roundw
      case rel => exact ⟨2, by go_num, by omega, Ha.out.step (by omega) _ (by omega), Hb.out.setCell (by simp) _⟩
      case measure => simp [intOf]
    | 2, _ =>
      obtain ⟨a1, a2⟩ := Ha.out 2 (by omega)
      rw [if_neg (by omega)] at a1
      go_wp2_with fail
      go_roundw
      case rel => exact ⟨3, by go_num, by omega, Ha.out.step (by omega) _ (by omega), Hb.out.setCell (by simp) _⟩
      case measure => simp [intOf]
    | 3, _ =>
      obtain ⟨a1, a2⟩ := Ha.out 3 (by omega)
      rw [if_neg (by omega)] at a1
      go_wp2_with fail
      go_roundw
      case rel => exact ⟨4, by go_num, by omega, Ha.out.step (by omega) _ (by omega), Hb.out.setCell (by simp) _⟩
      case measure => simp [intOf]
    | 4, _ =>
      have ht := Ha.out.text Hc.out
      generalize hE : str (low4 c) = E at ht
      have HE := hide hE
      clear hE
      go_wp2_with fail
      go_ret
      exact ⟨by rw [HE.out]; rfl, Hb.out⟩
end Go.Proofs.YtlmampcdflbifaeDoor

namespace Go.Proofs.YtlmampcdflbifaeDoor
open Go.RowKit
open Go.Frame (Fr frErr)

set_option maxHeartbeats 1000000 in
set_option maxRecDepth 100000 in
theorem fcheck_ok (v : FrVs) (f : Fr) (w : World) (hs : f.data.size ≤ 1000000) (hE : FrEr v w) : Calls Tryd.prog 9 #[frV f] w fun r w' => r = .returned (errG v (frErr f)) ∧ Below w.heap.size w w' := by
  obtain ⟨k, e, q, d⟩ := f
  have hk := k.toNat_lt
  have hsz : (d.size : Int) ≤ 1000000 := by simp only at hs; omega
  clear hs
  have Hb : Hid (Below w.heap.size w (w.alloc (.cells #[.int .u8 k.toNat, .int .i64 e, .int .i64 q, .string d] 25))) := (Below.refl _ _).alloc (Nat.le_refl _) _
  have hB := (hE.below Hb.out).bound
  have hK := (hE.below Hb.out).kind
  clear hE
  have Hx : Hid (frErr ⟨k, e, q, d⟩ = if k.toNat < 97 ∨ 122 < k.toNat then 4 else if e < 0 ∨ 2147483648 < e ∨ q < 0 ∨ 65536 ≤ q ∨ 20000 < d.size then 2 else 0) := rfl
  generalize frErr ⟨k, e, q, d⟩ = E at *
  simp only [frV]
  generalize k.toNat = n at *
  by_cases h1 : n < 97
  · have h1' : (n : Int) < 97 := by omega
    have He : Hid (E = 4) := Hx.out.trans (if_pos (Or.inl h1))
    clear h1 Hx
    go_enter Tryd.func9, Tryd.ntmps9
    go_wp2
    go_ret
    exact ⟨by rw [He.out]; rfl, Hb.out⟩
  · have h1' : (97 : Int) ≤ n := by omega
    by_cases h2 : 122 < n
    · have h2' : (122 : Int) < n := by omega
      have He : Hid (E = 4) := Hx.out.trans (if_pos (Or.inr h2))
      clear h1 h2 Hx
      go_enter Tryd.func9, Tryd.ntmps9
      go_wp2
      go_ret
      exact ⟨by rw [He.out]; rfl, Hb.out⟩
    · have h2' : (n : Int) ≤ 122 := by omega
      have Hx2 := hide (Hx.out.trans (if_neg (by omega)))
      clear h1 h2 Hx
      by_cases h3 : e < 0
      · have He : Hid (E = 2) := Hx2.out.trans (if_pos (Or.inl h3))
        clear Hx2
        go_enter Tryd.func9, Tryd.ntmps9
        go_wp2
        go_ret
        exact ⟨by rw [He.out]; rfl, Hb.out⟩
      · have h3' : 0 ≤ e := by omega
        by_cases h4 : 2147483648 < e
        · have He : Hid (E = 2) := Hx2.out.trans (if_pos (Or.inr (Or.inl h4)))
          clear Hx2 h3
          go_enter Tryd.func9, Tryd.ntmps9
          go_wp2
          go_ret
          exact ⟨by rw [He.out]; rfl, Hb.out⟩
        · have h4' : e ≤ 2147483648 := by omega
          by_cases h5 : q < 0
          · have He : Hid (E = 2) := Hx2.out.trans (if_pos (Or.inr (Or.inr (Or.inl h5))))
            clear Hx2 h3 h4
            go_enter Tryd.func9, Tryd.ntmps9
            go_wp2
            go_ret
            exact ⟨by rw [He.out]; rfl, Hb.out⟩
          · have h5' : 0 ≤ q := by omega
            by_cases h6 : 65536 ≤ q
            · have He : Hid (E = 2) := Hx2.out.trans (if_pos (Or.inr (Or.inr (Or.inr (Or.inl h6)))))
              clear Hx2 h3 h4 h5
              go_enter Tryd.func9, Tryd.ntmps9
              go_wp2
              go_ret
              exact ⟨by rw [He.out]; rfl, Hb.out⟩
            · have h6' : q < 65536 := by omega
              by_cases h7 : 20000 < d.size
              · have h7' : (20000 : Int) < d.size := by omega
                have He : Hid (E = 2) := Hx2.out.trans (if_pos (Or.inr (Or.inr (Or.inr (Or.inr h7)))))
                clear Hx2 h3 h4 h5 h6
                go_enter Tryd.func9, Tryd.ntmps9
                go_wp2
                go_ret
                exact ⟨by rw [He.out]; rfl, Hb.out⟩
              · have h7' : (d.size : Int) ≤ 20000 := by omega
                have He : Hid (E = 0) := Hx2.out.trans (if_neg (by omega))
                clear Hx2 h3 h4 h5 h6 h7
                go_enter Tryd.func9, Tryd.ntmps9
                go_wp2
                go_ret
                exact ⟨by rw [He.out]; rfl, Hb.out⟩
end Go.Proofs.YtlmampcdflbifaeDoor

namespace Go.Proofs.YtlmampcdflbifaeDoor
open Go.RowKit

set_option maxHeartbeats 400000 in
set_option maxRecDepth 100000 in
theorem byteW_ok (p : Nat) (b : UInt8) (bs : List UInt8) (v : Value) (w : World) (hb : bs.length ≤ 1000000) (h : WrAt p w bs v) :
    Calls Tryd.prog 16 #[.pointer (some ⟨p, 0, none⟩), .int .u8 b.toNat] w fun e w' => e = .returned (.tuple #[]) ∧ (∃ v', WrAt p w' (bs ++ [b]) v') ∧ Below p w w' ∧ KeptT p w w' := by
  obtain ⟨i0, hi, hz0, hz1, hz2⟩ := info_parts Tryd.info5
  have HW := hide h
  obtain ⟨c0, c1, f0, f1, lt, own⟩ := h
  go_enter Tryd.func16, Tryd.ntmps16
  go_wp2_with (at_builtin; refine wpList_append_own _ rfl (.tmp 13) (.tmp 15) 32 rfl (p + 1) 5 i0 (.int .u8 0) 1 1 Tryd.underlying32 hi hz0 hz1 hz2 rfl (by decide) v bs.length (bs.map cellOf) rfl ?own ⟨w.heap.size, 0, none⟩ 1 1 [.int .u8 (b.toNat : Int)] rfl rfl ?c1 ?c2 ?b1 ?b2 ?b3 ?next)
  case own => exact own.alloc _
  case c1 => intro j u hj; match j, hj with | 0, hj => simp at hj; subst hj; simp [Addr.add]
  case c2 => intro u hu; simp at hu; subst hu; rfl
  case b1 => unfold maxLen; omega
  case b2 => omega
  case b3 => simp; omega
  case next =>
    intro v2 w2 hown hgrow _
    have hb2 : Below (p + 1) w w2 := ((Below.refl _ _).alloc (by omega) _).grown hgrow (by simp; omega) (fun k hk => (own.lt k hk).1)
    have hfin := HW.out.more b rfl hb2 hown
    have k0 := (hb2.cell (p := ⟨p, 0, none⟩) (by simp)).trans c0
    have e0 := (hb2.frozen (p := ⟨p, 0, none⟩) (by simp)).trans f0
    have Hk2 := hide (KeptT.step (v2 := v2) own hgrow)
    obtain ⟨g, c', rfl⟩ := own_form hown
    have Hfin := hide hfin
    have Hb2 := hide hb2
    clear hfin hb2 hown hgrow
    go_wp2
    go_end0
    exact ⟨rfl, ⟨_, Hfin.out⟩, (Hb2.out.mono (by omega)).setCell (by simp) _, Hk2.out⟩
end Go.Proofs.YtlmampcdflbifaeDoor
