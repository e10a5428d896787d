/-
  Contract of strings.Builder's String at the builder that lies inside package patch's own one, over this dump.
  Contracts of patch.builder's blocks, copied, over this dump.
  Contract of patch.builder's add over this dump, at an op that is one.
  Contract of patch.Apply over this dump, at any file, size and ops.
  Contract of patch.Apply over this dump, in one form.
-/
import Derived.Test.YtcenohaadggdiacDoorJoin10
import Derived.BigQuiet
import Derived.BigRegion
import Derived.Test.YtcenohaadggdiacDoorJoin07
import Derived.Deep.RegionHeld3
import Derived.Test.YtcenohaadggdiacDoorJoin03
import Derived.Deep.QuietTactic
namespace Go.Proofs.YtcenohaadggdiacDoor
open Go.RowKit

set_option maxHeartbeats 2000000 in
set_option maxRecDepth 100000 in
theorem bstr_nil (p : Nat) (w : World) (c3 : w.cell? ⟨p, 3, none⟩ = some (.slice none 0 0)) :
    Calls Tryd.prog 39 #[.pointer (some ⟨p, 2, none⟩)] w fun r w' => r = .returned (.string ⟨#[]⟩) ∧ Below w.heap.size w w' := by
  have hUS : ∀ (W : World) (q : Option Addr), (Builtin.unsafeString_ #[107, 3] 9 #[.pointer q, .int .i64 0]).run Tryd.prog W = .ok (.string .empty) W := fun W q => Lib.run_unsafeString_none W _ _ _ q
  have c3' : w.drew.cell? ⟨p, 3, none⟩ = some (.slice none 0 0) := c3
  have hSD : (Builtin.unsafeSliceData_ #[70] 107 #[.slice none 0 0]).run Tryd.prog w.drew = .ok (.pointer none) w.drew := rfl
  go_enter Tryd.func39, Tryd.ntmps39
  go_wp2
  go_region
  all_goals (go_wp2; go_ret; exact ⟨rfl, Below.drew (Below.refl _ w)⟩)

set_option maxHeartbeats 2000000 in
set_option maxRecDepth 100000 in
theorem bstr_some (p g cap : Nat) (cur : Array Value) (l : List UInt8) (w : World) (h0 : l ≠ []) (c3 : w.cell? ⟨p, 3, none⟩ = some (.slice (some ⟨g, 0, none⟩) l.length cap)) (hpg : p < g) (hg : w.heap[g]? = some (.cells cur 5 (0, 0))) (hnc : l.length ≤ cap) (hcm : cap ≤ maxLen) (hcs : cur.size = cap)
    (hcell : ∀ j x, l[j]? = some x → w.cell? ((⟨g, 0, none⟩ : Addr).add j) = some (.int .u8 x.toNat)) :
    Calls Tryd.prog 39 #[.pointer (some ⟨p, 2, none⟩)] w fun r w' => r = .returned (.string ⟨l.toArray⟩) ∧ Below (p + 1) w w' := by
  have hl0 : l.length ≠ 0 := by simpa using h0
  have c3' : w.drew.cell? ⟨p, 3, none⟩ = some (.slice (some ⟨g, 0, none⟩) l.length cap) := c3
  have hSD : (Builtin.unsafeSliceData_ #[70] 107 #[.slice (some ⟨g, 0, none⟩) l.length cap]).run Tryd.prog w.drew = .ok (.pointer (some ⟨g, 0, none⟩)) w.drew :=
    Lib.run_unsafeSliceData_row _ _ _ _ _ _ (by omega)
  have hUS : (Builtin.unsafeString_ #[107, 3] 9 #[.pointer (some ⟨g, 0, none⟩), .int .i64 l.length]).run Tryd.prog w.drew = .ok (.string ⟨l.toArray⟩) (w.drew.freeze ⟨g, 0, none⟩ l.length) := by
    refine Lib.run_unsafeString_row w.drew 107 3 9 5 Tryd.underlying107 Tryd.byteCell g cur.size (by have hg' : w.drew.heap[g]? = some (.cells cur 5 (0, 0)) := hg; simp [World.shape?, hg']) l h0 (by omega) (by unfold maxLen at hcm; omega) ?_
    exact hcell
  have hb : Below (p + 1) w (w.drew.freeze ⟨g, 0, none⟩ l.length) := Lib.below_freeze (Below.drew (Below.refl _ w)) (p := ⟨g, 0, none⟩) hpg _
  have Hb := hide hb
  clear hb h0 hg hnc hcm hcs hcell hpg
  go_enter Tryd.func39, Tryd.ntmps39
  go_wp2
  go_region
  all_goals (go_wp2; go_ret; exact ⟨rfl, Hb.out⟩)

theorem bstr_ok {p : Nat} {w : World} {old : ByteArray} {size : Int} {a v : Value} {bs : List UInt8} (h : BdAt p w old size a v bs) :
    Calls Tryd.prog 39 #[.pointer (some ⟨p, 2, none⟩)] w fun r w' => r = .returned (.string (str bs)) ∧ Below (p + 1) w w' := by
  have c3 := h.c3
  by_cases h0 : bs = []
  · rw [h.nil h0] at c3
    subst h0
    exact (bstr_nil p w c3).mono fun _ _ ⟨e, hb⟩ => ⟨e, hb.mono h.lt⟩
  · rcases h.own.2 with ⟨_, hz⟩ | ⟨g, cap, cur, rfl, hbg, hg, hnc, hcm, hcs, htake⟩
    · exact absurd (List.length_eq_zero_iff.1 hz) h0
    · exact bstr_some p g cap cur bs w h0 c3 (by omega) hg hnc hcm (by omega) (fun j x hx => h.own.cells (g := g) rfl j (.int .u8 x.toNat) (by simp [Lib.byteCells, hx]))
end Go.Proofs.YtcenohaadggdiacDoor

namespace Go.Proofs.YtcenohaadggdiacDoor
open Go.RowKit

theorem below_drewN (w : World) (n : Nat) : Below w.heap.size w (w.drewN n) := ⟨rfl, rfl, rfl, Nat.le_refl _, fun _ _ => rfl⟩

set_option maxHeartbeats 1000000 in
set_option maxRecDepth 100000 in
theorem blocks_ok {p : Nat} {w : World} {old : ByteArray} {size : Nat} {a v : Value} {bs : List UInt8} (h : BdAt p w old size a v bs) (h1 : 1 ≤ size) (h2 : size ≤ 64) (ho : old.size ≤ 4000) :
    Calls Tryd.prog 62 #[.pointer (some ⟨p, 0, none⟩)] w fun r w' => r = .returned (.int .i64 ((old.size + size - 1) / size : Nat)) ∧ Below w.heap.size w w' := by
  have c0 := h.c0
  have c1 := h.c1
  have h1' : (1 : Int) ≤ size := by omega
  have h2' : (size : Int) ≤ 64 := by omega
  have ho' : (old.size : Int) ≤ 4000 := by omega
  clear h
  go_enter Tryd.func62, Tryd.ntmps62
  go_wp2_with fail
  go_quiet (fail)
  go_wp2_with fail
  go_ret
  refine ⟨ret_int ?_, below_drewN w nq⟩
  rw [show (old.size : Int) + (size : Int) - 1 = ((old.size + size - 1 : Nat) : Int) by omega, ← Int.natCast_ediv]

/-- The bytes of n blocks from block k on. -/
theorem copiedL (old : ByteArray) (size k n : Nat) (h : k * size ≤ old.size) : (old.extract (k * size) (min ((k + n) * size) old.size)).data.toList = (old.data.toList.drop (k * size)).take (n * size) := by
  rw [extractL]
  have e : (k + n) * size = k * size + n * size := Nat.add_mul ..
  rw [e, List.take_eq_take_iff]
  rw [List.length_drop, lenL]
  omega

set_option maxHeartbeats 2000000 in
set_option maxRecDepth 100000 in
theorem copied_ok {p : Nat} {w : World} {old : ByteArray} {size : Nat} {a v : Value} {bs : List UInt8} (k n : Nat) (h : BdAt p w old size a v bs) (h2 : size ≤ 64) (ho : old.size ≤ 4000) (hk : k ≤ 4000) (hn : n ≤ 4000) (hko : k * size ≤ old.size) :
    Calls Tryd.prog 63 #[.pointer (some ⟨p, 0, none⟩), .int .i64 k, .int .i64 n] w fun r w' => r = .returned (.string (str ((old.data.toList.drop (k * size)).take (n * size)))) ∧ Below w.heap.size w w' := by
  have HE : Hid (str ((old.data.toList.drop (k * size)).take (n * size)) = old.extract (k * size) (min ((k + n) * size) old.size)) := by
    apply ext_of_list
    rw [strL, copiedL old size k n hko]
  have c0 := h.c0
  have c1 := h.c1
  obtain ⟨F, hF⟩ : ∃ F, F = k * size := ⟨_, rfl⟩
  obtain ⟨T, hT⟩ : ∃ T, T = (k + n) * size := ⟨_, rfl⟩
  have hFT : F ≤ T := by rw [hF, hT]; exact Nat.mul_le_mul_right _ (by omega)
  have hFi : (k : Int) * (size : Int) = (F : Int) := by rw [hF, Int.natCast_mul]
  have hTi : ((k : Int) + (n : Int)) * (size : Int) = (T : Int) := by rw [hT, Int.natCast_mul, Int.natCast_add]
  have hT4 : T ≤ 512000 := by rw [hT]; exact Nat.le_trans (Nat.mul_le_mul (show k + n ≤ 8000 by omega) h2) (by decide)
  rw [← hF, ← hT] at HE
  rw [← hF] at hko
  have hT4' : (T : Int) ≤ 512000 := by omega
  have hko' : (F : Int) ≤ old.size := by omega
  have hFT' : (F : Int) ≤ T := by omega
  have ho' : (old.size : Int) ≤ 4000 := by omega
  have hk' : (k : Int) ≤ 4000 := by omega
  have hn' : (n : Int) ≤ 4000 := by omega
  have HF := hide hF
  have HT := hide hT
  clear h hF hT
  by_cases ht : old.size < T
  · rw [show min T old.size = old.size by omega] at HE
    have HR := hide (HE.out)
    clear HE
    go_enter Tryd.func63, Tryd.ntmps63
    go_wp2_with fail
    go_region
    all_goals
      go_wp2_with fail
      go_ret
      exact ⟨(by rw [← HF.out, HR.out]; exact rfl), Below.drew (Below.refl _ w)⟩
  · have ht' : T ≤ old.size := by omega
    rw [show min T old.size = T by omega] at HE
    have HR := hide (HE.out)
    clear HE
    go_enter Tryd.func63, Tryd.ntmps63
    go_wp2_with fail
    go_region
    all_goals
      go_wp2_with fail
      go_ret
      exact ⟨(by rw [← HF.out, HR.out]; exact rfl), Below.drew (Below.refl _ w)⟩
end Go.Proofs.YtcenohaadggdiacDoor

namespace Go.Proofs.YtcenohaadggdiacDoor
open Go.RowKit
open Go.Delta (Opx copyOp dataOp kCopy kData noBytes)

/-- The errors that Apply meets: what their variables hold. -/
structure PV where
  o : OV
  tN : TypeId
  xN : Value
structure PEr (e : PV) (w : World) : Prop where
  three : OEr3 e.o w
  full : w.cell? ⟨3, 0, none⟩ = some (.iface e.o.e.tF e.o.e.xF)
  none : w.cell? ⟨2, 0, none⟩ = some (.iface e.tN e.xN)
theorem PEr.below {e : PV} {w w' : World} (h : PEr e w) (hb : Below w.heap.size w w') : PEr e w' :=
  ⟨h.three.below hb, (hb.cell (World.block_lt_of_cell? _ _ h.full)).trans h.full, (hb.cell (World.block_lt_of_cell? _ _ h.none)).trans h.none⟩

/-- Whether n blocks from block k on are there, as the program asks it. -/
theorem there_iff (len size k n : Nat) (h1 : 1 ≤ size) (hn : 1 ≤ n) : k + n ≤ (len + size - 1) / size ↔ (k + n - 1) * size < len := by
  rw [Nat.le_div_iff_mul_le (by omega)]
  obtain ⟨m, hm⟩ : ∃ m, k + n = m + 1 := ⟨k + n - 1, by omega⟩
  rw [hm, Nat.add_sub_cancel, Nat.succ_mul]
  omega

/-- What add answers. -/
def AddRes (e : PV) (p : Nat) (old : ByteArray) (size : Nat) (bs : List UInt8) (pc : Option (List UInt8)) (r : Ending) (w' : World) : Prop :=
  match pc with
  | none => r = .returned (.iface e.tN e.xN)
  | some l => if 4000 < bs.length + l.length then r = .returned (.iface e.o.e.tF e.o.e.xF) else r = .returned .nilIface ∧ ∃ a v, BdAt p w' old size a v (bs ++ l) ∧ fresh2 p a

section
variable {p : Nat} {w : World} {old : ByteArray} {size : Nat} {a v : Value} {bs : List UInt8}
set_option maxHeartbeats 2000000 in
set_option maxRecDepth 100000 in
theorem add_data (e : PV) (d : List UInt8) (h : BdAt p w old size a v bs) (ha : fresh2 p a) (he : PEr e w) (hd1 : 1 ≤ d.length) (hd2 : d.length ≤ 4000) (hb : bs.length ≤ 4000) :
    Calls Tryd.prog 38 #[.pointer (some ⟨p, 0, none⟩), .agg #[.string ⟨#[100, 97, 116, 97]⟩, .int .i64 0, .int .i64 0, .string (str d)]] w fun r w' => AddRes e p old size bs (some d) r w' ∧ Below p w w' := by
  have hds : (str d).size = d.length := str_len d
  have hds' : ((str d).size : Int) ≤ 4000 := by omega
  have hb' : (bs.length : Int) ≤ 4000 := by omega
  have hF := he.full
  have lF := World.block_lt_of_cell? _ _ hF
  have hba := (Below.refl w.heap.size w).alloc (Nat.le_refl _) (.cells #[.string ⟨#[100, 97, 116, 97]⟩, .int .i64 0, .int .i64 0, .string (str d)] 61)
  have HB := hide (h.kept hba)
  have Hba := hide hba
  have HL := hide (fun W (k : BdAt p W old size a v bs) => blen_ok k)
  have HW := hide (fun W (k : BdAt p W old size a v bs) => bwrite_ok (str d) k ha (by omega) (by omega))
  rw [strL] at HW
  have hlt := h.lt
  clear h hba he
  unfold AddRes
  simp only
  by_cases hfull : 4000 < bs.length + d.length
  · simp only [if_pos hfull]
    have hfull' : (4000 : Int) < (bs.length : Int) + ((str d).size : Int) := by omega
    generalize str d = DB at *
    go_enter Tryd.func38, Tryd.ntmps38
    go_wp2_with fail
    refine (HL.out _ HB.out).mono ?_
    rintro r w1 ⟨rfl, rfl⟩
    go_wp2_with fail
    go_ret
    exact ⟨rfl, Hba.out.mono (by omega)⟩
  · simp only [if_neg hfull]
    have hfull' : (bs.length : Int) + ((str d).size : Int) ≤ 4000 := by omega
    generalize str d = DB at *
    go_enter Tryd.func38, Tryd.ntmps38
    go_wp2_with fail
    refine (HL.out _ HB.out).mono ?_
    rintro r w1 ⟨rfl, rfl⟩
    go_wp2_with fail
    refine (HW.out _ HB.out).mono ?_
    rintro r w2 ⟨rfl, ⟨v2, h2⟩, hb2⟩
    have H2 := hide h2
    have Hb2 := hide ((Hba.out.mono (by omega)).trans hb2)
    clear h2 hb2
    go_wp2_with fail
    go_ret
    exact ⟨⟨rfl, _, _, H2.out, Or.inr rfl⟩, Hb2.out⟩

set_option maxHeartbeats 4000000 in
set_option maxRecDepth 100000 in
theorem add_copy (e : PV) (k n : Nat) (h : BdAt p w old size a v bs) (ha : fresh2 p a) (he : PEr e w) (hk : k ≤ 4000) (hn1 : 1 ≤ n) (hn2 : n ≤ 4000) (hb : bs.length ≤ 4000) (h1 : 1 ≤ size) (h2 : size ≤ 64) (ho : old.size ≤ 4000) :
    Calls Tryd.prog 38 #[.pointer (some ⟨p, 0, none⟩), .agg #[.string ⟨#[99, 111, 112, 121]⟩, .int .i64 k, .int .i64 n, .string ⟨#[]⟩]] w fun r w' => AddRes e p old size bs (if (k + n - 1) * size < old.size then some ((old.data.toList.drop (k * size)).take (n * size)) else none) r w' ∧ Below p w w' := by
  have hb' : (bs.length : Int) ≤ 4000 := by omega
  have hk' : (k : Int) ≤ 4000 := by omega
  have hn' : (n : Int) ≤ 4000 := by omega
  have hF := he.full
  have lF := World.block_lt_of_cell? _ _ hF
  have hN := he.none
  have lN := World.block_lt_of_cell? _ _ hN
  have hba := (Below.refl w.heap.size w).alloc (Nat.le_refl _) (.cells #[.string ⟨#[99, 111, 112, 121]⟩, .int .i64 k, .int .i64 n, .string ⟨#[]⟩] 61)
  have HB := hide (fun W (x : Below w.heap.size w W) => h.kept x)
  have Hba := hide hba
  have HL := hide (fun W (k : BdAt p W old size a v bs) => blen_ok k)
  have HK := hide (fun W (k : BdAt p W old size a v bs) => blocks_ok k h1 h2 ho)
  have hlt := h.lt
  have hth := there_iff old.size size k n h1 hn1
  have hq : (old.size + size - 1) / size ≤ 5000 := Nat.le_trans (Nat.div_le_self _ _) (by omega)
  obtain ⟨q, hqe⟩ : ∃ q, q = (old.size + size - 1) / size := ⟨_, rfl⟩
  rw [← hqe] at HK hth hq
  have hq' : (q : Int) ≤ 5000 := by omega
  have hop := OpAt.fresh w (copyOp k n) 61
  simp only [copyOp] at hop
  unfold kCopy noBytes at hop
  have Hop := hide hop
  clear h hba he hqe hop
  unfold AddRes
  by_cases hin : (k + n - 1) * size < old.size
  · simp only [if_pos hin]
    have hle : k + n ≤ q := hth.2 hin
    have hle' : (k : Int) + (n : Int) ≤ (q : Int) := by omega
    have hko : k * size ≤ old.size := Nat.le_trans (Nat.mul_le_mul_right _ (show k ≤ k + n - 1 by omega)) (Nat.le_of_lt hin)
    have hpl : 1 ≤ ((old.data.toList.drop (k * size)).take (n * size)).length ∧ ((old.data.toList.drop (k * size)).take (n * size)).length ≤ 4000 := by
      have hks : k * size < old.size := Nat.lt_of_le_of_lt (Nat.mul_le_mul_right _ (show k ≤ k + n - 1 by omega)) hin
      have hns : 1 ≤ n * size := Nat.mul_le_mul hn1 h1
      rw [List.length_take, List.length_drop, lenL]
      omega
    have HC := hide (fun W (x : BdAt p W old size a v bs) => copied_ok k n x h2 ho hk hn2 hko)
    generalize (old.data.toList.drop (k * size)).take (n * size) = d at *
    obtain ⟨hd1, hd2⟩ := hpl
    have hds : (str d).size = d.length := str_len d
    have hds' : ((str d).size : Int) ≤ 4000 := by omega
    have HW := hide (fun W (k : BdAt p W old size a v bs) => bwrite_ok (str d) k ha (by omega) (by omega))
    rw [strL] at HW
    clear hth hin
    by_cases hfull : 4000 < bs.length + d.length
    · simp only [if_pos hfull]
      have hfull' : (4000 : Int) < (bs.length : Int) + ((str d).size : Int) := by omega
      generalize str d = DB at *
      go_enter Tryd.func38, Tryd.ntmps38
      go_wp2_with fail
      have hw1 : IntKind.i64.wrap ((k : Int) + (n : Int)) = (k : Int) + (n : Int) := iwrap_id _ (by omega) (by omega)
      generalize w.alloc (.cells #[.string ⟨#[99, 111, 112, 121]⟩, .int .i64 k, .int .i64 n, .string ⟨#[]⟩] 61) = wo at *
      obtain ⟨o0, o1, o2, o3, _, _, _, _, olt⟩ := Hop.out
      simp only at o0 o1 o2 o3
      go_region_held3 (fun w' => Hid (Below w.heap.size w w') ∧ w'.cell? ⟨w.heap.size, 1, none⟩ = some (.int .i64 k) ∧ w'.cell? ⟨w.heap.size, 2, none⟩ = some (.int .i64 n)) (first | exact ⟨Hb3, f1, f2⟩ | exact ⟨Hba.out.drew, o1, o2⟩)
        (first
          | (go_at_call 62; refine (HK.out _ (HB.out _ Hba.out.drew)).mono ?_; rintro r w3 ⟨rfl, hb3⟩; have Hb3 := hide (bthen Hba.out.drew hb3); have f1 : w3.cell? ⟨w.heap.size, 1, none⟩ = some (.int .i64 k) := (hb3.cell (p := ⟨w.heap.size, 1, none⟩) olt).trans o1; have f2 : w3.cell? ⟨w.heap.size, 2, none⟩ = some (.int .i64 n) := (hb3.cell (p := ⟨w.heap.size, 2, none⟩) olt).trans o2; clear hb3))
      all_goals
        go_wp2_with fail
        refine (HC.out _ (HB.out _ Hb3.out)).mono ?_
        rintro r w4 ⟨rfl, hb4⟩
        have Hb4 := hide (bthen Hb3.out hb4)
        clear hb4
        go_wp2_with fail
        refine (HL.out _ (HB.out _ Hb4.out)).mono ?_
        rintro r w5 ⟨rfl, rfl⟩
        have g := (Hb4.out.cell (p := ⟨3, 0, none⟩) lF).trans hF
        go_wp2_with fail
        go_ret
        exact ⟨rfl, Hb4.out.mono (by omega)⟩
    · simp only [if_neg hfull]
      have hfull' : (bs.length : Int) + ((str d).size : Int) ≤ 4000 := by omega
      generalize str d = DB at *
      go_enter Tryd.func38, Tryd.ntmps38
      go_wp2_with fail
      have hw1 : IntKind.i64.wrap ((k : Int) + (n : Int)) = (k : Int) + (n : Int) := iwrap_id _ (by omega) (by omega)
      generalize w.alloc (.cells #[.string ⟨#[99, 111, 112, 121]⟩, .int .i64 k, .int .i64 n, .string ⟨#[]⟩] 61) = wo at *
      obtain ⟨o0, o1, o2, o3, _, _, _, _, olt⟩ := Hop.out
      simp only at o0 o1 o2 o3
      go_region_held3 (fun w' => Hid (Below w.heap.size w w') ∧ w'.cell? ⟨w.heap.size, 1, none⟩ = some (.int .i64 k) ∧ w'.cell? ⟨w.heap.size, 2, none⟩ = some (.int .i64 n)) (first | exact ⟨Hb3, f1, f2⟩ | exact ⟨Hba.out.drew, o1, o2⟩)
        (first
          | (go_at_call 62; refine (HK.out _ (HB.out _ Hba.out.drew)).mono ?_; rintro r w3 ⟨rfl, hb3⟩; have Hb3 := hide (bthen Hba.out.drew hb3); have f1 : w3.cell? ⟨w.heap.size, 1, none⟩ = some (.int .i64 k) := (hb3.cell (p := ⟨w.heap.size, 1, none⟩) olt).trans o1; have f2 : w3.cell? ⟨w.heap.size, 2, none⟩ = some (.int .i64 n) := (hb3.cell (p := ⟨w.heap.size, 2, none⟩) olt).trans o2; clear hb3))
      all_goals
        go_wp2_with fail
        refine (HC.out _ (HB.out _ Hb3.out)).mono ?_
        rintro r w4 ⟨rfl, hb4⟩
        have Hb4 := hide (bthen Hb3.out hb4)
        clear hb4
        go_wp2_with fail
        refine (HL.out _ (HB.out _ Hb4.out)).mono ?_
        rintro r w5 ⟨rfl, rfl⟩
        go_wp2_with fail
        refine (HW.out _ (HB.out _ Hb4.out)).mono ?_
        rintro r w6 ⟨rfl, ⟨v6, h6⟩, hb6⟩
        have H6 := hide h6
        have Hb6 := hide ((Hb4.out.mono (by omega)).trans hb6)
        clear h6 hb6
        go_wp2_with fail
        go_ret
        exact ⟨⟨rfl, _, _, H6.out, Or.inr rfl⟩, Hb6.out⟩
  · simp only [if_neg hin]
    have hle : q < k + n := by omega
    have hle' : (q : Int) < (k : Int) + (n : Int) := by omega
    clear hth hin
    go_enter Tryd.func38, Tryd.ntmps38
    go_wp2_with fail
    have hw1 : IntKind.i64.wrap ((k : Int) + (n : Int)) = (k : Int) + (n : Int) := iwrap_id _ (by omega) (by omega)
    generalize w.alloc (.cells #[.string ⟨#[99, 111, 112, 121]⟩, .int .i64 k, .int .i64 n, .string ⟨#[]⟩] 61) = wo at *
    obtain ⟨o0, o1, o2, o3, _, _, _, _, olt⟩ := Hop.out
    simp only at o0 o1 o2 o3
    go_region_held3 (fun w' => Hid (Below w.heap.size w w') ∧ w'.cell? ⟨w.heap.size, 1, none⟩ = some (.int .i64 k) ∧ w'.cell? ⟨w.heap.size, 2, none⟩ = some (.int .i64 n)) (first | exact ⟨Hb3, f1, f2⟩ | exact ⟨Hba.out.drew, o1, o2⟩)
      (first
        | (go_at_call 62; refine (HK.out _ (HB.out _ Hba.out.drew)).mono ?_; rintro r w3 ⟨rfl, hb3⟩; have Hb3 := hide (bthen Hba.out.drew hb3); have f1 : w3.cell? ⟨w.heap.size, 1, none⟩ = some (.int .i64 k) := (hb3.cell (p := ⟨w.heap.size, 1, none⟩) olt).trans o1; have f2 : w3.cell? ⟨w.heap.size, 2, none⟩ = some (.int .i64 n) := (hb3.cell (p := ⟨w.heap.size, 2, none⟩) olt).trans o2; clear hb3))
    all_goals
      have g := (Hb3.out.cell (p := ⟨2, 0, none⟩) lN).trans hN
      go_wp2_with fail
      go_ret
      exact ⟨rfl, Hb3.out.mono (by omega)⟩
end
end Go.Proofs.YtcenohaadggdiacDoor

namespace Go.Proofs.YtcenohaadggdiacDoor
open Go.RowKit
open Go.Delta (Opx copyOp dataOp kCopy kData noBytes)

/-- An error by its number. -/
def errP (e : PV) : Nat → Value
  | 6 => .iface e.tN e.xN
  | c => errO e.o c
/-- What Apply answers beside the bytes. -/
def ARes (e : PV) (c : Nat) (at_ : Int) (w' : World) (x : Value) : Prop :=
  if c = 0 then x = .nilIface else if at_ = -1 then x = errP e c else ∃ q, x = .iface 66 (.pointer (some ⟨q, 0, none⟩)) ∧ w'.cell? ⟨q, 0, none⟩ = some (.int .i64 at_) ∧ w'.cell? ⟨q, 1, none⟩ = some (errP e c)

theorem add_ok {p : Nat} {w : World} {old : ByteArray} {size : Nat} {a v : Value} {bs : List UInt8} (e : PV) (o : Opx) (h : BdAt p w old size a v bs) (ha : fresh2 p a) (he : PEr e w) (hf : Go.Delta.opFault o = 0) (hb : bs.length ≤ 4000) (h1 : 1 ≤ size) (h2 : size ≤ 64) (ho : old.size ≤ 4000) :
    Calls Tryd.prog 38 #[.pointer (some ⟨p, 0, none⟩), .agg #[.string o.kind, .int .i64 o.at_, .int .i64 o.n, .string o.data]] w fun r w' => AddRes e p old size bs (pieceO old.data.toList size o) r w' ∧ Below p w w' := by
  rcases Go.Delta.op_right hf with ⟨k, n, rfl, hk, hn1, hn2⟩ | ⟨d, rfl, hd1, hd2⟩
  · rw [pieceO_copy, lenL]
    exact add_copy e k n h ha he hk hn1 hn2 hb h1 h2 ho
  · rw [pieceO_data]
    exact add_data e d h ha he hd1 hd2 hb

set_option maxHeartbeats 1000000 in
set_option maxRecDepth 100000 in
theorem apply_bound (old : ByteArray) (size : Int) (oa : Option Addr) (n oc : Nat) (e : PV) (w : World) (he : PEr e w) (h : ¬ (1 ≤ size ∧ size ≤ 64 ∧ old.size ≤ 4000)) :
    Calls Tryd.prog 21 #[.string old, .int .i64 size, .slice oa n oc] w fun r w' => r = .returned (.tuple #[.string ⟨#[]⟩, errP e 2]) ∧ Below w.heap.size w w' := by
  have hB := he.three.bound
  clear he
  by_cases h1 : size < 1
  · have h1' : decide (size < 1) = true := by simp; omega
    clear h
    go_enter Tryd.func21, Tryd.ntmps21
    go_wp2_with fail
    go_quiet (fail)
    go_wp2_with fail
    go_ret2
    exact ⟨rfl, below_drewN w nq⟩
  · have h1' : decide (size < 1) = false := by simp; omega
    by_cases h2 : 64 < size
    · have h2' : decide (64 < size) = true := by simp; omega
      clear h
      go_enter Tryd.func21, Tryd.ntmps21
      go_wp2_with fail
      go_quiet (fail)
      go_wp2_with fail
      go_ret2
      exact ⟨rfl, below_drewN w nq⟩
    · have h2' : decide (64 < size) = false := by simp; omega
      have h3' : decide ((4000 : Int) < old.size) = true := by simp; omega
      clear h
      go_enter Tryd.func21, Tryd.ntmps21
      go_wp2_with fail
      go_quiet (fail)
      go_wp2_with fail
      go_ret2
      exact ⟨rfl, below_drewN w nq⟩

set_option maxHeartbeats 1000000 in
set_option maxRecDepth 100000 in
theorem apply_wrong (old : ByteArray) (size : Int) (v : Value) (ops : List Opx) (e : PV) (w : World) (hv : ORow w v ops) (hl : ops.length ≤ 1000000) (hs : Short ops) (he : PEr e w) (h1 : 1 ≤ size) (h2 : size ≤ 64) (ho : old.size ≤ 4000) (hf : (Go.Delta.faultO ops).1 ≠ 0) :
    Calls Tryd.prog 21 #[.string old, .int .i64 size, v] w fun r w' => (∃ q, r = .returned (.tuple #[.string ⟨#[]⟩, .iface 66 (.pointer (some ⟨q, 0, none⟩))]) ∧ w'.cell? ⟨q, 0, none⟩ = some (.int .i64 (Go.Delta.faultO ops).2) ∧ w'.cell? ⟨q, 1, none⟩ = some (errO e.o (Go.Delta.faultO ops).1)) ∧ Below w.heap.size w w' := by
  have HC := hide (ocheck_ok v ops e.o w hv hl hs he.three)
  unfold OCheckRes at HC
  simp only [if_neg hf] at HC
  obtain ⟨oa, oc, rfl, _⟩ := hv
  have h1' : decide (size < 1) = false := by simp; omega
  have h2' : decide (64 < size) = false := by simp; omega
  have h3' : decide ((4000 : Int) < old.size) = false := by simp; omega
  clear he hs
  generalize errO e.o (Go.Delta.faultO ops).1 = er at *
  generalize (Go.Delta.faultO ops).2 = at_ at *
  clear hf
  go_enter Tryd.func21, Tryd.ntmps21
  go_wp2_with fail
  refine HC.out.mono ?_
  rintro r w1 ⟨⟨q, rfl, _, d0, d1⟩, hb1⟩
  have Hd := hide (And.intro d0 d1)
  have Hb1 := hide hb1
  clear hb1 d0 d1
  go_wp2_with fail
  go_ret2
  exact ⟨⟨q, rfl, Hd.out.1, Hd.out.2⟩, Hb1.out⟩

set_option maxHeartbeats 2000000 in
set_option maxRecDepth 100000 in
theorem apply_main (old : ByteArray) (size : Nat) (v : Value) (ops : List Opx) (e : PV) (w : World) (hv : ORow w v ops) (hl : ops.length ≤ 1000000) (hs : Short ops) (he : PEr e w) (h1 : 1 ≤ size) (h2 : size ≤ 64) (ho : old.size ≤ 4000) (hf : (Go.Delta.faultO ops).1 = 0) :
    Calls Tryd.prog 21 #[.string old, .int .i64 size, v] w fun r w' => (match patchL old.data.toList size ops 0 [] with
      | .ok all => r = .returned (.tuple #[.string (str all), .nilIface])
      | .error (c, i) => ∃ q, r = .returned (.tuple #[.string ⟨#[]⟩, .iface 66 (.pointer (some ⟨q, 0, none⟩))]) ∧ w'.cell? ⟨q, 0, none⟩ = some (.int .i64 (i : Int)) ∧ w'.cell? ⟨q, 1, none⟩ = some (errP e c)) ∧ Below w.heap.size w w' := by
  have HC := hide (ocheck_ok v ops e.o w hv hl hs he.three)
  unfold OCheckRes at HC
  simp only [if_pos hf] at HC
  obtain ⟨oa, oc, rfl, hv⟩ := hv
  have HV := hide hv
  have HF := hide (Go.Delta.faultO_zero hf)
  have HE := hide he
  have HAdd := hide (fun (p : Nat) (W : World) (a v : Value) (bs : List UInt8) (o : Opx) => add_ok (p := p) (w := W) (old := old) (size := size) (a := a) (v := v) (bs := bs) e o)
  have h1' : decide ((size : Int) < 1) = false := by simp; omega
  have h2' : decide ((64 : Int) < size) = false := by simp; omega
  have h3' : decide ((4000 : Int) < old.size) = false := by simp; omega
  have hl' : (ops.length : Int) ≤ 1000000 := by omega
  clear he hs hf hv
  generalize hR : patchL old.data.toList size ops 0 [] = R
  have HR := hide hR
  clear hR
  go_enter Tryd.func21, Tryd.ntmps21
  go_wp2_with fail
  refine HC.out.mono ?_
  rintro r w1 ⟨rfl, hb1⟩
  have Hb1 := hide hb1
  clear hb1 HC
  go_wp2_with fail
  have hfr : BdAt w1.heap.size (w1.alloc (.cells #[.string old, .int .i64 size, .pointer none, .slice none 0 0] 74)) old size (.pointer none) (.slice none 0 0) [] :=
    ⟨heap_alloc_new w1 _, ⟨rfl, Or.inl ⟨rfl, rfl⟩⟩, fun _ => rfl⟩
  have Hfr := hide hfr
  have Hb2 := hide (Hb1.out.alloc Hb1.out.size (.cells #[.string old, .int .i64 size, .pointer none, .slice none 0 0] 74))
  have Hp : Hid (w.heap.size ≤ w1.heap.size) := Hb1.out.size
  clear hfr Hb1
  generalize w1.alloc (.cells #[.string old, .int .i64 size, .pointer none, .slice none 0 0] 74) = w2 at *
  generalize w1.heap.size = p at *
  go_loopw [35] (fun t wr => ∃ (j : Nat) (out : List UInt8) (a v : Value), t = .int .i64 j ∧ j ≤ ops.length ∧ Hid (BdAt p wr old size a v out) ∧ Hid (fresh2 p a) ∧ Hid (out.length ≤ 4000) ∧ Hid (Below w.heap.size w wr) ∧ Hid (patchL old.data.toList size (ops.drop j) j out = R)) (fun t _ => ops.length - (intOf t).toNat)
  case atStart => exact ⟨0, [], _, _, rfl, by omega, Hfr.out, Or.inl rfl, by simp [Hid], Hb2.out, HR.out⟩
  case round =>
    clear HR Hfr Hb2
    obtain ⟨j, out, a, v, rfl, hj, HBd, Hfa, Hout, Hb, HI⟩ := hrel
    by_cases hlt : j < ops.length
    · have hlt' : (j : Int) < ops.length := by omega
      have HI' := hide (patchL_step old.data.toList size ops j out hlt)
      rw [HI.out] at HI'
      obtain ⟨b, o, rfl, hc⟩ := HV.out (by omega)
      obtain ⟨c0, c1, c2, c3⟩ := hc j hlt
      have d0 := (Hb.out.cell (World.block_lt_of_cell? _ _ c0)).trans c0
      have d1 := (Hb.out.cell (World.block_lt_of_cell? _ _ c1)).trans c1
      have d2 := (Hb.out.cell (World.block_lt_of_cell? _ _ c2)).trans c2
      have d3 := (Hb.out.cell (World.block_lt_of_cell? _ _ c3)).trans c3
      have hok := HF.out ops[j] (List.getElem_mem hlt)
      have hba := (Below.refl wr.heap.size wr).alloc (Nat.le_refl _) (.cells #[.string ops[j].kind, .int .i64 ops[j].at_, .int .i64 ops[j].n, .string ops[j].data] 61)
      have Hba := hide (bthen Hb.out hba)
      have HA := hide (HAdd.out p _ a v out ops[j] (HBd.out.kept hba) Hfa.out (HE.out.below (bthen Hb.out hba)) hok Hout.out h1 h2 ho)
      clear hc c0 c1 c2 c3 HI HV hok hba HAdd HBd
      generalize ops[j] = op at *
      generalize pieceO old.data.toList size op = pc at *
      unfold AddRes at HA
      cases pc with
      | none =>
        have hR := HI'.out
        simp only at hR HA
        subst hR
        clear HI'
        go_wp2_with fail
        refine HA.out.mono ?_
        rintro r w3 ⟨rfl, hb3⟩
        have Hb3 := hide (Hba.out.trans (hb3.mono Hp.out))
        clear hb3
        go_wp2_with fail
        go_ret2
        exact ⟨⟨w3.heap.size, rfl, by simp, by simp [errP]⟩, Hb3.out.alloc Hb3.out.size _⟩
      | some l =>
        have hR := HI'.out
        simp only at hR HA
        clear HI'
        by_cases hfull : 4000 < out.length + l.length
        · rw [if_pos hfull] at hR
          simp only [if_pos hfull] at HA
          subst hR
          go_wp2_with fail
          refine HA.out.mono ?_
          rintro r w3 ⟨rfl, hb3⟩
          have Hb3 := hide (Hba.out.trans (hb3.mono Hp.out))
          clear hb3
          go_wp2_with fail
          go_ret2
          exact ⟨⟨w3.heap.size, rfl, by simp, by simp [errP, errO, errV]⟩, Hb3.out.alloc Hb3.out.size _⟩
        · rw [if_neg hfull] at hR
          simp only [if_neg hfull] at HA
          have HR := hide hR
          clear hR
          go_wp2_with fail
          refine HA.out.mono ?_
          rintro r w3 ⟨⟨rfl, a3, v3, h3, hf3⟩, hb3⟩
          have Hb3 := hide (Hba.out.trans (hb3.mono Hp.out))
          have H3 := hide h3
          have Hf3 := hide hf3
          clear hb3 h3 hf3
          go_wp2_with fail
          go_roundw
          case rel => exact ⟨j + 1, out ++ l, a3, v3, by go_num, by omega, H3.out, Hf3.out, by simp only [Hid, List.length_append]; omega, Hb3.out, HR.out.symm⟩
          case measure => simp [intOf]; omega
    · have hle : (ops.length : Int) ≤ (j : Int) := by omega
      have hR : R = .ok out := by have := HI.out; rw [List.drop_eq_nil_of_le (by omega), patchL] at this; exact this.symm
      subst hR
      have HS := hide (bstr_ok HBd.out)
      clear HI HBd HAdd HV
      go_wp2_with fail
      refine HS.out.mono ?_
      rintro r w3 ⟨rfl, hb3⟩
      have Hb3 := hide (Hb.out.trans (hb3.mono (Nat.le_succ_of_le Hp.out)))
      clear hb3 Hb
      go_wp2_with fail
      go_ret2
      exact ⟨rfl, Hb3.out⟩
end Go.Proofs.YtcenohaadggdiacDoor

namespace Go.Proofs.YtcenohaadggdiacDoor
open Go.RowKit
open Go.Delta (Opx)

theorem errP_form (e : PV) (c : Nat) (h : c ≠ 0) : ∃ t x, errP e c = .iface t x := by
  unfold errP
  split
  · exact ⟨_, _, rfl⟩
  · exact errO_form e.o c h
theorem ARes.nilOr {e : PV} {c : Nat} {at_ : Int} {w : World} {x : Value} (h : ARes e c at_ w x) : NilOr x c := by
  unfold ARes at h
  refine ⟨fun hc => ?_, fun hc => ?_⟩
  · rw [if_pos hc] at h
    exact h
  · rw [if_neg hc] at h
    split at h
    · rw [h]; exact errP_form e c hc
    · obtain ⟨q, rfl, _⟩ := h
      exact ⟨_, _, rfl⟩
theorem ARes.below {e : PV} {c : Nat} {at_ : Int} {w w' : World} {x : Value} (h : ARes e c at_ w x) (hb : Below w.heap.size w w') : ARes e c at_ w' x := by
  unfold ARes at h ⊢
  split
  · rename_i hc
    rw [if_pos hc] at h
    exact h
  · rename_i hc
    rw [if_neg hc] at h
    split
    · rename_i ha
      rw [if_pos ha] at h
      exact h
    · rename_i ha
      rw [if_neg ha] at h
      obtain ⟨q, rfl, d0, d1⟩ := h
      exact ⟨q, rfl, (hb.cell (World.block_lt_of_cell? _ _ d0)).trans d0, (hb.cell (World.block_lt_of_cell? _ _ d1)).trans d1⟩

theorem apply_ok (old : ByteArray) (size : Int) (v : Value) (ops : List Opx) (e : PV) (w : World) (hv : ORow w v ops) (hl : ops.length ≤ 1000000) (hs : Short ops) (he : PEr e w) :
    Calls Tryd.prog 21 #[.string old, .int .i64 size, v] w fun r w' => (∃ x, r = .returned (.tuple #[.string (str (patchOut old.data.toList size ops).1), x]) ∧ ARes e (patchOut old.data.toList size ops).2.1 (patchOut old.data.toList size ops).2.2 w' x) ∧ Below w.heap.size w w' := by
  unfold patchOut
  rw [lenL]
  by_cases h : 1 ≤ size ∧ size ≤ 64 ∧ old.size ≤ 4000
  · rw [if_pos h]
    obtain ⟨h1, h2, h3⟩ := h
    by_cases hf : (Go.Delta.faultO ops).1 = 0
    · rw [if_pos hf]
      obtain ⟨z, rfl⟩ := Int.eq_ofNat_of_zero_le (show 0 ≤ size by omega)
      refine (apply_main old z v ops e w hv hl hs he (by omega) (by omega) h3 hf).mono ?_
      rintro r w' ⟨hr, hb⟩
      refine ⟨?_, hb⟩
      rw [Int.toNat_natCast]
      cases hp : patchL old.data.toList z ops 0 [] with
      | ok all =>
        rw [hp] at hr
        exact ⟨_, hr, by rw [ARes, if_pos rfl]⟩
      | error ci =>
        obtain ⟨c, i⟩ := ci
        rw [hp] at hr
        obtain ⟨q, hr, d0, d1⟩ := hr
        have hc := (patchL_code _ _ _ _ _ _ _ hp).1
        exact ⟨_, hr, by rw [ARes, if_neg (by simp only; omega), if_neg (by simp only; omega)]; exact ⟨q, rfl, d0, d1⟩⟩
    · rw [if_neg hf]
      refine (apply_wrong old size v ops e w hv hl hs he h1 h2 h3 hf).mono ?_
      rintro r w' ⟨⟨q, hr, d0, d1⟩, hb⟩
      have hc := faultO_code ops
      have he6 : errP e (Go.Delta.faultO ops).1 = errO e.o (Go.Delta.faultO ops).1 := by
        rcases hc with h | h | h | h <;> rw [h] <;> rfl
      have hat : (Go.Delta.faultO ops).2 ≠ -1 := by
        unfold Go.Delta.faultO at hf ⊢
        split
        · rename_i hx
          rw [hx] at hf
          exact absurd rfl hf
        · simp only; omega
      exact ⟨⟨_, hr, by rw [ARes, if_neg hf, if_neg hat, he6]; exact ⟨q, rfl, d0, d1⟩⟩, hb⟩
  · rw [if_neg h]
    obtain ⟨a, c, rfl, _⟩ := hv
    refine (apply_bound old size a _ c e w he h).mono ?_
    rintro r w' ⟨hr, hb⟩
    exact ⟨⟨_, hr, by rw [ARes, if_neg (by decide), if_pos rfl]⟩, hb⟩
theorem applyAll (e : PV) : ApplyAll (PEr e) := fun old size ops hl hs v W hv hE => by
  refine (apply_ok old size v ops e W hv (by omega) hs hE).mono ?_
  rintro r w' ⟨⟨x, hr, hx⟩, hb⟩
  exact ⟨⟨x, hr, hx.nilOr⟩, hb⟩
end Go.Proofs.YtcenohaadggdiacDoor
