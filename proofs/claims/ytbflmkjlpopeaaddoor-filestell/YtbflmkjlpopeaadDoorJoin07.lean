/-
  Contracts of the document's GetOf, DropOf, SameFiles, and of the laws' OwnFiles, over this dump.
  Contracts of the laws' LongFiles, OwnFiles over this dump.
  Contracts of sum.divide, sum.More, sum.Sum over this dump; what the model spells for the bits of numbers.
  Contracts of the document's answer for sums of all (shift, MoreOf, SumOf, JoinSums) over this dump.
  Contract of the document's ListOf over this dump.
-/
import Derived.Test.YtbflmkjlpopeaadDoorJoin03
import Derived.Test.YtbflmkjlpopeaadDoorJoin04
import Derived.BigQuiet
import Derived.Deep.QuietTactic
import Derived.Laws.Cover1
import Derived.Test.YtbflmkjlpopeaadDoorJoin01
import Derived.Test.YtbflmkjlpopeaadDoorJoin02
import Derived.Laws.BitsAllLaws
import Derived.Deep.AppendLies
import Derived.Deep.RegionHeld3
namespace Go.Proofs.YtbflmkjlpopeaadDoor
open Go.RowKit
open Go.Files (Fl getF dropF)

set_option maxHeartbeats 1000000 in
set_option maxRecDepth 100000 in
theorem getOf_ok (v : Value) (l : List Fl) (a : ByteArray) (w : World) (hv : FRow w v l) (hl : l.length ≤ 1000000) :
    Calls Tryd.prog 21 #[v, .string a] w fun r w' => r = .returned (.tuple #[.string (gOut (getF l a)).1, .bool (gOut (getF l a)).2]) ∧ w' = w := by
  obtain ⟨q, c, rfl, hv⟩ := hv
  have HV := hide hv
  have hl' : (l.length : Int) ≤ 1000000 := by omega
  clear hv
  generalize hR : getF l a = R
  have HR := hide hR
  clear hR
  go_enter Tryd.func21, Tryd.ntmps21
  go_wp2_with fail
  go_loop [6] (fun t => ∃ j : Nat, t = .int .i64 j ∧ j ≤ l.length ∧ Hid (getF (l.drop j) a = R)) (fun t => l.length - (intOf t).toNat)
  case atStart => exact ⟨0, rfl, by omega, HR.out⟩
  case round =>
    clear HR
    obtain ⟨j, rfl, hj, HI⟩ := hrel
    by_cases hlt : j < l.length
    · have hlt' : (j : Int) < l.length := by omega
      obtain ⟨b, o, rfl, hc⟩ := HV.out (by omega)
      obtain ⟨c0, c1⟩ := hc j hlt
      have Hs := hide (getF_step l j hlt a)
      rw [HI.out] at Hs
      clear hc HV HI
      generalize l[j] = x at *
      by_cases hx : x.name = a
      · have e := same_bytes hx
        have hR := Hs.out
        rw [if_pos hx] at hR
        subst hR
        clear Hs hx
        go_wp2_with fail
        go_ret2
        exact ⟨rfl, rfl⟩
      · have e := other_bytes hx
        have hR := Hs.out
        rw [if_neg hx] at hR
        have HR := hide hR
        clear Hs hx hR
        go_wp2_with fail
        go_round
        case rel => exact ⟨j + 1, by go_num, by omega, HR.out.symm⟩
        case measure => simp [intOf]; omega
    · have hle : (l.length : Int) ≤ (j : Int) := by omega
      have hR : R = none := by rw [← HI.out, List.drop_eq_nil_of_le (by omega), getF]
      subst hR
      go_wp2_with fail
      go_ret2
      exact ⟨rfl, rfl⟩

set_option maxHeartbeats 1000000 in
set_option maxRecDepth 100000 in
theorem dropOf_ok (v : Value) (l : List Fl) (a : ByteArray) (w : World) (hv : FRow w v l) (hl : l.length ≤ 1000) :
    Calls Tryd.prog 24 #[v, .string a] w fun r w' => (∃ u, r = .returned u ∧ FRow w' u (dropF l a)) ∧ Below w.heap.size w w' := by
  obtain ⟨i0, hi, hz0, hz1, hz2⟩ := info_parts Tryd.info62
  obtain ⟨q, c, rfl, hv⟩ := hv
  have HV := hide hv
  have hl' : (l.length : Int) ≤ 1000 := by omega
  clear hv
  go_enter Tryd.func24, Tryd.ntmps24
  go_wp2_with fail
  go_loopw [5, 6] (fun t5 t6 wr => ∃ (j : Nat) (out : List Fl), t6 = .int .i64 j ∧ j ≤ l.length ∧ out.length ≤ j ∧ Hid (out = dropF (l.take j) a) ∧ Hid (wr.ownsRow w.heap.size 62 2 t5 out.length (fcs out)) ∧ Hid (Below w.heap.size w wr)) (fun _ t6 _ => l.length - (intOf t6).toNat)
  case atStart => exact ⟨0, [], rfl, by omega, by simp, by simp [Hid, dropF], World.ownsRow_nil _ _ _ _, Below.refl _ _⟩
  case round =>
    obtain ⟨j, out, rfl, hj, hlen, Ho, Hown, Hb⟩ := hrel
    by_cases hlt : j < l.length
    · have hlt' : (j : Int) < l.length := by omega
      obtain ⟨b, o, rfl, hc⟩ := HV.out (by omega)
      obtain ⟨c0, c1⟩ := hc j hlt
      have d0 := (Hb.out.cell (World.block_lt_of_cell? _ _ c0)).trans c0
      have d1 := (Hb.out.cell (World.block_lt_of_cell? _ _ c1)).trans c1
      have Hs := hide (dropF_snoc l j hlt a)
      rw [← Ho.out] at Hs
      clear hc c0 c1 Ho
      generalize l[j] = x at *
      by_cases hx : x.name = a
      · have e := same_bytes hx
        have hR := Hs.out
        rw [if_pos hx] at hR
        have HR := hide hR
        clear Hs hx hR
        go_wp2_with fail
        go_roundw
        case rel => exact ⟨j + 1, out, by go_num, by omega, by omega, HR.out.symm, Hown.out, Hb.out⟩
        case measure => simp [intOf]; omega
      · have e := other_bytes hx
        have hR := Hs.out
        rw [if_neg hx] at hR
        have HR := hide hR
        clear Hs hx hR
        go_wp2_with (first | (at_builtin; refine wpList_append_own _ rfl (.tmp 20) (.tmp 25) 32 rfl w.heap.size 62 i0 (.agg #[.string ⟨#[]⟩, .string ⟨#[]⟩]) 2 32 Tryd.underlying32 hi hz0 hz1 hz2 rfl (by decide) u5 out.length (fcs out) rfl ?own ⟨wr.heap.size, 0, none⟩ 1 1 [.string x.name, .string x.data] rfl rfl ?c1 ?c2 ?b1 ?b2 ?b3 ?next))
        case own => exact Hown.out.alloc _
        case c1 => intro j u hj; match j, hj with | 0, hj | 1, hj => simp at hj; subst hj; simp [Addr.add]
        case c2 => intro u hu; simp at hu; rcases hu with rfl | rfl <;> rfl
        case b1 => unfold maxLen; omega
        case b2 => omega
        case b3 => have := Hb.out.size; simp; omega
        case next =>
          intro v5 w5 hown5 hgrow5 _
          have hb5 : Below w.heap.size wr w5 := ((Below.refl _ _).alloc Hb.out.size _).grown hgrow5 (by have := Hb.out.size; simp; omega) (fun k hk => (Hown.out.lt k hk).1)
          have Hb5 := hide (Hb.out.trans hb5)
          have Hown5 := hide hown5
          clear hb5 hown5 hgrow5 Hown Hb
          go_wp2_with fail
          go_roundw
          case rel =>
            refine ⟨j + 1, out ++ [x], by go_num, by omega, by simp; omega, HR.out.symm, ?_, Hb5.out⟩
            have h := Hown5.out
            rw [fcs, cs2_snoc]
            simpa [Hid] using h
          case measure => simp [intOf]; omega
    · have hle : (l.length : Int) ≤ (j : Int) := by omega
      have he : out = dropF l a := by have := Ho.out; rw [List.take_of_length_le (by omega)] at this; exact this
      subst he
      go_wp2_with fail
      go_ret
      exact ⟨⟨_, rfl, Row2.of_own Hown.out⟩, Hb.out⟩
end Go.Proofs.YtbflmkjlpopeaadDoor

namespace Go.Proofs.YtbflmkjlpopeaadDoor
open Go.RowKit
open Go.Files (Fl)

/-- Is a file too long for a law? -/
def longX (most : Int) (x : Fl) : Bool := decide (30 < x.name.size) || (decide (most < x.data.size) && decide (x.data.size ≠ 4001))
def longF (l : List Fl) (most : Int) : Bool := decide (25 < l.length) || l.any (longX most)
theorem longF_false {l : List Fl} {most : Int} (h : longF l most = false) : l.length ≤ 25 ∧ ∀ x ∈ l, x.name.size ≤ 30 ∧ ((x.data.size : Int) ≤ most ∨ x.data.size = 4001) := by
  simp only [longF, Bool.or_eq_false_iff, decide_eq_false_iff_not, List.any_eq_false] at h
  refine ⟨by omega, fun o ho => ?_⟩
  have := h.2 o ho
  simp only [longX, Bool.or_eq_true, Bool.and_eq_true, decide_eq_true_eq] at this
  omega

set_option maxHeartbeats 2000000 in
set_option maxRecDepth 100000 in
theorem longFiles_ok (v : Value) (l : List Fl) (most : Int) (w : World) (hv : FRow w v l) :
    Calls Tryd.prog 13 #[v, .int .i64 most] w fun r w' => r = .returned (.int .i64 (bit (longF l most))) ∧ w' = w := by
  obtain ⟨a, c, rfl, hv⟩ := hv
  have HV := hide hv
  clear hv
  by_cases h25 : 25 < l.length
  · have h25' : (25 : Int) < l.length := by omega
    have HB : Hid (longF l most = true) := by simp [Hid, longF, h25]
    go_enter Tryd.func13, Tryd.ntmps13
    go_wp2_with fail
    go_ret
    exact ⟨by rw [HB.out]; rfl, rfl⟩
  · have h25' : (l.length : Int) ≤ 25 := by omega
    have H0 : Hid ((l.drop 0).any (longX most) = longF l most) := by rw [List.drop_zero]; simp only [Hid, longF]; rw [decide_eq_false (by omega)]; rfl
    generalize longF l most = B at *
    go_enter Tryd.func13, Tryd.ntmps13
    go_wp2_with fail
    go_loopw [5] (fun t wr => ∃ j : Nat, t = .int .i64 j ∧ j ≤ l.length ∧ Hid ((l.drop j).any (longX most) = B) ∧ wr = w) (fun t _ => l.length - (intOf t).toNat)
    case atStart => exact ⟨0, rfl, by omega, H0.out, rfl⟩
    case round =>
      clear H0
      obtain ⟨j, rfl, hj, HI, rfl⟩ := hrel
      by_cases hlt : j < l.length
      · have hlt' : (j : Int) < l.length := by omega
        obtain ⟨b, o, rfl, hc⟩ := HV.out (by omega)
        obtain ⟨d0, d1⟩ := hc j hlt
        have hI := HI.out
        rw [List.drop_eq_getElem_cons hlt, List.any_cons] at hI
        have HI' := hide hI
        clear hc HV HI hI
        generalize l[j] = x at *
        obtain ⟨k, d⟩ := x
        simp only [longX] at d0 d1 HI'
        by_cases g1 : 30 < k.size
        · have c1 : decide ((30 : Int) < k.size) = true := by simp; omega
          have hI := HI'.out
          rw [decide_eq_true g1, Bool.true_or, Bool.true_or] at hI
          subst hI
          clear g1 HI'
          go_wp2_with fail
          go_ret
          exact ⟨rfl, rfl⟩
        · have c1 : decide ((30 : Int) < k.size) = false := by simp; omega
          by_cases g2 : most < d.size
          · have c2 : decide (most < (d.size : Int)) = true := by simp; omega
            by_cases g3 : d.size = 4001
            · have c3 : ((d.size : Int) != 4001) = false := by simp; omega
              have hI := HI'.out
              rw [decide_eq_false g1, decide_eq_false (show ¬ d.size ≠ 4001 by omega), Bool.and_false, Bool.false_or, Bool.false_or] at hI
              have HI := hide hI
              clear g1 g2 g3 HI' hI
              go_wp2_with fail
              go_roundw
              case rel => exact ⟨j + 1, by go_num, by omega, HI.out, trivial⟩
              case measure => simp [intOf]; omega
            · have c3 : ((d.size : Int) != 4001) = true := by simp; omega
              have hI := HI'.out
              rw [decide_eq_true g2, decide_eq_true (show d.size ≠ 4001 from g3), Bool.and_true, Bool.or_true, Bool.true_or] at hI
              subst hI
              clear g1 g2 g3 HI'
              go_wp2_with fail
              go_ret
              exact ⟨rfl, rfl⟩
          · have c2 : decide (most < (d.size : Int)) = false := by simp; omega
            have hI := HI'.out
            rw [decide_eq_false g1, decide_eq_false g2, Bool.false_and, Bool.false_or, Bool.false_or] at hI
            have HI := hide hI
            clear g1 g2 HI' hI
            go_wp2_with fail
            go_roundw
            case rel => exact ⟨j + 1, by go_num, by omega, HI.out, trivial⟩
            case measure => simp [intOf]; omega
      · have hle : (l.length : Int) ≤ (j : Int) := by omega
        have hI := HI.out
        rw [List.drop_eq_nil_of_le (by omega), List.any_nil] at hI
        subst hI
        clear HI
        go_wp2_with fail
        go_ret
        exact ⟨rfl, rfl⟩

set_option maxHeartbeats 1000000 in
set_option maxRecDepth 100000 in
theorem ownFiles_none (a : Option Addr) (c : Nat) (w : World) :
    Calls Tryd.prog 14 #[.slice a 0 c] w fun r w' => (∃ u, r = .returned u ∧ FRow w' u []) ∧ Below w.heap.size w w' := by
  obtain ⟨i0, hi, hz0, hz1, hz2⟩ := info_parts Tryd.info62
  cases a with
  | none =>
    go_enter Tryd.func14, Tryd.ntmps14
    go_wp2
    go_ret
    exact ⟨⟨_, rfl, ⟨none, 0, rfl, fun h => by simp at h⟩⟩, Below.refl _ _⟩
  | some ad =>
    go_enter Tryd.func14, Tryd.ntmps14
    go_wp2_with (first | (at_builtin; refine wpList_append_own _ rfl (.tmp 4) (.tmp 5) 32 rfl w.heap.size 62 i0 (.agg #[.string ⟨#[]⟩, .string ⟨#[]⟩]) 2 32 Tryd.underlying32 hi hz0 hz1 hz2 rfl (by decide) (.slice none 0 0) 0 [] rfl ?own ad 0 c [] rfl rfl ?c1 ?c2 ?b1 ?b2 ?b3 ?next))
    case own => exact World.ownsRow_nil _ _ _ _
    case c1 => intro j u hu; simp at hu
    case c2 => intro u hu; cases hu
    case b1 => unfold maxLen; omega
    case b2 => omega
    case b3 => exact Nat.le_refl _
    case next =>
      intro v5 w5 hown5 hgrow5 _
      have Hb5 := hide ((Below.refl w.heap.size w).grown hgrow5 (Nat.le_refl _) (fun k hk => by cases hk))
      have Hown5 := hide hown5
      clear hown5 hgrow5
      go_wp2_with fail
      go_ret
      exact ⟨⟨_, rfl, Row2.of_own (l := ([] : List Fl)) Hown5.out⟩, Hb5.out⟩

set_option maxHeartbeats 1000000 in
set_option maxRecDepth 100000 in
theorem ownFiles_ok (v : Value) (l : List Fl) (w : World) (hv : FRow w v l) (hl : l.length ≤ 1000) :
    Calls Tryd.prog 14 #[v] w fun r w' => (∃ u, r = .returned u ∧ FRow w' u l) ∧ Below w.heap.size w w' := by
  obtain ⟨i0, hi, hz0, hz1, hz2⟩ := info_parts Tryd.info62
  have hv' := hv
  obtain ⟨a, c, rfl, _⟩ := hv'
  by_cases hp : 0 < l.length
  · obtain ⟨b, o, rfl, hn⟩ := Row2.news hv hp
    have Hn := hide hn
    clear hn hv
    go_enter Tryd.func14, Tryd.ntmps14
    go_wp2_with (first | (at_builtin; refine wpList_append_own _ rfl (.tmp 4) (.tmp 5) 32 rfl w.heap.size 62 i0 (.agg #[.string ⟨#[]⟩, .string ⟨#[]⟩]) 2 32 Tryd.underlying32 hi hz0 hz1 hz2 rfl (by decide) (.slice none 0 0) 0 [] rfl ?own ⟨b, o, none⟩ l.length c (fcs l) rfl ?c0 ?c1 ?c2 ?b1 ?b2 ?b3 ?next))
    case own => exact World.ownsRow_nil _ _ _ _
    case c0 => exact cs2_length l
    case c1 => intro j u hu; have h := Hn.out j u hu; rw [Go.WideShapes.add_plain] at h; exact h
    case c2 => intro u hu; simp only [fcs, cs2, List.mem_flatMap] at hu; obtain ⟨x, _, hu⟩ := hu; simp at hu; rcases hu with rfl | rfl <;> rfl
    case b1 => unfold maxLen; omega
    case b2 => omega
    case next =>
      intro v5 w5 hown5 hgrow5 _
      have Hb5 := hide ((Below.refl w.heap.size w).grown hgrow5 (Nat.le_refl _) (fun k hk => by cases hk))
      have Hown5 := hide hown5
      clear hown5 hgrow5
      go_wp2_with fail
      go_ret
      refine ⟨⟨_, rfl, ?_⟩, Hb5.out⟩
      have h := Hown5.out
      exact Row2.of_own h
  · have hz : l = [] := by cases l with
      | nil => rfl
      | cons x r => simp at hp
    subst hz
    exact ownFiles_none a c w

end Go.Proofs.YtbflmkjlpopeaadDoor

namespace Go.Proofs.YtbflmkjlpopeaadDoor
open Go.RowKit

theorem i64_xor_nat (a b : Nat) (ha : a < 9223372036854775808) (hb : b < 9223372036854775808) : bits .xor .i64 (a : Int) (b : Int) = ((a ^^^ b : Nat) : Int) := by
  have hx : a ^^^ b < 2 ^ 63 := Nat.xor_lt_two_pow (by omega) (by omega)
  have h1 : (BitVec.ofInt 64 (a : Int)).toNat = a := by
    rw [BitVec.ofInt_natCast, BitVec.toNat_ofNat]; exact Nat.mod_eq_of_lt (by omega)
  have h2 : (BitVec.ofInt 64 (b : Int)).toNat = b := by
    rw [BitVec.ofInt_natCast, BitVec.toNat_ofNat]; exact Nat.mod_eq_of_lt (by omega)
  show IntKind.i64.wrap ((BitVec.ofInt 64 (a : Int) ^^^ BitVec.ofInt 64 (b : Int)).toNat : Int) = _
  rw [BitVec.toNat_xor, h1, h2, IntKind.wrap_i64]
  omega
theorem i64_and_nat (a b : Nat) (ha : a < 9223372036854775808) (hb : b < 9223372036854775808) : bits .and .i64 (a : Int) (b : Int) = ((a &&& b : Nat) : Int) := by
  have hx : a &&& b < 2 ^ 63 := Nat.and_lt_two_pow _ (by omega)
  have h1 : (BitVec.ofInt 64 (a : Int)).toNat = a := by
    rw [BitVec.ofInt_natCast, BitVec.toNat_ofNat]; exact Nat.mod_eq_of_lt (by omega)
  have h2 : (BitVec.ofInt 64 (b : Int)).toNat = b := by
    rw [BitVec.ofInt_natCast, BitVec.toNat_ofNat]; exact Nat.mod_eq_of_lt (by omega)
  show IntKind.i64.wrap ((BitVec.ofInt 64 (a : Int) &&& BitVec.ofInt 64 (b : Int)).toNat : Int) = _
  rw [BitVec.toNat_and, h1, h2, IntKind.wrap_i64]
  omega
theorem ret_u32 {a b : Int} (h : a = b) : Ending.returned (.int .u32 a) = .returned (.int .u32 b) := by rw [h]

theorem u32_sh (x : Nat) (hx : x < 2 ^ 32) : bits .xor .u32 ((x : Int) / 2) (3988292384 * bits .and .u32 (x : Int) 1 % 4294967296) = (Go.Crc.sh x : Nat) := by
  have e1 : bits .and .u32 (x : Int) 1 = ((x % 2 : Nat) : Int) := by
    rw [show (1 : Int) = ((1 : Nat) : Int) from rfl, u32_and_nat x 1 hx (by omega), nat_mask1]
  rw [e1, show (x : Int) / 2 = ((x / 2 : Nat) : Int) by omega, show (3988292384 * ((x % 2 : Nat) : Int) % 4294967296) = ((3988292384 * (x % 2) : Nat) : Int) by omega, u32_xor_nat _ _ (by omega) (by omega)]
  rfl

set_option maxHeartbeats 1000000 in
set_option maxRecDepth 100000 in
theorem divide_ok (c : Nat) (w : World) (hc : c < 4294967296) : Calls Tryd.prog 108 #[.int .u32 c] w fun r w' => r = .returned (.int .u32 (Go.Crc.shs 8 c : Nat)) ∧ w' = w := by
  go_enter Tryd.func108, Tryd.ntmps108
  go_wp2_with fail
  go_loop [0, 3] (fun t0 t3 => ∃ i : Nat, t3 = .int .i64 i ∧ i ≤ 8 ∧ t0 = .int .u32 (Go.Crc.shs i c : Nat)) (fun _ t3 => 8 - (intOf t3).toNat)
  case atStart => exact ⟨0, rfl, by omega, rfl⟩
  case round =>
    obtain ⟨i, rfl, hi, rfl⟩ := hrel
    have hx := Go.Crc.shs_lt i c hc
    have He : Hid (Go.Crc.sh (Go.Crc.shs i c) = Go.Crc.shs (i + 1) c) := rfl
    by_cases hlt : i < 8
    · have hlt' : (i : Int) < 8 := by omega
      generalize Go.Crc.shs i c = x at *
      go_wp2_with fail
      go_round
      case rel => exact ⟨i + 1, by go_num, by omega, by rw [u32_sh x hx, He.out]⟩
      case measure => simp [intOf]; omega
    · have hle : (8 : Int) ≤ i := by omega
      obtain rfl : i = 8 := by omega
      go_wp2_with fail
      go_ret
      exact ⟨rfl, rfl⟩

theorem u32_not (c : Nat) (hc : c < 4294967296) : bits .xor .u32 IntKind.u32.max (c : Int) = ((c ^^^ Go.Crc.ones : Nat) : Int) := by
  rw [show IntKind.u32.max = ((Go.Crc.ones : Nat) : Int) from rfl, u32_xor_nat _ _ Go.Crc.ones_lt hc, Nat.xor_comm]

set_option maxHeartbeats 1000000 in
set_option maxRecDepth 100000 in
theorem more_ok (c : Nat) (s : ByteArray) (w : World) (hc : c < 4294967296) (hs : s.size ≤ 1000000) : Calls Tryd.prog 95 #[.int .u32 c, .string s] w fun r w' => r = .returned (.int .u32 (Go.Crc.crc c s.data.toList : Nat)) ∧ w' = w := by
  have hs' : (s.size : Int) ≤ 1000000 := by omega
  have hsg : IntKind.u32.signed = false := rfl
  have hnot := u32_not c hc
  have hc1 : c ^^^ Go.Crc.ones < 2 ^ 32 := Nat.xor_lt_two_pow hc Go.Crc.ones_lt
  have Hc : Hid (Go.Crc.crc c s.data.toList = Go.Crc.run (c ^^^ Go.Crc.ones) s.data.toList ^^^ Go.Crc.ones) := rfl
  generalize c ^^^ Go.Crc.ones = d at *
  go_enter Tryd.func95, Tryd.ntmps95
  go_wp2_with fail
  go_loop [0, 5] (fun t0 t5 => ∃ i : Nat, t5 = .int .i64 i ∧ i ≤ s.size ∧ t0 = .int .u32 (Go.Crc.run d (s.data.toList.take i) : Nat)) (fun _ t5 => s.size - (intOf t5).toNat)
  case atStart => exact ⟨0, rfl, by omega, rfl⟩
  case round =>
    obtain ⟨i, rfl, hi, rfl⟩ := hrel
    have hx : Go.Crc.run d (s.data.toList.take i) < 2 ^ 32 := Go.Crc.run_lt _ _ hc1
    by_cases hlt : i < s.size
    · have hlt' : (i : Int) < s.size := by omega
      have hb := byte_lt s[i]
      have hn := Go.Crc.run_snoc d (s.data.toList.take i) s[i]
      rw [← takeL s i hlt] at hn
      have He := hide hn
      clear hn
      generalize Go.Crc.run d (s.data.toList.take i) = x at *
      have hxb : x ^^^ s[i].toNat < 2 ^ 32 := Nat.xor_lt_two_pow hx (by omega)
      have hxe : bits .xor .u32 (x : Int) (s[i].toNat : Int) = ((x ^^^ s[i].toNat : Nat) : Int) := u32_xor_nat _ _ hx (by omega)
      have HD := hide (fun W => divide_ok (x ^^^ s[i].toNat) W hxb)
      go_wp2_with fail
      refine (HD.out _).mono ?_
      rintro e w1 ⟨rfl, rfl⟩
      go_wp2_with fail
      go_round
      case rel => exact ⟨i + 1, by go_num, by omega, by rw [He.out]⟩
      case measure => simp [intOf]; omega
    · have hle : (s.size : Int) ≤ i := by omega
      obtain rfl : i = s.size := by omega
      have ht : s.data.toList.take s.size = s.data.toList := by rw [← lenL s, List.take_length]
      rw [ht] at hx ⊢
      have hn2 := u32_not _ hx
      rw [← Hc.out] at hn2
      clear ht Hc
      generalize Go.Crc.run d s.data.toList = x at *
      go_wp2_with fail
      go_ret
      exact ⟨rfl, rfl⟩

set_option maxHeartbeats 1000000 in
theorem sum_ok (s : ByteArray) (w : World) (hs : s.size ≤ 1000000) : Calls Tryd.prog 70 #[.string s] w fun r w' => r = .returned (.int .u32 (Go.Crc.crc 0 s.data.toList : Nat)) ∧ w' = w := by
  have H := hide (fun W => more_ok 0 s W (by omega) hs)
  generalize Go.Crc.crc 0 s.data.toList = x at *
  go_enter Tryd.func70, Tryd.ntmps70
  go_wp2_with fail
  refine (H.out _).mono ?_
  rintro e w1 ⟨rfl, rfl⟩
  go_wp2_with fail
  go_ret
  exact ⟨rfl, rfl⟩
end Go.Proofs.YtbflmkjlpopeaadDoor

namespace Go.Proofs.YtbflmkjlpopeaadDoor
open Go.RowKit



set_option maxHeartbeats 1000000 in
theorem shift_ok (c : Nat) (w : World) (hc : c < 4294967296) : Calls Tryd.prog 96 #[.int .i64 c] w fun r w' => r = .returned (.int .i64 (Go.Crc.sh c : Nat)) ∧ w' = w := by
  rcases Nat.mod_two_eq_zero_or_one c with h | h
  · have h1 : ((c : Int) % 2 == 1) = false := by simp; omega
    have e : (c : Int) / 2 = (Go.Crc.sh c : Nat) := by unfold Go.Crc.sh; rw [h, Nat.mul_zero, Nat.xor_zero]; omega
    have E := hide e
    clear h e
    go_enter Tryd.func96, Tryd.ntmps96
    go_wp2_with fail
    go_ret
    exact ⟨ret_int E.out, rfl⟩
  · have h1 : ((c : Int) % 2 == 1) = true := by simp; omega
    have e : bits .xor .i64 ((c : Int) / 2) 3988292384 = (Go.Crc.sh c : Nat) := by
      rw [show (c : Int) / 2 = ((c / 2 : Nat) : Int) by omega, show (3988292384 : Int) = ((3988292384 : Nat) : Int) from rfl, i64_xor_nat _ _ (by omega) (by omega)]
      unfold Go.Crc.sh
      rw [h]
    have E := hide e
    clear h e
    go_enter Tryd.func96, Tryd.ntmps96
    go_wp2_with fail
    go_ret
    exact ⟨ret_int E.out, rfl⟩

theorem i64_not (c : Nat) (hc : c < 4294967296) : bits .xor .i64 (c : Int) 4294967295 = ((c ^^^ Go.Crc.ones : Nat) : Int) :=
  i64_xor_nat c Go.Crc.ones (by omega) (by decide)

set_option maxHeartbeats 1000000 in
set_option maxRecDepth 100000 in
theorem moreOf_ok (c : Nat) (s : ByteArray) (w : World) (hc : c < 4294967296) (hs : s.size ≤ 1000000) : Calls Tryd.prog 71 #[.int .i64 c, .string s] w fun r w' => r = .returned (.int .i64 (Go.Crc.crc c s.data.toList : Nat)) ∧ w' = w := by
  have hs' : (s.size : Int) ≤ 1000000 := by omega
  have hnot := i64_not c hc
  have hc1 : c ^^^ Go.Crc.ones < 2 ^ 32 := Nat.xor_lt_two_pow hc Go.Crc.ones_lt
  have Hc : Hid (Go.Crc.crc c s.data.toList = Go.Crc.run (c ^^^ Go.Crc.ones) s.data.toList ^^^ Go.Crc.ones) := rfl
  generalize c ^^^ Go.Crc.ones = d at *
  go_enter Tryd.func71, Tryd.ntmps71
  go_wp2_with fail
  go_loop [0, 5] (fun t0 t5 => ∃ i : Nat, t5 = .int .i64 i ∧ i ≤ s.size ∧ t0 = .int .i64 (Go.Crc.run d (s.data.toList.take i) : Nat)) (fun _ t5 => s.size - (intOf t5).toNat)
  case atStart => exact ⟨0, rfl, by omega, rfl⟩
  case round =>
    obtain ⟨i, rfl, hi, rfl⟩ := hrel
    have hx : Go.Crc.run d (s.data.toList.take i) < 2 ^ 32 := Go.Crc.run_lt _ _ hc1
    by_cases hlt : i < s.size
    · have hlt' : (i : Int) < s.size := by omega
      have hb := byte_lt s[i]
      have hn := Go.Crc.run_snoc d (s.data.toList.take i) s[i]
      rw [← takeL s i hlt] at hn
      have He := hide hn
      clear hn
      generalize Go.Crc.run d (s.data.toList.take i) = x at *
      have hxb : x ^^^ s[i].toNat < 2 ^ 32 := Nat.xor_lt_two_pow hx (by omega)
      have hxe : bits .xor .i64 (x : Int) (s[i].toNat : Int) = ((x ^^^ s[i].toNat : Nat) : Int) := i64_xor_nat _ _ (by omega) (by omega)
      generalize x ^^^ s[i].toNat = y at *
      go_wp2_with fail
      go_loop [0, 6] (fun t0 t6 => ∃ j : Nat, t6 = .int .i64 j ∧ j ≤ 8 ∧ t0 = .int .i64 (Go.Crc.shs j y : Nat)) (fun _ t6 => 8 - (intOf t6).toNat)
      case atStart => exact ⟨0, rfl, by omega, rfl⟩
      case round =>
        obtain ⟨j, rfl, hj, rfl⟩ := hrel
        have hz := Go.Crc.shs_lt j y hxb
        by_cases hlj : j < 8
        · have hlj' : (j : Int) < 8 := by omega
          have HS := hide (fun W => shift_ok (Go.Crc.shs j y) W hz)
          have Hn : Hid (Go.Crc.sh (Go.Crc.shs j y) = Go.Crc.shs (j + 1) y) := rfl
          generalize Go.Crc.shs j y = z at *
          go_wp2_with fail
          refine (HS.out _).mono ?_
          rintro e w1 ⟨rfl, rfl⟩
          go_wp2_with fail
          go_round
          case rel => exact ⟨j + 1, by go_num, by omega, by rw [Hn.out]⟩
          case measure => simp [intOf]; omega
        · have hlj' : (8 : Int) ≤ j := by omega
          obtain rfl : j = 8 := by omega
          go_wp2_with fail
          go_round
          case rel => exact ⟨i + 1, by go_num, by omega, by rw [He.out]⟩
          case measure => simp [intOf]; omega
    · have hle : (s.size : Int) ≤ i := by omega
      obtain rfl : i = s.size := by omega
      have ht : s.data.toList.take s.size = s.data.toList := by rw [← lenL s, List.take_length]
      rw [ht] at hx ⊢
      have hn2 := i64_not _ hx
      rw [← Hc.out] at hn2
      clear ht Hc
      generalize Go.Crc.run d s.data.toList = x at *
      go_wp2_with fail
      go_ret
      exact ⟨rfl, rfl⟩

set_option maxHeartbeats 1000000 in
theorem sumOf_ok (s : ByteArray) (w : World) (hs : s.size ≤ 1000000) : Calls Tryd.prog 49 #[.string s] w fun r w' => r = .returned (.int .i64 (Go.Crc.crc 0 s.data.toList : Nat)) ∧ w' = w := by
  have H := hide (fun W => moreOf_ok 0 s W (by omega) hs)
  generalize Go.Crc.crc 0 s.data.toList = x at *
  go_enter Tryd.func49, Tryd.ntmps49
  go_wp2_with fail
  refine (H.out _).mono ?_
  rintro e w1 ⟨rfl, rfl⟩
  go_wp2_with fail
  go_ret
  exact ⟨rfl, rfl⟩
end Go.Proofs.YtbflmkjlpopeaadDoor

namespace Go.Proofs.YtbflmkjlpopeaadDoor
open Go.RowKit
open Go.Files (Fl Ln)

set_option maxHeartbeats 4000000 in
set_option maxRecDepth 100000 in
theorem listOf_ok (v : Value) (l : List Fl) (w : World) (hv : FRow w v l) (hl : l.length ≤ 1000) (hs : ∀ x ∈ l, x.data.size ≤ 1000000) :
    Calls Tryd.prog 29 #[v] w fun r w' => (∃ u, r = .returned u ∧ MRow w' u (l.map lnOf)) ∧ Below w.heap.size w w' := by
  obtain ⟨i0, hi, hz0, hz1, hz2⟩ := info_parts Tryd.info83
  obtain ⟨q, c, rfl, hv⟩ := hv
  have HV := hide hv
  have HS := hide hs
  have hl' : (l.length : Int) ≤ 1000 := by omega
  clear hv hs
  go_enter Tryd.func29, Tryd.ntmps29
  go_wp2_with fail
  go_loopw [3, 4] (fun t3 t4 wr => ∃ (j : Nat), t4 = .int .i64 j ∧ j ≤ l.length ∧ Hid (wr.ownsRow w.heap.size 83 3 t3 j (mcs ((l.take j).map lnOf))) ∧ Hid (Below w.heap.size w wr)) (fun _ t4 _ => l.length - (intOf t4).toNat)
  case atStart => exact ⟨0, rfl, by omega, World.ownsRow_nil _ _ _ _, Below.refl _ _⟩
  case round =>
    obtain ⟨j, rfl, hj, Hown, Hb⟩ := hrel
    by_cases hlt : j < l.length
    · have hlt' : (j : Int) < l.length := by omega
      obtain ⟨b, o, rfl, hc⟩ := HV.out (by omega)
      obtain ⟨c0, c1⟩ := hc j hlt
      have l0 := World.block_lt_of_cell? _ _ c0
      have d0 := (Hb.out.cell l0).trans c0
      have d1 := (Hb.out.cell (p := ⟨b, o + j * 2 + 1, none⟩) l0).trans c1
      have hbw : b < w.heap.size := l0
      have hbs := Hb.out.size
      have Hsn := hide (List.take_succ_eq_append_getElem hlt)
      have HSu := hide (fun W => sumOf_ok l[j].data W (HS.out _ (List.getElem_mem hlt)))
      have Hln : Hid (lnOf l[j] = ⟨l[j].name, (l[j].data.size : Int), (Go.Crc.crc 0 l[j].data.data.toList : Nat)⟩) := rfl
      clear hc c0 c1
      generalize l[j] = x at *
      generalize Go.Crc.crc 0 x.data.data.toList = k at *
      have C0z := hide (fun obj => (((Below.refl wr.heap.size wr).alloc (Nat.le_refl _) obj).drew.cell (p := ⟨b, o + j * 2, none⟩) (show b < wr.heap.size by omega)).trans d0)
      have C1z := hide (fun obj => (((Below.refl wr.heap.size wr).alloc (Nat.le_refl _) obj).drew.cell (p := ⟨b, o + j * 2 + 1, none⟩) (show b < wr.heap.size by omega)).trans d1)
      have Hvb : Hid (u3.ownBlock ≠ some b) := fun e => by have := (Hown.out.lt b e).1; omega
      go_wp2_with fail
      go_region_held3 (fun w' => w'.cell? ⟨b, o + j * 2, none⟩ = some (.string x.name) ∧ w'.cell? ⟨b, o + j * 2 + 1, none⟩ = some (.string x.data)) (first | exact ⟨d0, d1⟩ | exact ⟨C0z.out _, C1z.out _⟩ | exact ⟨m0, m1⟩)
        (first
          | (go_at_call 49; refine (HSu.out _).mono ?_; rintro r w9 ⟨rfl, rfl⟩)
          | (refine step_append_lies _ (by rfl) _ _ _ (by rfl) w.heap.size 83 i0 _ 3 32 Tryd.underlying53 hi hz0 hz1 hz2 rfl (by omega) u3 j (mcs ((l.take j).map lnOf)) (by rfl) ((Hown.out.alloc _).drew)
              ⟨wr.heap.size, 0, none⟩ 1 1 [.string x.name, .int .i64 x.data.size, .int .i64 k] (by rfl) (by rfl) (World.news_of_block (cs := #[.string x.name, .int .i64 x.data.size, .int .i64 k]) (t := 83) (fr := (0, 0)) (heap_alloc_new wr _)) (by simp [Value.oneCell'])
              (by omega) (by unfold maxLen; omega) (by omega) (by simp; omega) (wr.heap.size + 1) (by simp) ?_; intro gg cap w1 hown1 hgrow hat hlt1; have m0 := (hgrow.cell_far ⟨b, o + j * 2, none⟩ (by simp; omega) (Ne.symm Hvb.out)).trans (C0z.out _); have m1 := (hgrow.cell_far ⟨b, o + j * 2 + 1, none⟩ (by simp; omega) (Ne.symm Hvb.out)).trans (C1z.out _)))
      all_goals
        have hb5 : Below w.heap.size wr w1 := (((Below.refl w.heap.size wr).alloc (by omega) _).drew).grown hgrow (by simp; omega) (fun k hk => (Hown.out.lt k hk).1)
        have Hb5 := hide (Hb.out.trans hb5)
        have Hown5 : Hid (w1.ownsRow w.heap.size 83 3 (.slice (some ⟨gg, 0, none⟩) (j + 1) cap) (j + 1) (mcs ((l.take (j + 1)).map lnOf))) := by
          rw [Hsn.out, List.map_append, List.map_singleton, mcs, cs3_snoc, Hln.out]
          exact hown1
        clear hb5 hown1 hgrow hat hlt1 m0 m1 Hown Hb Hsn d0 d1 C0z C1z Hvb
        go_wp2_with fail
        go_roundw
        case rel => exact ⟨j + 1, by go_num, by omega, Hown5.out, Hb5.out⟩
        case measure => simp [intOf]; omega
    · have hle : (l.length : Int) ≤ (j : Int) := by omega
      have Hr : Hid (MRow wr u3 (l.map lnOf)) := by
        have h := Hown.out
        rw [List.take_of_length_le (by omega)] at h
        exact Row3.of_own h
      obtain ⟨a3, c3, e3, _⟩ := Hr.out
      rw [List.length_map] at e3
      subst e3
      clear Hown
      go_wp2_with fail
      go_ret
      exact ⟨⟨_, rfl, Hr.out⟩, Hb.out⟩
end Go.Proofs.YtbflmkjlpopeaadDoor
