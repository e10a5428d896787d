/-
  Contracts of files.filesAt, Check over this dump.
  Contracts of files.with, Put over this dump.
  Contracts of sum.divide, sum.More, sum.Sum over this dump; what the model spells for the bits of numbers.
  Contracts of files.lineOf, List over this dump.
  Contracts of files.named, slices.IndexFunc (at files, by a name), files.Get over this dump.
-/
import Derived.Test.YtbflmkjlpopeaadGreatDoorFCheck
import Derived.Shelf.Abstract
import Derived.Test.YtbflmkjlpopeaadGreatDoorFInsert
import Derived.Test.YtbflmkjlpopeaadGreatDoorJoin17
import Derived.Test.YtbflmkjlpopeaadGreatDoorJoin01
import Derived.Test.YtbflmkjlpopeaadGreatDoorJoin02
import Derived.Laws.BitsAllLaws
import Derived.Test.YtbflmkjlpopeaadGreatDoorJoin03
import Derived.Test.YtbflmkjlpopeaadGreatDoorJoin05
import Derived.Deep.RegionHeld3
import Derived.Laws.OwnMore
import Derived.BigQuiet
namespace Go.Proofs.YtbflmkjlpopeaadGreatDoor
open Go.RowKit
open Go.Files (Fl Ln faultF keyF keyL)

set_option maxHeartbeats 1000000 in
set_option maxRecDepth 100000 in
theorem filesAt1_ok (q j : Nat) (v : Value) (l : List Fl) (w : World) (hv : FRow w v l) (hj : j < l.length) (hl : l.length ≤ 1000000) (hq : w.cell? ⟨q, 0, none⟩ = some v) :
    Calls Tryz.prog 76 #[.int .i64 j, .pointer (some ⟨q, 0, none⟩)] w fun r w' => r = .returned (.tuple #[.string l[j].name, .int .i64 l[j].data.size]) ∧ Below w.heap.size w w' := by
  obtain ⟨a, c, rfl, hv⟩ := hv
  obtain ⟨b, o, rfl, hc⟩ := hv (by omega)
  have hj' : (j : Int) < l.length := by omega
  obtain ⟨c0, c1⟩ := hc j hj
  clear hc hv
  generalize l[j] = x at *
  go_enter Tryz.func76, Tryz.ntmps76
  go_wp2_with fail
  go_quiet (fail)
  go_wp2
  go_ret2
  exact ⟨rfl, (Below.refl _ _).trans ⟨rfl, rfl, rfl, Nat.le_refl _, fun _ _ => rfl⟩⟩

set_option maxHeartbeats 1000000 in
theorem filesAt_ok (a : Option Addr) (n c : Nat) (w : World) :
    Calls Tryz.prog 57 #[.slice a n c] w fun r w' => (∃ q, r = .returned (.func (.func 76) #[] #[.pointer (some ⟨q, 0, none⟩)]) ∧ w'.cell? ⟨q, 0, none⟩ = some (.slice a n c)) ∧ Below w.heap.size w w' := by
  go_enter Tryz.func57, Tryz.ntmps57
  go_wp2
  go_ret
  exact ⟨⟨w.heap.size, rfl, by simp⟩, (Below.refl _ _).alloc (Nat.le_refl _) _⟩

set_option maxHeartbeats 1000000 in
set_option maxRecDepth 100000 in
theorem fcheck_ok (v : Value) (l : List Fl) (e : FV) (w : World) (hv : FRow w v l) (hl : l.length ≤ 1000000) (hs : ∀ x ∈ l, x.name.size ≤ 1000000) (he : FEr e w) :
    Calls Tryz.prog 35 #[v] w fun r w' => (∃ x, r = .returned x ∧ FX e w' x (faultF (l.map keyF))) ∧ Below w.heap.size w w' := by
  have HE := hide he
  have HV := hide hv
  have HW := hide (fun q W (h : FRow W v l) (hq : W.cell? ⟨q, 0, none⟩ = some v) (h2 : FEr e W) => firstWrong_ok 76 q (enters_of Tryz.func76 (by kernel_rfl) rfl) (l.map keyF) e W (fun j hj W' hb => by
    have hj' : j < l.length := by simpa using hj
    have := filesAt1_ok q j v l W' (h.below hb) hj' hl ((hb.cell (World.block_lt_of_cell? _ _ hq)).trans hq)
    simpa [keyF] using this) (by simpa using hl) (fun x hx => by obtain ⟨y, hy, rfl⟩ := List.mem_map.1 hx; exact hs y hy) h2)
  rw [List.length_map] at HW
  have HP := hide (fun W => placed_ok e (l.map keyF) W)
  obtain ⟨a, c, rfl, _⟩ := hv
  have HA := hide (fun c W => filesAt_ok a l.length c W)
  clear hs he
  generalize faultF (l.map keyF) = f at *
  obtain ⟨fc, fa⟩ := f
  simp only at HW HP
  go_enter Tryz.func35, Tryz.ntmps35
  go_wp2_with fail
  refine (HA.out _ _).mono ?_
  rintro r w1 ⟨⟨q, rfl, hq⟩, hb1⟩
  have Hq := hide hq
  have Hb1 := hide hb1
  clear hq hb1 HA
  go_wp2_with fail
  refine (HW.out q _ (HV.out.below Hb1.out) Hq.out (HE.out.below Hb1.out)).mono ?_
  rintro r w2 ⟨rfl, hb2⟩
  have Hb2 := hide (bthen Hb1.out hb2)
  clear hb2 HW Hq
  generalize errF e fc = ev at *
  go_wp2_with fail
  refine (HP.out _).mono ?_
  rintro r w3 ⟨⟨x, rfl, hx⟩, hb3⟩
  have Hx := hide hx
  have Hb3 := hide (bthen Hb2.out hb3)
  clear hx hb3 HP
  go_wp2
  go_ret
  exact ⟨⟨_, rfl, Hx.out⟩, Hb3.out⟩
end Go.Proofs.YtbflmkjlpopeaadGreatDoor

namespace Go.Proofs.YtbflmkjlpopeaadGreatDoor
open Go.RowKit
open Go.Files (Fl insF putF faultF keyF RiseF PutAt)

set_option maxHeartbeats 2000000 in
set_option maxRecDepth 100000 in
theorem with_ok (v : Value) (l : List Fl) (a d : ByteArray) (w : World) (hv : FRow w v l) (hl : l.length ≤ 1000) (hr : RiseF l) :
    Calls Tryz.prog 36 #[v, .agg #[.string a, .string d]] w fun r w' => (∃ u, r = .returned u ∧ FRow w' u (insF a d l)) ∧ Below w.heap.size w w' := by
  have hba : Below w.heap.size w (w.alloc (.cells #[.string a, .string d] 86)) := (Below.refl _ _).alloc (Nat.le_refl _) _
  have Hb0 := hide hba
  have HV := hide (fun W (h : Below w.heap.size w W) => hv.below h)
  have HS := hide (search_ok v l a _ (hv.below hba) (by omega) hr)
  have HC := hide (fun W (h : FRow W v l) => clone_ok v l W h hl)
  have HI := hide (fun u p base i W (hi : i ≤ l.length) (hown : W.ownsRow base 86 2 u l.length (fcs l)) (hb : base ≤ W.heap.size) (hp : W.heap[p]? = some (.cells #[.string a, .string d] 86 (0, 0))) (hpv : u.ownBlock ≠ some p) => insert_ok u p base l i ⟨a, d⟩ W hi (by omega) hown hb hp hpv)
  have hq0 : (w.alloc (.cells #[.string a, .string d] 86)).cell? ⟨w.heap.size, 0, none⟩ = some (.string a) := by simp
  have hq1 : (w.alloc (.cells #[.string a, .string d] 86)).cell? ⟨w.heap.size, 1, none⟩ = some (.string d) := by simp
  have Hq0 := hide hq0
  have Hq1 := hide hq1
  have Hqs : Hid (w.heap.size < (w.alloc (.cells #[.string a, .string d] 86)).heap.size) := by simp [Hid]
  obtain ⟨s, c, rfl, _⟩ := hv
  clear hr hba hq0 hq1
  go_enter Tryz.func36, Tryz.ntmps36
  go_wp2_with fail
  refine HS.out.mono ?_
  rintro r w1 ⟨⟨k, t, rfl, hk, ht⟩, hb1⟩
  have k0 := (hb1.cell (p := ⟨w.heap.size, 0, none⟩) Hqs.out).trans Hq0.out
  have k1 := (hb1.cell (p := ⟨w.heap.size, 1, none⟩) Hqs.out).trans Hq1.out
  have K0 := hide k0
  have K1 := hide k1
  have Hb1 := hide (bthen Hb0.out hb1)
  have Hk := hide hk
  have Ht := hide ht
  have Hs1 : Hid (w.heap.size < w1.heap.size) := Nat.lt_of_lt_of_le Hqs.out hb1.size
  clear hb1 hk ht HS k0 k1 Hq0 Hq1 Hqs Hb0
  go_wp2_with fail
  refine (HC.out _ (HV.out _ Hb1.out)).mono ?_
  rintro r w2 ⟨⟨u, rfl, hown⟩, hb2⟩
  have k0 := (hb2.cell (p := ⟨w.heap.size, 0, none⟩) Hs1.out).trans K0.out
  have k1 := (hb2.cell (p := ⟨w.heap.size, 1, none⟩) Hs1.out).trans K1.out
  have Hb2 := hide (bthen Hb1.out hb2)
  have Hown := hide hown
  have Hs2 : Hid (w.heap.size ≤ w1.heap.size ∧ w1.heap.size ≤ w2.heap.size) := ⟨Nat.le_of_lt Hs1.out, hb2.size⟩
  clear hb2 HC HV K0 K1 Hb1
  cases t with
  | true =>
    obtain ⟨hkl, hke⟩ := Ht.out.1 rfl
    have Hi := hide (Go.Files.ins_there (d := d) Hk.out hkl hke)
    have hkl' : (k : Int) < l.length := by omega
    rcases hown.2 with ⟨_, h0⟩ | ⟨g, cap, cur, rfl, hg, _, _, _, _, _⟩
    · omega
    · have hH := Held.of_own hown
      have HH := hide hH
      obtain ⟨e0, e1⟩ := hH.at_ k hkl
      have f0 := hH.fz (k * 2)
      have f1 := hH.fz (k * 2 + 1)
      have Hg := hide hg
      clear hown hH hg hke Ht HI
      go_wp2_with fail
      go_ret
      refine ⟨⟨_, rfl, ?_⟩, (Hb2.out.setCell (show w.heap.size ≤ g by have := Hg.out; have := Hs2.out.1; omega) _).setCell (show w.heap.size ≤ g by have := Hg.out; have := Hs2.out.1; omega) _⟩
      rw [Hi.out]
      have := (HH.out.set k hkl ⟨a, d⟩).row_all (cap := cap)
      rw [List.length_set] at this
      exact this
  | false =>
    have hkl := Hk.out.le
    have Hi := hide (Go.Files.ins_new (d := d) Hk.out (fun h e => by have := Ht.out.2 ⟨h, e⟩; cases this))
    have hba2 : Below w2.heap.size w2 (w2.alloc (.cells #[.string a, .string d] 86)) := (Below.refl _ _).alloc (Nat.le_refl _) _
    have Hins := hide (HI.out u w2.heap.size w1.heap.size k (w2.alloc (.cells #[.string a, .string d] 86)) hkl (hown.alloc _) (by have := Hs2.out.2; simp; omega) (heap_alloc_new w2 _) (fun e => by have := (hown.lt _ e).2; omega))
    have Hb3 := hide (bthen Hb2.out hba2)
    clear hown hba2 HI Ht Hk
    go_wp2_with fail
    refine Hins.out.mono ?_
    rintro r w3 ⟨⟨u3, rfl, hu3⟩, hb3⟩
    have Hu3 := hide hu3
    have Hb4 : Hid (Below w.heap.size w w3) := Hb3.out.trans (hb3.mono Hs2.out.1)
    clear hu3 hb3 Hins
    go_wp2
    go_ret
    exact ⟨⟨_, rfl, by rw [Hi.out]; exact Hu3.out⟩, Hb4.out⟩

set_option maxHeartbeats 2000000 in
set_option maxRecDepth 100000 in
theorem put_ok (v : Value) (l : List Fl) (a d : ByteArray) (e : FV) (w : World) (hv : FRow w v l) (hl : l.length ≤ 900) (hs : ∀ x ∈ l, x.name.size ≤ 1000000) (ha : a.size ≤ 1000000) (he : FEr e w) :
    Calls Tryz.prog 17 #[v, .string a, .string d] w fun r w' => (∃ u x, r = .returned (.tuple #[u, x]) ∧ FRow w' u (putF l a d).1 ∧ FX e w' x (putF l a d).2) ∧ Below w.heap.size w w' := by
  have HC := hide (fcheck_ok v l e w hv (by omega) hs he)
  have HV := hide (fun W (h : Below w.heap.size w W) => hv.below h)
  have HE := hide (fun W (h : Below w.heap.size w W) => he.below h)
  have HW := hide (fun W (h : FRow W v l) (hr : RiseF l) => with_ok v l a d W h (by omega) hr)
  have hil := ins_len a d l
  have HC2 := hide (fun u W (h : FRow W u (insF a d l)) (h2 : FEr e W) => fcheck_ok u (insF a d l) e W h (by omega) (fun x hx => by rcases Go.Files.mem_ins hx with rfl | hx; exact ha; exact hs x hx) h2)
  have Hr : Hid ((faultF (l.map keyF)).1 = 0 → RiseF l) := fun h => Go.Files.well_rise (Go.Files.faultF_zero.1 h)
  obtain ⟨s, c, rfl, _⟩ := hv
  unfold putF
  clear hs ha he
  generalize hf : faultF (l.map keyF) = f at *
  obtain ⟨fc, fa⟩ := f
  clear hf
  simp only at Hr ⊢
  by_cases h0 : fc = 0
  · subst h0
    rw [if_pos rfl]
    have hr := Hr.out rfl
    generalize hf2 : faultF ((insF a d l).map keyF) = f2 at *
    obtain ⟨gc, ga⟩ := f2
    simp only
    have Hga : Hid (gc = 0 → ga = -1) := fun h => by
      have := Go.Files.faultF_well (Go.Files.faultF_zero.1 (show (faultF ((insF a d l).map keyF)).1 = 0 by rw [hf2]; exact h))
      rw [hf2] at this
      exact congrArg Prod.snd this
    clear hf2
    obtain ⟨PO, hPO⟩ : ∃ PO, PO = (if gc = 0 then (insF a d l, (0 : Nat), (-1 : Int)) else ([], gc, ga)) := ⟨_, rfl⟩
    rw [← hPO]
    have HPO := hide hPO
    clear hPO
    go_enter Tryz.func17, Tryz.ntmps17
    go_wp2_with fail
    refine HC.out.mono ?_
    rintro r w1 ⟨⟨x1, rfl, hx1⟩, hb1⟩
    obtain rfl := hx1.nilOr.none rfl
    have Hb1 := hide hb1
    clear hx1 hb1 HC
    go_wp2_with fail
    refine (HW.out _ (HV.out _ Hb1.out) hr).mono ?_
    rintro r w2 ⟨⟨u, rfl, hu⟩, hb2⟩
    have Hu := hide hu
    have Hb2 := hide (bthen Hb1.out hb2)
    obtain ⟨us, uc, rfl, _⟩ := hu
    clear hb2 HW HV hr
    go_wp2_with fail
    refine (HC2.out _ _ Hu.out (HE.out _ Hb2.out)).mono ?_
    rintro r w3 ⟨⟨x3, rfl, hx3⟩, hb3⟩
    have Hu3 := hide (Hu.out.below hb3)
    have Hb3 := hide (bthen Hb2.out hb3)
    have Hx3 := hide hx3
    clear hb3 HC2 Hu HE
    by_cases hg : gc = 0
    · subst hg
      have hga := Hga.out rfl
      subst hga
      obtain rfl := hx3.nilOr.none rfl
      have HP2 := hide (HPO.out.trans (if_pos rfl))
      clear hx3 HPO
      go_wp2_with fail
      go_ret2
      refine ⟨⟨_, _, rfl, ?_, ?_⟩, Hb3.out⟩
      · rw [HP2.out]; exact Hu3.out
      · rw [HP2.out]; exact FX.nil e _ _
    · obtain ⟨t, y, rfl⟩ := hx3.nilOr.some hg
      clear hx3
      have HP2 := hide (HPO.out.trans (if_neg hg))
      clear hg HPO
      go_wp2_with fail
      go_ret2
      refine ⟨⟨_, _, rfl, ?_, ?_⟩, Hb3.out⟩
      · rw [HP2.out]; exact Row2.nil _
      · rw [HP2.out]; exact Hx3.out
  · rw [if_neg h0]
    clear HC2 HW Hr HV HE
    go_enter Tryz.func17, Tryz.ntmps17
    go_wp2_with fail
    refine HC.out.mono ?_
    rintro r w1 ⟨⟨x1, rfl, hx1⟩, hb1⟩
    have Hx1 := hide hx1
    obtain ⟨t, y, rfl⟩ := hx1.nilOr.some h0
    have Hb1 := hide hb1
    clear hx1 hb1 HC
    go_wp2_with fail
    go_ret2
    exact ⟨⟨_, _, rfl, Row2.nil _, Hx1.out⟩, Hb1.out⟩
end Go.Proofs.YtbflmkjlpopeaadGreatDoor

namespace Go.Proofs.YtbflmkjlpopeaadGreatDoor
open Go.RowKit

theorem i64_xor_nat (a b : Nat) (ha : a < 9223372036854775808) (hb : b < 9223372036854775808) : bits .xor .i64 (a : Int) (b : Int) = ((a ^^^ b : Nat) : Int) := by
  have hx : a ^^^ b < 2 ^ 63 := Nat.xor_lt_two_pow (by omega) (by omega)
  have h1 : (BitVec.ofInt 64 (a : Int)).toNat = a := by
    rw [BitVec.ofInt_natCast, BitVec.toNat_ofNat]; exact Nat.mod_eq_of_lt (by omega)
  have h2 : (BitVec.ofInt 64 (b : Int)).toNat = b := by
    rw [BitVec.ofInt_natCast, BitVec.toNat_ofNat]; exact Nat.mod_eq_of_lt (by omega)
  show IntKind.i64.wrap ((BitVec.ofInt 64 (a : Int) ^^^ BitVec.ofInt 64 (b : Int)).toNat : Int) = _
  rw [BitVec.toNat_xor, h1, h2, IntKind.wrap_i64]
  omega
theorem i64_and_nat (a b : Nat) (ha : a < 9223372036854775808) (hb : b < 9223372036854775808) : bits .and .i64 (a : Int) (b : Int) = ((a &&& b : Nat) : Int) := by
  have hx : a &&& b < 2 ^ 63 := Nat.and_lt_two_pow _ (by omega)
  have h1 : (BitVec.ofInt 64 (a : Int)).toNat = a := by
    rw [BitVec.ofInt_natCast, BitVec.toNat_ofNat]; exact Nat.mod_eq_of_lt (by omega)
  have h2 : (BitVec.ofInt 64 (b : Int)).toNat = b := by
    rw [BitVec.ofInt_natCast, BitVec.toNat_ofNat]; exact Nat.mod_eq_of_lt (by omega)
  show IntKind.i64.wrap ((BitVec.ofInt 64 (a : Int) &&& BitVec.ofInt 64 (b : Int)).toNat : Int) = _
  rw [BitVec.toNat_and, h1, h2, IntKind.wrap_i64]
  omega
theorem ret_u32 {a b : Int} (h : a = b) : Ending.returned (.int .u32 a) = .returned (.int .u32 b) := by rw [h]

theorem u32_sh (x : Nat) (hx : x < 2 ^ 32) : bits .xor .u32 ((x : Int) / 2) (3988292384 * bits .and .u32 (x : Int) 1 % 4294967296) = (Go.Crc.sh x : Nat) := by
  have e1 : bits .and .u32 (x : Int) 1 = ((x % 2 : Nat) : Int) := by
    rw [show (1 : Int) = ((1 : Nat) : Int) from rfl, u32_and_nat x 1 hx (by omega), nat_mask1]
  rw [e1, show (x : Int) / 2 = ((x / 2 : Nat) : Int) by omega, show (3988292384 * ((x % 2 : Nat) : Int) % 4294967296) = ((3988292384 * (x % 2) : Nat) : Int) by omega, u32_xor_nat _ _ (by omega) (by omega)]
  rfl

set_option maxHeartbeats 1000000 in
set_option maxRecDepth 100000 in
theorem divide_ok (c : Nat) (w : World) (hc : c < 4294967296) : Calls Tryz.prog 86 #[.int .u32 c] w fun r w' => r = .returned (.int .u32 (Go.Crc.shs 8 c : Nat)) ∧ w' = w := by
  go_enter Tryz.func86, Tryz.ntmps86
  go_wp2_with fail
  go_loop [0, 3] (fun t0 t3 => ∃ i : Nat, t3 = .int .i64 i ∧ i ≤ 8 ∧ t0 = .int .u32 (Go.Crc.shs i c : Nat)) (fun _ t3 => 8 - (intOf t3).toNat)
  case atStart => exact ⟨0, rfl, by omega, rfl⟩
  case round =>
    obtain ⟨i, rfl, hi, rfl⟩ := hrel
    have hx := Go.Crc.shs_lt i c hc
    have He : Hid (Go.Crc.sh (Go.Crc.shs i c) = Go.Crc.shs (i + 1) c) := rfl
    by_cases hlt : i < 8
    · have hlt' : (i : Int) < 8 := by omega
      generalize Go.Crc.shs i c = x at *
      go_wp2_with fail
      go_round
      case rel => exact ⟨i + 1, by go_num, by omega, by rw [u32_sh x hx, He.out]⟩
      case measure => simp [intOf]; omega
    · have hle : (8 : Int) ≤ i := by omega
      obtain rfl : i = 8 := by omega
      go_wp2_with fail
      go_ret
      exact ⟨rfl, rfl⟩

theorem u32_not (c : Nat) (hc : c < 4294967296) : bits .xor .u32 IntKind.u32.max (c : Int) = ((c ^^^ Go.Crc.ones : Nat) : Int) := by
  rw [show IntKind.u32.max = ((Go.Crc.ones : Nat) : Int) from rfl, u32_xor_nat _ _ Go.Crc.ones_lt hc, Nat.xor_comm]

set_option maxHeartbeats 1000000 in
set_option maxRecDepth 100000 in
theorem more_ok (c : Nat) (s : ByteArray) (w : World) (hc : c < 4294967296) (hs : s.size ≤ 1000000) : Calls Tryz.prog 80 #[.int .u32 c, .string s] w fun r w' => r = .returned (.int .u32 (Go.Crc.crc c s.data.toList : Nat)) ∧ w' = w := by
  have hs' : (s.size : Int) ≤ 1000000 := by omega
  have hsg : IntKind.u32.signed = false := rfl
  have hnot := u32_not c hc
  have hc1 : c ^^^ Go.Crc.ones < 2 ^ 32 := Nat.xor_lt_two_pow hc Go.Crc.ones_lt
  have Hc : Hid (Go.Crc.crc c s.data.toList = Go.Crc.run (c ^^^ Go.Crc.ones) s.data.toList ^^^ Go.Crc.ones) := rfl
  generalize c ^^^ Go.Crc.ones = d at *
  go_enter Tryz.func80, Tryz.ntmps80
  go_wp2_with fail
  go_loop [0, 5] (fun t0 t5 => ∃ i : Nat, t5 = .int .i64 i ∧ i ≤ s.size ∧ t0 = .int .u32 (Go.Crc.run d (s.data.toList.take i) : Nat)) (fun _ t5 => s.size - (intOf t5).toNat)
  case atStart => exact ⟨0, rfl, by omega, rfl⟩
  case round =>
    obtain ⟨i, rfl, hi, rfl⟩ := hrel
    have hx : Go.Crc.run d (s.data.toList.take i) < 2 ^ 32 := Go.Crc.run_lt _ _ hc1
    by_cases hlt : i < s.size
    · have hlt' : (i : Int) < s.size := by omega
      have hb := byte_lt s[i]
      have hn := Go.Crc.run_snoc d (s.data.toList.take i) s[i]
      rw [← takeL s i hlt] at hn
      have He := hide hn
      clear hn
      generalize Go.Crc.run d (s.data.toList.take i) = x at *
      have hxb : x ^^^ s[i].toNat < 2 ^ 32 := Nat.xor_lt_two_pow hx (by omega)
      have hxe : bits .xor .u32 (x : Int) (s[i].toNat : Int) = ((x ^^^ s[i].toNat : Nat) : Int) := u32_xor_nat _ _ hx (by omega)
      have HD := hide (fun W => divide_ok (x ^^^ s[i].toNat) W hxb)
      go_wp2_with fail
      refine (HD.out _).mono ?_
      rintro e w1 ⟨rfl, rfl⟩
      go_wp2_with fail
      go_round
      case rel => exact ⟨i + 1, by go_num, by omega, by rw [He.out]⟩
      case measure => simp [intOf]; omega
    · have hle : (s.size : Int) ≤ i := by omega
      obtain rfl : i = s.size := by omega
      have ht : s.data.toList.take s.size = s.data.toList := by rw [← lenL s, List.take_length]
      rw [ht] at hx ⊢
      have hn2 := u32_not _ hx
      rw [← Hc.out] at hn2
      clear ht Hc
      generalize Go.Crc.run d s.data.toList = x at *
      go_wp2_with fail
      go_ret
      exact ⟨rfl, rfl⟩

set_option maxHeartbeats 1000000 in
theorem sum_ok (s : ByteArray) (w : World) (hs : s.size ≤ 1000000) : Calls Tryz.prog 63 #[.string s] w fun r w' => r = .returned (.int .u32 (Go.Crc.crc 0 s.data.toList : Nat)) ∧ w' = w := by
  have H := hide (fun W => more_ok 0 s W (by omega) hs)
  generalize Go.Crc.crc 0 s.data.toList = x at *
  go_enter Tryz.func63, Tryz.ntmps63
  go_wp2_with fail
  refine (H.out _).mono ?_
  rintro e w1 ⟨rfl, rfl⟩
  go_wp2_with fail
  go_ret
  exact ⟨rfl, rfl⟩
end Go.Proofs.YtbflmkjlpopeaadGreatDoor

namespace Go.Proofs.YtbflmkjlpopeaadGreatDoor
open Go.RowKit
open Go.Files (Fl Ln faultF keyF)

set_option maxHeartbeats 2000000 in
set_option maxRecDepth 100000 in
theorem lineOf_ok (x : Fl) (w : World) (hs : x.data.size ≤ 1000000) :
    Calls Tryz.prog 37 #[.agg #[.string x.name, .string x.data]] w fun r w' => r = .returned (.agg #[.string (lnOf x).name, .int .i64 (lnOf x).n, .int .u32 (lnOf x).sum]) ∧ Below w.heap.size w w' := by
  have HS := hide (fun W => sum_ok x.data W hs)
  unfold lnOf
  simp only
  generalize Go.Crc.crc 0 x.data.data.toList = c at *
  have k0 : ((w.alloc (.cells #[.string x.name, .string x.data] 86)).alloc (.cells #[.string ⟨#[]⟩, .int .i64 0, .int .u32 0] 60)).cell? ⟨w.heap.size, 0, none⟩ = some (.string x.name) := by simp
  have k1 : ((w.alloc (.cells #[.string x.name, .string x.data] 86)).alloc (.cells #[.string ⟨#[]⟩, .int .i64 0, .int .u32 0] 60)).cell? ⟨w.heap.size, 1, none⟩ = some (.string x.data) := by simp
  have z0 : ((w.alloc (.cells #[.string x.name, .string x.data] 86)).alloc (.cells #[.string ⟨#[]⟩, .int .i64 0, .int .u32 0] 60)).cell? ⟨w.heap.size + 1, 0, none⟩ = some (.string ⟨#[]⟩) := by simp
  have z1 : ((w.alloc (.cells #[.string x.name, .string x.data] 86)).alloc (.cells #[.string ⟨#[]⟩, .int .i64 0, .int .u32 0] 60)).cell? ⟨w.heap.size + 1, 1, none⟩ = some (.int .i64 0) := by simp
  have z2 : ((w.alloc (.cells #[.string x.name, .string x.data] 86)).alloc (.cells #[.string ⟨#[]⟩, .int .i64 0, .int .u32 0] 60)).cell? ⟨w.heap.size + 1, 2, none⟩ = some (.int .u32 0) := by simp
  have fz : ∀ j, ((w.alloc (.cells #[.string x.name, .string x.data] 86)).alloc (.cells #[.string ⟨#[]⟩, .int .i64 0, .int .u32 0] 60)).frozen? ⟨w.heap.size + 1, j, none⟩ = false := fun j => by simp
  have hb : Below w.heap.size w ((w.alloc (.cells #[.string x.name, .string x.data] 86)).alloc (.cells #[.string ⟨#[]⟩, .int .i64 0, .int .u32 0] 60)) := ((Below.refl _ _).alloc (Nat.le_refl _) _).alloc (by simp) _
  have Hb := hide hb
  have f0 := fz 0
  have f1 := fz 1
  have f2 := fz 2
  clear hb hs fz
  go_enter Tryz.func37, Tryz.ntmps37
  go_wp2_with fail
  generalize ((w.alloc (.cells #[.string x.name, .string x.data] 86)).alloc (.cells #[.string ⟨#[]⟩, .int .i64 0, .int .u32 0] 60)) = wq at *
  go_region_held3 (fun w' => w'.cell? ⟨w.heap.size, 0, none⟩ = some (.string x.name) ∧ w'.cell? ⟨w.heap.size, 1, none⟩ = some (.string x.data)) (first | go_keep | exact ⟨k0, k1⟩)
    (first | (go_at_call 63; refine (HS.out _).mono ?_; rintro r w9 ⟨rfl, rfl⟩))
  all_goals
    go_wp2_with fail
    (try simp only [Exit.inBlock, Exit.then])
    refine bodyPost_ret (v := .agg #[.string x.name, .int .i64 x.data.size, .int .u32 c]) ?_ rfl ⟨rfl, (((Hb.out.setCell (by simp) _).setCell (by simp) _).setCell (by simp) _).drew⟩
    have s0 : (((wq.setCell ⟨w.heap.size + 1, 0, none⟩ (.string x.name)).setCell ⟨w.heap.size + 1, 1, none⟩ (.int .i64 x.data.size)).setCell ⟨w.heap.size + 1, 2, none⟩ (.int .u32 c)).cell? ⟨w.heap.size + 1, 0, none⟩ = some (.string x.name) := by
      rw [World.cell?_setCell_other _ _ _ _ (by simp), World.cell?_setCell_other _ _ _ _ (by simp), World.cell?_setCell_same _ _ _ z0]
    have s1 : (((wq.setCell ⟨w.heap.size + 1, 0, none⟩ (.string x.name)).setCell ⟨w.heap.size + 1, 1, none⟩ (.int .i64 x.data.size)).setCell ⟨w.heap.size + 1, 2, none⟩ (.int .u32 c)).cell? ⟨w.heap.size + 1, 1, none⟩ = some (.int .i64 x.data.size) := by
      rw [World.cell?_setCell_other _ _ _ _ (by simp), World.cell?_setCell_same _ _ _ (by rw [World.cell?_setCell_other _ _ _ _ (by simp)]; exact z1)]
    have s2 : (((wq.setCell ⟨w.heap.size + 1, 0, none⟩ (.string x.name)).setCell ⟨w.heap.size + 1, 1, none⟩ (.int .i64 x.data.size)).setCell ⟨w.heap.size + 1, 2, none⟩ (.int .u32 c)).cell? ⟨w.heap.size + 1, 2, none⟩ = some (.int .u32 c) := by
      rw [World.cell?_setCell_same _ _ _ (by rw [World.cell?_setCell_other _ _ _ _ (by simp), World.cell?_setCell_other _ _ _ _ (by simp)]; exact z2)]
    simp only [results, show Tryz.f37.results = #[.cell 2 60] from rfl]
    go_simp

/-! ### A block with room for n lines, that reads as lines from its head on -/
structure LBuf (g n : Nat) (w : World) (l : List Ln) : Prop where
  at_ : ∀ j (h : j < l.length), w.cell? ⟨g, j * 3, none⟩ = some (.string l[j].name) ∧ w.cell? ⟨g, j * 3 + 1, none⟩ = some (.int .i64 l[j].n) ∧ w.cell? ⟨g, j * 3 + 2, none⟩ = some (.int .u32 l[j].sum)
  some_ : ∀ k, k < n * 3 → (w.cell? ⟨g, k, none⟩).isSome = true
  fz : ∀ k, w.frozen? ⟨g, k, none⟩ = false
theorem LBuf.below {g n B : Nat} {w w' : World} {l : List Ln} (h : LBuf g n w l) (hb : Below B w w') (hg : g < B) : LBuf g n w' l :=
  ⟨fun j hj => ⟨(hb.cell (p := ⟨g, j * 3, none⟩) hg).trans (h.at_ j hj).1, (hb.cell (p := ⟨g, j * 3 + 1, none⟩) hg).trans (h.at_ j hj).2.1, (hb.cell (p := ⟨g, j * 3 + 2, none⟩) hg).trans (h.at_ j hj).2.2⟩, fun k hk => by rw [hb.cell (p := ⟨g, k, none⟩) hg]; exact h.some_ k hk, fun k => (hb.frozen (p := ⟨g, k, none⟩) hg).trans (h.fz k)⟩
theorem LBuf.made {g n cap base : Nat} {T : TypeId} {w : World} {xs : List Value} (h : w.ownsRow base T 3 (.slice (some ⟨g, 0, none⟩) n cap) n xs) : LBuf g n w [] :=
  ⟨fun j hj => by simp at hj, fun k hk => by rw [h.cellAt k hk, List.getElem?_eq_getElem (by rw [h.1]; exact hk)]; rfl, fun k => h.frozenAt k⟩
theorem LBuf.push {g n : Nat} {w : World} {l : List Ln} (h : LBuf g n w l) (i : Nat) (hi : i = l.length) (hn : i < n) (x : Ln) :
    LBuf g n (((w.setCell ⟨g, i * 3, none⟩ (.string x.name)).setCell ⟨g, i * 3 + 1, none⟩ (.int .i64 x.n)).setCell ⟨g, i * 3 + 2, none⟩ (.int .u32 x.sum)) (l ++ [x]) := by
  obtain ⟨u0, k0⟩ := Option.isSome_iff_exists.1 (h.some_ (i * 3) (by omega))
  obtain ⟨u1, k1⟩ := Option.isSome_iff_exists.1 (h.some_ (i * 3 + 1) (by omega))
  obtain ⟨u2, k2⟩ := Option.isSome_iff_exists.1 (h.some_ (i * 3 + 2) (by omega))
  have s0 : (((w.setCell ⟨g, i * 3, none⟩ (.string x.name)).setCell ⟨g, i * 3 + 1, none⟩ (.int .i64 x.n)).setCell ⟨g, i * 3 + 2, none⟩ (.int .u32 x.sum)).cell? ⟨g, i * 3, none⟩ = some (.string x.name) := by
    rw [World.cell?_setCell_other _ _ _ _ (by simp), World.cell?_setCell_other _ _ _ _ (by simp), World.cell?_setCell_same _ _ _ k0]
  have s1 : (((w.setCell ⟨g, i * 3, none⟩ (.string x.name)).setCell ⟨g, i * 3 + 1, none⟩ (.int .i64 x.n)).setCell ⟨g, i * 3 + 2, none⟩ (.int .u32 x.sum)).cell? ⟨g, i * 3 + 1, none⟩ = some (.int .i64 x.n) := by
    rw [World.cell?_setCell_other _ _ _ _ (by simp), World.cell?_setCell_same _ _ _ (by rw [World.cell?_setCell_other _ _ _ _ (by simp)]; exact k1)]
  have s2 : (((w.setCell ⟨g, i * 3, none⟩ (.string x.name)).setCell ⟨g, i * 3 + 1, none⟩ (.int .i64 x.n)).setCell ⟨g, i * 3 + 2, none⟩ (.int .u32 x.sum)).cell? ⟨g, i * 3 + 2, none⟩ = some (.int .u32 x.sum) := by
    rw [World.cell?_setCell_same _ _ _ (by rw [World.cell?_setCell_other _ _ _ _ (by simp), World.cell?_setCell_other _ _ _ _ (by simp)]; exact k2)]
  have so : ∀ k, k ≠ i * 3 → k ≠ i * 3 + 1 → k ≠ i * 3 + 2 → (((w.setCell ⟨g, i * 3, none⟩ (.string x.name)).setCell ⟨g, i * 3 + 1, none⟩ (.int .i64 x.n)).setCell ⟨g, i * 3 + 2, none⟩ (.int .u32 x.sum)).cell? ⟨g, k, none⟩ = w.cell? ⟨g, k, none⟩ := fun k a b c => by
    rw [World.cell?_setCell_other _ _ _ _ (by simp; try omega), World.cell?_setCell_other _ _ _ _ (by simp; try omega), World.cell?_setCell_other _ _ _ _ (by simp; try omega)]
  refine ⟨fun j hj => ?_, fun k hk => ?_, fun k => by simp [h.fz k]⟩
  · rw [List.length_append] at hj
    simp only [List.length_singleton] at hj
    by_cases e : j < l.length
    · rw [List.getElem_append_left e]
      obtain ⟨h0, h1, h2⟩ := h.at_ j e
      exact ⟨(so _ (by omega) (by omega) (by omega)).trans h0, (so _ (by omega) (by omega) (by omega)).trans h1, (so _ (by omega) (by omega) (by omega)).trans h2⟩
    · obtain rfl : j = i := by omega
      rw [List.getElem_append_right (by omega)]
      simp only [hi, Nat.sub_self, List.getElem_cons_zero]
      rw [← hi]
      exact ⟨s0, s1, s2⟩
  · by_cases e0 : k = i * 3
    · subst e0; rw [s0]; rfl
    · by_cases e1 : k = i * 3 + 1
      · subst e1; rw [s1]; rfl
      · by_cases e2 : k = i * 3 + 2
        · subst e2; rw [s2]; rfl
        · rw [so k e0 e1 e2]; exact h.some_ k hk
theorem LBuf.row {g n : Nat} {w : World} {l : List Ln} (h : LBuf g n w l) : LRow w (.slice (some ⟨g, 0, none⟩) l.length l.length) l :=
  ⟨_, 0, rfl, fun _ => ⟨g, 0, rfl, fun j hj => by simpa using h.at_ j hj⟩⟩

set_option maxHeartbeats 4000000 in
set_option maxRecDepth 100000 in
theorem list_main (v : Value) (l : List Fl) (e : FV) (w : World) (hv : FRow w v l) (hl : l.length ≤ 900) (hs : ∀ x ∈ l, x.name.size ≤ 1000000 ∧ x.data.size ≤ 1000000) (he : FEr e w) (hf : (faultF (l.map keyF)).1 = 0) :
    Calls Tryz.prog 18 #[v] w fun r w' => (∃ u, r = .returned (.tuple #[u, .nilIface]) ∧ LRow w' u (l.map lnOf)) ∧ Below w.heap.size w w' := by
  obtain ⟨i0, hi, hz0, hz1, hz2⟩ := info_parts Tryz.info60
  have HC := hide (fcheck_ok v l e w hv (by omega) (fun x hx => (hs x hx).1) he)
  have Hf := hide hf
  have HS := hide hs
  obtain ⟨s, c, rfl, hv⟩ := hv
  have HV := hide hv
  have hl' : (l.length : Int) ≤ 900 := by omega
  clear hs he hf hv
  go_enter Tryz.func18, Tryz.ntmps18
  go_wp2_with fail
  refine HC.out.mono ?_
  rintro r w1 ⟨⟨x1, rfl, hx1⟩, hb1⟩
  obtain rfl := hx1.nilOr.none Hf.out
  have Hb1 := hide hb1
  clear hx1 hb1 HC Hf
  go_wp2_with (first | (at_make; refine wpList_make_full _ rfl _ _ 32 rfl w1.heap.size 60 i0 (.agg #[.string ⟨#[]⟩, .int .i64 0, .int .u32 0]) 3 Tryz.underlying32 hi hz0 hz1 .i64 .i64 _ _ l.length rfl rfl ?m0 ?m1 ?m2 ?m3 ?m4 ?next))
  case m0 => rfl
  case m1 => rfl
  case m2 => rw [hz2]; omega
  case m3 => unfold maxLen; omega
  case m4 => exact Nat.le_refl _
  case next =>
    intro w2 hown hgrow
    have hb2 : Below w1.heap.size w1 w2 := (Below.refl _ _).grown hgrow (Nat.le_refl _) (fun k hk => by cases hk)
    have Hb2 := hide (bthen Hb1.out hb2)
    have HB := hide (LBuf.made hown)
    have hgl : w1.heap.size < w2.heap.size := (hown.lt _ rfl).2
    have hgw : w.heap.size ≤ w1.heap.size := Hb1.out.size
    clear hown hgrow hb2 Hb1
    generalize w1.heap.size = g at *
    go_wp2_with fail
    go_loopw [6, 7, 18] (fun _ _ t18 wr => ∃ j : Nat, t18 = .int .i64 j ∧ j ≤ l.length ∧ Hid (LBuf g l.length wr ((l.take j).map lnOf)) ∧ Hid (Below w.heap.size w wr) ∧ g < wr.heap.size) (fun _ _ t18 _ => l.length - (intOf t18).toNat)
    case atStart => exact ⟨0, rfl, by omega, HB.out, Hb2.out, hgl⟩
    case round =>
      clear HB Hb2 hgl
      obtain ⟨j, rfl, hj, HB, Hb, hgr⟩ := hrel
      by_cases hlt : j < l.length
      · have hlt' : (j : Int) < l.length := by omega
        obtain ⟨b, o, rfl, hc⟩ := HV.out (by omega)
        obtain ⟨c0, c1⟩ := hc j hlt
        have d0 := (Hb.out.cell (World.block_lt_of_cell? _ _ c0)).trans c0
        have d1 := (Hb.out.cell (World.block_lt_of_cell? _ _ c1)).trans c1
        have HL := hide (fun W => lineOf_ok l[j] W (HS.out _ (List.getElem_mem hlt)).2)
        have Hsn : Hid ((l.take (j + 1)).map lnOf = (l.take j).map lnOf ++ [lnOf l[j]]) := by
          show _ = _
          rw [List.take_succ_eq_append_getElem hlt, List.map_append, List.map_singleton]
        have Hlj : Hid (j = ((l.take j).map lnOf).length) := by
          show _ = _
          rw [List.length_map, List.length_take]; omega
        clear hc c0 c1 HV HS
        generalize l[j] = x at *
        generalize hx : lnOf x = y at *
        clear hx
        go_wp2_with fail
        refine (HL.out _).mono ?_
        rintro r w3 ⟨rfl, hb3⟩
        have hba : Below wr.heap.size wr (wr.alloc (.cells #[.string x.name, .string x.data] 86)) := (Below.refl _ _).alloc (Nat.le_refl _) _
        have hb4 := bthen hba hb3
        have HB3 := hide (HB.out.below hb4 hgr)
        have Hb3 := hide (bthen Hb.out hb4)
        have hg3 : g < w3.heap.size := Nat.lt_of_lt_of_le hgr hb4.size
        obtain ⟨u0, e0⟩ := Option.isSome_iff_exists.1 (HB3.out.some_ (j * 3) (by omega))
        obtain ⟨u1, e1⟩ := Option.isSome_iff_exists.1 (HB3.out.some_ (j * 3 + 1) (by omega))
        obtain ⟨u2, e2⟩ := Option.isSome_iff_exists.1 (HB3.out.some_ (j * 3 + 2) (by omega))
        have f0 := HB3.out.fz (j * 3)
        have f1 := HB3.out.fz (j * 3 + 1)
        have f2 := HB3.out.fz (j * 3 + 2)
        clear hb3 hba hb4 HL HB Hb d0 d1 hgr
        go_wp2_with fail
        go_roundw
        case rel => exact ⟨j + 1, by go_num, by omega, by
          show LBuf _ _ _ _
          rw [Hsn.out]; exact HB3.out.push j Hlj.out hlt y, ((Hb3.out.setCell hgw _).setCell hgw _).setCell hgw _, by simpa using hg3⟩
        case measure => simp [intOf]; omega
      · have hle : (l.length : Int) ≤ (j : Int) := by omega
        have Hr : Hid (LRow wr (.slice (some ⟨g, 0, none⟩) l.length l.length) (l.map lnOf)) := by
          have h := HB.out.row
          rw [List.take_of_length_le (by omega), List.length_map] at h
          exact h
        clear HB
        go_wp2_with fail
        go_ret2
        exact ⟨⟨_, rfl, Hr.out⟩, Hb.out⟩

set_option maxHeartbeats 1000000 in
set_option maxRecDepth 100000 in
theorem list_bad (v : Value) (l : List Fl) (e : FV) (w : World) (hv : FRow w v l) (hl : l.length ≤ 900) (hs : ∀ x ∈ l, x.name.size ≤ 1000000) (he : FEr e w) (hf : (faultF (l.map keyF)).1 ≠ 0) :
    Calls Tryz.prog 18 #[v] w fun r w' => (∃ x, r = .returned (.tuple #[.slice none 0 0, x]) ∧ FX e w' x (faultF (l.map keyF))) ∧ Below w.heap.size w w' := by
  have HC := hide (fcheck_ok v l e w hv (by omega) hs he)
  obtain ⟨s, c, rfl, _⟩ := hv
  have Hf := hide hf
  clear hs he hf
  go_enter Tryz.func18, Tryz.ntmps18
  go_wp2_with fail
  refine HC.out.mono ?_
  rintro r w1 ⟨⟨x1, rfl, hx1⟩, hb1⟩
  have Hx1 := hide hx1
  obtain ⟨t, y, rfl⟩ := hx1.nilOr.some Hf.out
  have Hb1 := hide hb1
  clear hx1 hb1 HC Hf
  go_wp2_with fail
  go_ret2
  exact ⟨⟨_, rfl, Hx1.out⟩, Hb1.out⟩

theorem list_ok (v : Value) (l : List Fl) (e : FV) (w : World) (hv : FRow w v l) (hf : Fair l) (he : FEr e w) :
    Calls Tryz.prog 18 #[v] w fun r w' => (∃ u x, r = .returned (.tuple #[u, x]) ∧ LRow w' u (listF l) ∧ FX e w' x (faultF (l.map keyF))) ∧ Below w.heap.size w w' := by
  by_cases h : (faultF (l.map keyF)).1 = 0
  · have hl : listF l = l.map lnOf := by unfold listF; rw [if_pos h]
    rw [hl]
    refine (list_main v l e w hv hf.1 hf.2 he h).mono ?_
    rintro r w' ⟨⟨u, rfl, hu⟩, hb⟩
    exact ⟨⟨u, _, rfl, hu, Or.inl ⟨h, rfl⟩⟩, hb⟩
  · have hl : listF l = [] := by unfold listF; rw [if_neg h]
    rw [hl]
    refine (list_bad v l e w hv hf.1 (fun x hx => (hf.2 x hx).1) he h).mono ?_
    rintro r w' ⟨⟨x, rfl, hx⟩, hb⟩
    exact ⟨⟨_, x, rfl, Row3c.nil _, hx⟩, hb⟩
end Go.Proofs.YtbflmkjlpopeaadGreatDoor

namespace Go.Proofs.YtbflmkjlpopeaadGreatDoor
open Go.RowKit
open Go.Files (Fl getF)

set_option maxHeartbeats 1000000 in
theorem named_ok (a : ByteArray) (w : World) :
    Calls Tryz.prog 39 #[.string a] w fun r w' => (∃ q, r = .returned (.func (.func 64) #[] #[.pointer (some ⟨q, 0, none⟩)]) ∧ w'.cell? ⟨q, 0, none⟩ = some (.string a) ∧ w.heap.size ≤ q) ∧ Below w.heap.size w w' := by
  go_enter Tryz.func39, Tryz.ntmps39
  go_wp2
  go_ret
  exact ⟨⟨w.heap.size, rfl, by simp, Nat.le_refl _⟩, (Below.refl _ _).alloc (Nat.le_refl _) _⟩

set_option maxHeartbeats 1000000 in
theorem named1_ok (x : Fl) (a : ByteArray) (q : Nat) (w : World) (hq : w.cell? ⟨q, 0, none⟩ = some (.string a)) :
    Calls Tryz.prog 64 #[.agg #[.string x.name, .string x.data], .pointer (some ⟨q, 0, none⟩)] w fun r w' => r = .returned (.bool (decide (x.name = a))) ∧ Below w.heap.size w w' := by
  have hq' : (w.alloc (.cells #[.string x.name, .string x.data] 86)).cell? ⟨q, 0, none⟩ = some (.string a) := ((Below.refl w.heap.size w).alloc (Nat.le_refl _) _).cell (World.block_lt_of_cell? _ _ hq) |>.trans hq
  obtain ⟨n, d⟩ := x
  simp only at hq' ⊢
  by_cases h : n = a
  · subst h
    go_enter Tryz.func64, Tryz.ntmps64
    go_wp2
    go_ret
    exact ⟨ret_bool (by simp), (Below.refl _ _).alloc (Nat.le_refl _) _⟩
  · have ho := other_bytes h
    go_enter Tryz.func64, Tryz.ntmps64
    go_wp2
    go_ret
    exact ⟨ret_bool (by simp [h]), (Below.refl _ _).alloc (Nat.le_refl _) _⟩

/-- The first place at which a name stands, or -1. -/
def idxF (a : ByteArray) : List Fl → Nat → Int
  | [], _ => -1
  | f :: r, j => if f.name = a then (j : Int) else idxF a r (j + 1)
theorem idxF_step (a : ByteArray) (l : List Fl) (j : Nat) (h : j < l.length) : idxF a (l.drop j) j = if l[j].name = a then (j : Int) else idxF a (l.drop (j + 1)) (j + 1) := by
  rw [List.drop_eq_getElem_cons h, idxF]
theorem idxF_spec (a : ByteArray) : ∀ (l : List Fl) (i : Nat), (idxF a l i = -1 ∧ ∀ j (hj : j < l.length), l[j].name ≠ a) ∨ ∃ (k : Nat) (hk : k < l.length), idxF a l i = ((i + k : Nat) : Int) ∧ l[k].name = a ∧ ∀ j (hj : j < l.length), j < k → l[j].name ≠ a
  | [], i => Or.inl ⟨rfl, fun j hj => by simp at hj⟩
  | f :: r, i => by
    rw [idxF]
    by_cases h : f.name = a
    · rw [if_pos h]
      exact Or.inr ⟨0, by simp, by simp, by simpa using h, fun j hj hj0 => by omega⟩
    · rw [if_neg h]
      rcases idxF_spec a r (i + 1) with ⟨h1, h2⟩ | ⟨k, hk, h1, h2, h3⟩
      · refine Or.inl ⟨h1, fun j hj => ?_⟩
        cases j with
        | zero => simpa using h
        | succ j => simpa using h2 j (by simpa using hj)
      · refine Or.inr ⟨k + 1, by simpa using hk, by rw [h1]; congr 1; omega, by simpa using h2, fun j hj hjk => ?_⟩
        cases j with
        | zero => simpa using h
        | succ j => simpa using h3 j (by simpa using hj) (by omega)

set_option maxHeartbeats 2000000 in
set_option maxRecDepth 100000 in
theorem indexFunc_ok (v : Value) (l : List Fl) (a : ByteArray) (q : Nat) (w : World) (hv : FRow w v l) (hl : l.length ≤ 1000000) (hq : w.cell? ⟨q, 0, none⟩ = some (.string a)) :
    Calls Tryz.prog 38 #[v, .func (.func 64) #[] #[.pointer (some ⟨q, 0, none⟩)]] w fun r w' => r = .returned (.int .i64 (idxF a l 0)) ∧ Below w.heap.size w w' := by
  obtain ⟨s, c, rfl, hv⟩ := hv
  have HV := hide hv
  have HQ := hide hq
  have hl' : (l.length : Int) ≤ 1000000 := by omega
  clear hv hq
  generalize hR : idxF a l 0 = R
  have HR := hide hR
  clear hR
  go_enter Tryz.func38, Tryz.ntmps38
  go_wp2_with fail
  go_loopw [8] (fun t wr => ∃ j : Nat, t = .int .i64 j ∧ j ≤ l.length ∧ Hid (idxF a (l.drop j) j = R) ∧ Hid (Below w.heap.size w wr)) (fun t _ => l.length - (intOf t).toNat)
  case atStart => exact ⟨0, rfl, by omega, HR.out, Below.refl _ _⟩
  case round =>
    clear HR
    obtain ⟨j, rfl, hj, Hsc, Hb⟩ := hrel
    by_cases hlt : j < l.length
    · have hlt' : (j : Int) < l.length := by omega
      obtain ⟨b, o, rfl, hc⟩ := HV.out (by omega)
      obtain ⟨c0, c1⟩ := hc j hlt
      have d0 := (Hb.out.cell (World.block_lt_of_cell? _ _ c0)).trans c0
      have d1 := (Hb.out.cell (World.block_lt_of_cell? _ _ c1)).trans c1
      have Hs := hide (idxF_step a l j hlt)
      rw [Hsc.out] at Hs
      have HN := hide (named1_ok l[j] a q wr ((Hb.out.cell (World.block_lt_of_cell? _ _ HQ.out)).trans HQ.out))
      clear hc c0 c1 Hsc HV
      generalize l[j] = x at *
      by_cases hx : x.name = a
      · have hR := Hs.out
        rw [if_pos hx] at hR
        subst hR
        rw [decide_eq_true hx] at HN
        clear Hs hx
        go_wp2_with fail
        refine HN.out.mono ?_
        rintro r w1 ⟨rfl, hb1⟩
        have Hb1 := hide (bthen Hb.out hb1)
        clear hb1
        go_wp2
        go_ret
        exact ⟨rfl, Hb1.out⟩
      · have hR := Hs.out
        rw [if_neg hx] at hR
        have HR := hide hR
        rw [decide_eq_false hx] at HN
        clear Hs hx hR
        go_wp2_with fail
        refine HN.out.mono ?_
        rintro r w1 ⟨rfl, hb1⟩
        have Hb1 := hide (bthen Hb.out hb1)
        clear hb1
        go_wp2_with fail
        go_roundw
        case rel => exact ⟨j + 1, by go_num, by omega, HR.out.symm, Hb1.out⟩
        case measure => simp [intOf]; omega
    · have hle : (l.length : Int) ≤ (j : Int) := by omega
      have hR : R = -1 := by rw [← Hsc.out, List.drop_eq_nil_of_le (by omega), idxF]
      subst hR
      go_wp2
      go_ret
      exact ⟨rfl, Hb.out⟩

set_option maxHeartbeats 1000000 in
set_option maxRecDepth 100000 in
theorem get_ok (v : Value) (l : List Fl) (a : ByteArray) (w : World) (hv : FRow w v l) (hl : l.length ≤ 1000000) :
    Calls Tryz.prog 19 #[v, .string a] w fun r w' => r = .returned (.tuple #[.string (gOut (getF l a)).1, .bool (gOut (getF l a)).2]) ∧ Below w.heap.size w w' := by
  have HV := hide hv
  have HA := hide (fun W => named_ok a W)
  have HI := hide (fun q W (h : FRow W v l) (k : W.cell? ⟨q, 0, none⟩ = some (.string a)) => indexFunc_ok v l a q W h hl k)
  have hsp := idxF_spec a l 0
  obtain ⟨s, c, rfl, hv⟩ := hv
  rcases hsp with ⟨h1, h2⟩ | ⟨k, hk, h1, h2, h3⟩
  · rw [h1] at HI
    have Hg : Hid (getF l a = none) := Go.Files.getF_none.2 fun f hf => by obtain ⟨j, hj, rfl⟩ := List.getElem_of_mem hf; exact h2 j hj
    clear h1 h2 hv
    go_enter Tryz.func19, Tryz.ntmps19
    go_wp2_with fail
    refine (HA.out _).mono ?_
    rintro r w1 ⟨⟨q, rfl, hq, _⟩, hb1⟩
    have Hq := hide hq
    have Hb1 := hide hb1
    clear hq hb1 HA
    go_wp2_with fail
    refine (HI.out q _ (HV.out.below Hb1.out) Hq.out).mono ?_
    rintro r w2 ⟨rfl, hb2⟩
    have Hb2 := hide (bthen Hb1.out hb2)
    clear hb2
    go_wp2
    go_ret2
    exact ⟨by rw [Hg.out]; rfl, Hb2.out⟩
  · rw [Nat.zero_add] at h1
    rw [h1] at HI
    have Hg := hide (Go.Files.getF_at k hk h2 h3)
    obtain ⟨b, o, rfl, hc⟩ := hv (by omega)
    have c1 := (hc k hk).2
    have hk' : (k : Int) < l.length := by omega
    clear h1 h2 h3 hc hv
    generalize l[k] = x at *
    go_enter Tryz.func19, Tryz.ntmps19
    go_wp2_with fail
    refine (HA.out _).mono ?_
    rintro r w1 ⟨⟨q, rfl, hq, _⟩, hb1⟩
    have Hq := hide hq
    have Hb1 := hide hb1
    clear hq hb1 HA
    go_wp2_with fail
    refine (HI.out q _ (HV.out.below Hb1.out) Hq.out).mono ?_
    rintro r w2 ⟨rfl, hb2⟩
    have Hb2 := hide (bthen Hb1.out hb2)
    have d1 := (Hb2.out.cell (World.block_lt_of_cell? _ _ c1)).trans c1
    clear hb2 c1
    go_wp2
    go_ret2
    exact ⟨by rw [Hg.out]; rfl, Hb2.out⟩

theorem filesGet : FilesGet where
  get := fun v l a W hv hf _ => get_ok v l a W hv (by have := hf.1; omega)
end Go.Proofs.YtbflmkjlpopeaadGreatDoor
