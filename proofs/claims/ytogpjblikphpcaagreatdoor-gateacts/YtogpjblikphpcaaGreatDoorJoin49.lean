/-
  Contract of the document's Byte over this dump.
  Contract of the document's Decimal over this dump.
  Contract of the document's Gate.Text over this dump.
-/
import Derived.Test.YtogpjblikphpcaaGreatDoorBase
import Derived.Laws.BytesArg
import Derived.Test.YtogpjblikphpcaaGreatDoorDigits
import Derived.Deep.QuietTactic
import Derived.BigQuiet
import Derived.WalkSmall
import Derived.Test.YtogpjblikphpcaaGreatDoorRgDef
import Derived.Test.YtogpjblikphpcaaGreatDoorGtTextOk
import Derived.Deep.RegionHeld3
import Derived.Deep.DeepCutAuto
namespace Go.Proofs.YtogpjblikphpcaaGreatDoor
open Go.RowKit

set_option maxHeartbeats 400000 in
set_option maxRecDepth 100000 in
theorem byte_ok (n : Int) (w : World) (h0 : 0 ≤ n) (h1 : n < 256) : Calls Tryz.prog 94 #[.int .i64 n] w fun r w' => r = .returned (.string (str [UInt8.ofNat n.toNat])) ∧ Below w.heap.size w w' := by
  have hcv := run_convert_bytes_arg (P := Tryz.prog) (w.alloc (.cells #[.int .u8 n] 5)) 90 5 Tryz.underlying90 Tryz.underlying5 w.heap.size 0 1 1 [n] rfl (fun i hi => by
    have : i = 0 := by omega
    subst this; simp) 9 Tryz.underlying9
  have e : strOfNums [n] = str [UInt8.ofNat n.toNat] := rfl
  rw [e] at hcv
  go_enter Tryz.func94, Tryz.ntmps94
  go_wp2
  go_ret
  exact ⟨rfl, (Below.refl _ _).alloc (Nat.le_refl _) _⟩

end Go.Proofs.YtogpjblikphpcaaGreatDoor

namespace Go.Proofs.YtogpjblikphpcaaGreatDoor
open Go.RowKit
open Go.Digits (digits digits_small digits_big)

set_option maxHeartbeats 1000000 in
set_option maxRecDepth 100000 in
theorem below_ok (m : Nat) (hm : m ≤ 99999999999) : ∀ W, Calls Tryz.prog 71 #[.int .i64 (-(m : Int))] W fun r w' => r = .returned (.string (str (digits m))) ∧ Below W.heap.size W w' := by
  induction m using Nat.strongRecOn with
  | _ m ih =>
    intro W
    by_cases h : m < 10
    · have hB := hide (byte_ok (48 + m) W (by omega) (by omega))
      have e : (48 + (m : Int)).toNat = 48 + m := by omega
      rw [e, ← digits_small h] at hB
      have h1 : (-10 : Int) < -m := by omega
      have h2 : IntKind.i64.wrap (48 - -(m : Int)) = 48 + m := by rw [show (48 - -(m : Int)) = 48 + m by omega]; exact iwrap_id _ (by omega) (by omega)
      generalize str (digits m) = S at *
      clear ih e
      go_enter Tryz.func71, Tryz.ntmps71
      go_wp2_with fail
      refine hB.out.mono ?_
      rintro r w1 ⟨rfl, hb1⟩
      have Hb1 := hide hb1
      clear hb1 hB
      go_wp2_with fail
      go_ret
      exact ⟨rfl, Hb1.out⟩
    · have hI := hide (ih (m / 10) (by omega) (by omega))
      have hB := hide (fun W => byte_ok (48 + (m % 10 : Nat)) W (by omega) (by omega))
      have e : (48 + ((m % 10 : Nat) : Int)).toNat = 48 + m % 10 := by omega
      rw [e] at hB
      have h1 : (-(m : Int)) ≤ -10 := by omega
      have h2 : (-(m : Int)).tdiv 10 = -((m / 10 : Nat) : Int) := by rw [Int.neg_tdiv]; rfl
      have h3 : (-(m : Int)).tmod 10 = -((m % 10 : Nat) : Int) := by rw [Int.neg_tmod]; rfl
      have hR : Hid (str (digits (m / 10)) ++ str [UInt8.ofNat (48 + m % 10)] = str (digits m)) := by rw [digits_big (n := m) (by omega), str_app]; exact rfl
      have hx : (str (digits (m / 10))).size ≤ 11 := by rw [str_len]; exact (Go.Digits.digits_length _ 10 (by omega))
      have hy : (str [UInt8.ofNat (48 + m % 10)]).size ≤ 1 := by rw [str_len]; simp
      generalize str (digits m) = S at *
      generalize str (digits (m / 10)) = X at *
      generalize str [UInt8.ofNat (48 + m % 10)] = Y at *
      clear ih e
      go_enter Tryz.func71, Tryz.ntmps71
      go_wp2_with fail
      rw [show (-((m / 10 : Nat) : Int)) = -((m : Int) / 10) by omega] at hI
      rw [show (48 + ((m % 10 : Nat) : Int)) = 48 + (m : Int) % 10 by omega] at hB
      have h4 : IntKind.i64.wrap (48 + (m : Int) % 10) = 48 + (m : Int) % 10 := iwrap_id _ (by omega) (by omega)
      refine (hI.out _).mono ?_
      rintro r w1 ⟨rfl, hb1⟩
      have Hb1 := hide hb1
      clear hb1 hI
      go_wp2_with fail
      refine (hB.out _).mono ?_
      rintro r w2 ⟨rfl, hb2⟩
      have Hb2 := hide (bthen Hb1.out hb2)
      clear hb2 Hb1 hB
      have hz := hR.out
      go_wp2_with fail
      go_ret
      exact ⟨rfl, Hb2.out⟩

set_option maxHeartbeats 1000000 in
set_option maxRecDepth 100000 in
theorem decimal_ok (n : Int) (W : World) (h0 : 0 ≤ n) (h1 : n ≤ 99999999999) : Calls Tryz.prog 46 #[.int .i64 n] W fun r w' => r = .returned (.string (str (digits n.toNat))) ∧ Below W.heap.size W w' := by
  obtain ⟨m, rfl⟩ := Int.eq_ofNat_of_zero_le h0
  have HB := hide (below_ok m (by omega) W)
  rw [Int.toNat_natCast]
  generalize str (digits m) = S at *
  have hw : IntKind.i64.wrap (-(m : Int)) = -m := iwrap_id _ (by omega) (by omega)
  go_enter Tryz.func46, Tryz.ntmps46
  go_wp2_with fail
  refine HB.out.mono ?_
  rintro r w1 ⟨rfl, hb1⟩
  have Hb1 := hide hb1
  clear hb1 HB
  go_wp2_with fail
  go_ret
  exact ⟨rfl, Hb1.out⟩
end Go.Proofs.YtogpjblikphpcaaGreatDoor

namespace Go.Proofs.YtogpjblikphpcaaGreatDoor
open Go.RowKit
open Go.Gate
open Go.Digits (digits)

theorem textB_snoc (l : Toks) (j : Nat) (h : j < l.length) : textB (l.take (j + 1)) = textB (l.take j) ++ lineB l[j] := by
  unfold textB
  rw [List.take_succ_eq_append_getElem h, List.flatMap_append]
  simp only [List.flatMap_cons, List.flatMap_nil, List.append_nil]

set_option maxHeartbeats 1000000 in
set_option maxRecDepth 100000 in
theorem rtext_ok {M0 : Foot} {w0 W : World} {L : List Fam} {p : Nat} {l : Toks} (h0 : Sep M0 w0 (RGt p l :: L) W) (hf : Fit l) :
    Calls Tryz.prog 19 #[.pointer (some ⟨p, 0, none⟩)] W fun r w' => r = .returned (.string (str (textB l))) ∧ Sep M0 w0 (RGt p l :: L) w' := by
  have HS := hide h0
  obtain ⟨a, c, c0, hc⟩ := RGt.cells h0
  have hlen := hf.len
  have hl' : (l.length : Int) ≤ 20 := by omega
  have HC := hide hc
  have HF := hide hf
  have lp := World.block_lt_of_cell? _ _ c0
  have H0 : Hid (str (textB (l.take 0)) = ⟨#[]⟩) := rfl
  have HE : Hid (textB (l.take l.length) = textB l) := by rw [List.take_length]; exact rfl
  have HR := hide (fun w' (k : Below W.heap.size W w') => (k.cell (p := ⟨p, 0, none⟩) lp).trans c0)
  clear h0 hc hf
  go_enter Tryz.func19, Tryz.ntmps19
  go_wp2_with fail
  go_loopw [3, 4] (fun t3 t4 wr => ∃ j : Nat, t4 = .int .i64 j ∧ t3 = .string (str (textB (l.take j))) ∧ j ≤ l.length ∧ Hid (Below W.heap.size W wr)) (fun _ t4 _ => l.length - (intOf t4).toNat)
  case atStart => exact ⟨0, rfl, by rw [H0.out], Nat.zero_le _, Below.refl _ _⟩
  case round =>
    clear H0
    obtain ⟨j, rfl, rfl, hj, Hb⟩ := hrel
    have cp := HR.out _ Hb.out
    by_cases hlt : j < l.length
    · have hlt' : (j : Int) < l.length := by omega
      obtain ⟨b, rfl, hcc⟩ := HC.out (by omega)
      obtain ⟨e0, e1⟩ := hcc j hlt
      have d0 := (Hb.out.cell (World.block_lt_of_cell? _ _ e0)).trans e0
      have d1 := (Hb.out.cell (World.block_lt_of_cell? _ _ e1)).trans e1
      obtain ⟨h1, h2⟩ := HF.out.ok _ (List.getElem_mem hlt)
      have hsz : (str (textB (l.take j))).size ≤ 600 := by
        rw [str_len]
        have h3 := textB_len (g := l.take j) (fun p hp => HF.out.ok p (List.mem_of_mem_take hp))
        rw [List.length_take] at h3
        omega
      have hS := textB_snoc l j hlt
      have hnm : l[j].1.size ≤ 12 := by
        unfold Go.Files.isNm at h1
        simp only [Bool.and_eq_true, decide_eq_true_eq] at h1
        omega
      rw [isEp_iff] at h2
      generalize l[j] = x at *
      obtain ⟨xn, xe⟩ := x
      simp only at d0 d1 h2 hnm
      have HD := hide (fun W => decimal_ok xe W (by omega) (by omega))
      have hds : (str (digits xe.toNat)).size ≤ 11 := by rw [str_len]; exact digits_ten (by omega)
      have Hfin : Hid (str (textB (l.take j)) ++ xn ++ ⟨#[32]⟩ ++ str (digits xe.toNat) ++ ⟨#[10]⟩ = str (textB (l.take (j + 1)))) := by
        refine ext_of_list ?_
        rw [appendL, appendL, appendL, appendL, strL, strL, strL, hS]
        simp [lineB]
      have HH := hide (And.intro hj hlt)
      clear HC HF hcc hS e0 e1 h1 c0 lp hlen hj
      generalize str (textB (l.take j)) = S at *
      generalize str (digits xe.toNat) = D at *
      have p1 := fun W => run_string_add_sum (P := Tryz.prog) W S xn (by omega)
      have p2 := fun W => run_string_add_sum (P := Tryz.prog) W (S ++ xn) ⟨#[32]⟩ (by rw [ByteArray.size_append, show (ByteArray.mk #[32]).size = 1 from rfl]; omega)
      have p3 := fun W => run_string_add_sum (P := Tryz.prog) W (S ++ xn ++ ⟨#[32]⟩) D (by rw [ByteArray.size_append, ByteArray.size_append, show (ByteArray.mk #[32]).size = 1 from rfl]; omega)
      have p4 := fun W => run_string_add_sum (P := Tryz.prog) W (S ++ xn ++ ⟨#[32]⟩ ++ D) ⟨#[10]⟩ (by rw [ByteArray.size_append, ByteArray.size_append, ByteArray.size_append, show (ByteArray.mk #[32]).size = 1 from rfl, show (ByteArray.mk #[10]).size = 1 from rfl]; omega)
      clear hds hsz hnm h2
      go_wp2_with fail
      go_region_held3 (fun w' => Hid (Below W.heap.size W w') ∧ w'.cell? ⟨p, 0, none⟩ = some (.slice (some ⟨b, 0, none⟩) l.length c) ∧ w'.cell? ⟨b, j * 2, none⟩ = some (.string xn) ∧ w'.cell? ⟨b, j * 2 + 1, none⟩ = some (.int .i64 xe)) (first | exact ⟨Hb4, f0, f1, f2⟩ | exact ⟨Hb.out.drew, cp, d0, d1⟩)
        (first
          | (go_at_call 46; refine (HD.out _).mono ?_; rintro r w4 ⟨rfl, hb4⟩; have f0 : w4.cell? ⟨p, 0, none⟩ = some (.slice (some ⟨b, 0, none⟩) l.length c) := (hb4.cell (World.block_lt_of_cell? wr _ cp)).trans cp; have f1 : w4.cell? ⟨b, j * 2, none⟩ = some (.string xn) := (hb4.cell (World.block_lt_of_cell? wr _ d0)).trans d0; have f2 : w4.cell? ⟨b, j * 2 + 1, none⟩ = some (.int .i64 xe) := (hb4.cell (World.block_lt_of_cell? wr _ d1)).trans d1; have Hb4 := hide (bthen Hb.out.drew hb4); clear hb4))
      all_goals
        go_wp2_with fail
        go_roundw
        case rel => exact ⟨j + 1, by go_num, by rw [← Hfin.out], by have := HH.out; omega, Hb4.out⟩
        case measure => have := HH.out; simp [intOf]; omega
    · have hle : (l.length : Int) ≤ (j : Int) := by omega
      obtain rfl : j = l.length := by omega
      rw [HE.out]
      have HK := hide (HS.out.keep Hb.out)
      go_wp2_with fail
      go_ret
      exact ⟨rfl, HK.out⟩
end Go.Proofs.YtogpjblikphpcaaGreatDoor
