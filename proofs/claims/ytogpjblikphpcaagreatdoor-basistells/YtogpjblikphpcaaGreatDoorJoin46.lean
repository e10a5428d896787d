/-
  Contract of the document's MarkText over this dump.
  Contract of the document's Cut at any byte over this dump.
  Contract of the document's NumberOf over this dump.
-/
import Derived.Test.YtogpjblikphpcaaGreatDoorBasisAll
import Derived.Test.YtogpjblikphpcaaGreatDoorJoin45
import Derived.Deep.RegionHeld3
import Derived.Test.YtogpjblikphpcaaGreatDoorSep
import Derived.Test.YtogpjblikphpcaaGreatDoorCutC
import Derived.Deep.AppendLies
import Derived.Deep.QuietTactic
import Derived.BigQuiet
import Derived.WalkSmall
import Derived.Test.YtogpjblikphpcaaGreatDoorBase
import Derived.Test.YtogpjblikphpcaaGreatDoorDigits
import Derived.Deep.DeepCutAuto
namespace Go.Proofs.YtogpjblikphpcaaGreatDoor
open Go.RowKit
open Go.Basis
open Go.Digits (digits)

/-- The document's mark. -/
def mkC (m : Mk) : Value := .agg #[.string m.name, .int .i64 m.n, .int .i64 m.c]
theorem mkC_cells (w : World) (m : Mk) (T : TypeId) : (w.alloc (.cells #[.string m.name, .int .i64 m.n, .int .i64 m.c] T)).cell? ⟨w.heap.size, 0, none⟩ = some (.string m.name) ∧ (w.alloc (.cells #[.string m.name, .int .i64 m.n, .int .i64 m.c] T)).cell? ⟨w.heap.size, 1, none⟩ = some (.int .i64 m.n) ∧ (w.alloc (.cells #[.string m.name, .int .i64 m.n, .int .i64 m.c] T)).cell? ⟨w.heap.size, 2, none⟩ = some (.int .i64 m.c) :=
  ⟨by simp, by simp, by simp⟩

set_option maxHeartbeats 2000000 in
set_option maxRecDepth 100000 in
theorem rmarkText_ok (m : Mk) (W : World) (hn : m.name.size ≤ 100) (h0 : 0 ≤ m.c) (h1 : m.c ≤ 4294967295) : Calls Tryz.prog 25 #[mkC m] W fun r w' => r = .returned (.tuple #[.string (textM m), .int .i64 (markE m : Nat)]) ∧ Below W.heap.size W w' := by
  obtain ⟨nm, n, c⟩ := m
  simp only at hn h0 h1
  have HI := hide (fun W => isName_ok nm W (by omega))
  obtain ⟨c0, c1, c2⟩ := mkC_cells W ⟨nm, n, c⟩ 57
  simp only at c0 c1 c2
  have Hb := hide (((Below.refl W.heap.size W).alloc (Nat.le_refl _) (.cells #[.string nm, .int .i64 n, .int .i64 c] 57)))
  have hTE : ∀ k, markE ⟨nm, n, c⟩ = k → textM ⟨nm, n, c⟩ = if k = 0 then str (lineM ⟨nm, n, c⟩) else ⟨#[]⟩ := fun k h => by unfold textM; rw [h]
  unfold mkC
  simp only
  cases hN : Go.Files.isNm nm with
  | false =>
    rw [hN] at HI
    have hE : markE ⟨nm, n, c⟩ = 5 := by unfold markE; rw [if_pos hN]
    rw [hTE _ hE, hE, if_neg (by decide)]
    clear hTE hE
    go_enter Tryz.func25, Tryz.ntmps25
    go_wp2_with fail
    refine (HI.out _).mono ?_
    rintro r w1 ⟨rfl, rfl⟩
    go_wp2_with fail
    go_ret2
    exact ⟨rfl, Hb.out⟩
  | true =>
    rw [hN] at HI
    have hN' : ¬ Go.Files.isNm nm = false := by rw [hN]; simp
    by_cases hb : n < 0 ∨ 4000 < n
    · have hE : markE ⟨nm, n, c⟩ = 2 := by unfold markE; rw [if_neg hN', if_pos hb]
      rw [hTE _ hE, hE, if_neg (by decide)]
      clear hTE hE
      rcases hb with hb | hb
      · go_enter Tryz.func25, Tryz.ntmps25
        go_wp2_with fail
        refine (HI.out _).mono ?_
        rintro r w1 ⟨rfl, rfl⟩
        go_wp2_with fail
        go_ret2
        exact ⟨rfl, Hb.out⟩
      · have hb' : 0 ≤ n := by omega
        go_enter Tryz.func25, Tryz.ntmps25
        go_wp2_with fail
        refine (HI.out _).mono ?_
        rintro r w1 ⟨rfl, rfl⟩
        go_wp2_with fail
        go_ret2
        exact ⟨rfl, Hb.out⟩
    · have hE : markE ⟨nm, n, c⟩ = 0 := by unfold markE; rw [if_neg hN', if_neg hb]
      rw [hTE _ hE, hE, if_pos rfl]
      clear hTE hE
      have hb1 : 0 ≤ n := by omega
      have hb2 : n ≤ 4000 := by omega
      have HX := hide (fun W => decimal_ok n W hb1 (by omega))
      have HY := hide (fun W => decimal_ok c W h0 (by omega))
      have hlx : (str (digits n.toNat)).size ≤ 10 := by rw [str_len]; exact digits10 (by omega)
      have hly : (str (digits c.toNat)).size ≤ 10 := by rw [str_len]; exact digits10 (by omega)
      have HR : Hid (nm ++ ⟨#[32]⟩ ++ str (digits n.toNat) ++ ⟨#[32]⟩ ++ str (digits c.toNat) = str (lineM ⟨nm, n, c⟩)) := by
        refine ext_of_list ?_
        rw [appendL, appendL, appendL, appendL, strL, strL, strL, lineM]
        simp
      generalize str (lineM ⟨nm, n, c⟩) = R at *
      generalize str (digits n.toNat) = X at *
      generalize str (digits c.toNat) = Y at *
      have z1 : (ByteArray.mk #[32]).size = 1 := rfl
      have p1 := fun W => run_string_add_sum (P := Tryz.prog) W nm ⟨#[32]⟩ (by rw [z1]; omega)
      have p2 := fun W => run_string_add_sum (P := Tryz.prog) W (nm ++ ⟨#[32]⟩) X (by rw [ByteArray.size_append, z1]; omega)
      have p3 := fun W => run_string_add_sum (P := Tryz.prog) W (nm ++ ⟨#[32]⟩ ++ X) ⟨#[32]⟩ (by rw [ByteArray.size_append, ByteArray.size_append, z1]; omega)
      have p4 := fun W => run_string_add_sum (P := Tryz.prog) W (nm ++ ⟨#[32]⟩ ++ X ++ ⟨#[32]⟩) Y (by rw [ByteArray.size_append, ByteArray.size_append, ByteArray.size_append, z1]; omega)
      clear hb hlx hly z1 hN'
      go_enter Tryz.func25, Tryz.ntmps25
      have HP : Hid (W.heap.size ≤ (W.alloc (.cells #[.string nm, .int .i64 n, .int .i64 c] 57)).heap.size) := by simp [Hid]
      go_wp2_with fail
      refine (HI.out _).mono ?_
      rintro r w1 ⟨rfl, rfl⟩
      generalize W.alloc (.cells #[.string nm, .int .i64 n, .int .i64 c] 57) = W1 at *
      generalize hp : W.heap.size = p at *
      have HPe := hide hp
      clear hp
      go_wp2_with fail
      go_region_held3 (fun w' => Hid (Below p W w') ∧ w'.cell? ⟨p, 0, none⟩ = some (.string nm) ∧ w'.cell? ⟨p, 1, none⟩ = some (.int .i64 n) ∧ w'.cell? ⟨p, 2, none⟩ = some (.int .i64 c)) (first | exact ⟨Hb.out.drew, c0, c1, c2⟩ | exact ⟨Hb4.out, e0, e1, e2⟩ | exact ⟨Hb5.out, f0, f1, f2⟩)
        (first
          | (go_at_call_of 46 (Value.int .i64 n); refine (HX.out _).mono ?_; rintro r w4 ⟨rfl, hb4⟩; have e0 : w4.cell? ⟨p, 0, none⟩ = some (.string nm) := (hb4.cell (World.block_lt_of_cell? W1 _ c0)).trans c0; have e1 : w4.cell? ⟨p, 1, none⟩ = some (.int .i64 n) := (hb4.cell (World.block_lt_of_cell? W1 _ c1)).trans c1; have e2 : w4.cell? ⟨p, 2, none⟩ = some (.int .i64 c) := (hb4.cell (World.block_lt_of_cell? W1 _ c2)).trans c2; have Hp4 : Hid (p ≤ w4.heap.size) := Nat.le_trans HP.out hb4.size; have Hb4 : Hid (Below p W w4) := hide (Hb.out.drew.trans (hb4.mono (HP.out))); clear hb4)
          | (go_at_call_of 46 (Value.int .i64 c); refine (HY.out _).mono ?_; rintro r w5 ⟨rfl, hb5⟩; have f0 : w5.cell? ⟨p, 0, none⟩ = some (.string nm) := (hb5.cell (World.block_lt_of_cell? w4 _ e0)).trans e0; have f1 : w5.cell? ⟨p, 1, none⟩ = some (.int .i64 n) := (hb5.cell (World.block_lt_of_cell? w4 _ e1)).trans e1; have f2 : w5.cell? ⟨p, 2, none⟩ = some (.int .i64 c) := (hb5.cell (World.block_lt_of_cell? w4 _ e2)).trans e2; have Hb5 : Hid (Below p W w5) := hide (Hb4.out.trans (hb5.mono Hp4.out)); clear hb5))
      all_goals
        go_wp2_with fail
        go_ret2
        exact ⟨by rw [← HR.out]; rfl, by have h := Hb5.out; rw [← HPe.out] at h; exact h⟩
end Go.Proofs.YtogpjblikphpcaaGreatDoor

namespace Go.Proofs.YtogpjblikphpcaaGreatDoor
open Go.RowKit
open Go.Gate

theorem Tryz.infoStrC : (Tryz.prog.info? 9).map (fun i => (i.zero, i.size, i.bytes)) = some (some (.string ⟨#[]⟩), 1, 16) := by kernel_rfl
def partC (x : List UInt8) : Value := .string (str x)
set_option maxHeartbeats 1000000 in
set_option maxRecDepth 100000 in
theorem rcutC_ok {M0 : Foot} {w0 W : World} {L : List Fam} (c : UInt8) (h0 : Sep M0 w0 L W) (s : ByteArray) (hs : s.size ≤ 100000) :
    Calls Tryz.prog 47 #[.string s, .int .u8 (c.toNat : Nat)] W fun r w' => ∃ v, r = .returned v ∧ Sep M0 w0 (OwnF 9 1 v (cutC c s.data.toList).length ((cutC c s.data.toList).map partC) :: L) w' := by
  obtain ⟨i0, hi, hz0, hz1, hz2⟩ := info_parts Tryz.infoStrC
  have H0 : Hid (Sep M0 w0 (OwnF 9 1 (.slice none 0 0) ([] : List (List UInt8)).length ((([] : List (List UInt8))).map partC) :: L) W) := h0.nil 9 1
  have hs' : (s.size : Int) ≤ 100000 := by omega
  have HE := hide (fun outs f => cutC_end (c := c) (S := s.data.toList) (outs := outs) (f := f))
  have HG := hide (fun outs f i => cutC_step (c := c) (S := s.data.toList) (outs := outs) (f := f) (i := i))
  have HB := hide (fun f i => cutC_grow (c := c) (S := s.data.toList) (f := f) (i := i))
  clear h0
  go_enter Tryz.func47, Tryz.ntmps47
  go_wp2_with fail
  go_loopw [5, 6, 7] (fun t5 t6 t7 wr => ∃ (i f : Nat) (outs : List (List UInt8)), t7 = .int .i64 i ∧ t6 = .int .i64 f ∧ f ≤ i ∧ i ≤ s.size ∧ outs.length ≤ i ∧ Hid (c ∉ (s.data.toList.take i).drop f) ∧ Hid (outs ++ cutC c (s.data.toList.drop f) = cutC c s.data.toList) ∧ Hid (Sep M0 w0 (OwnF 9 1 t5 outs.length (outs.map partC) :: L) wr)) (fun _ _ t7 _ => s.size - (intOf t7).toNat)
  case atStart => exact ⟨0, 0, [], rfl, rfl, Nat.le_refl _, Nat.zero_le _, Nat.zero_le _, by simp [Hid], rfl, H0.out⟩
  case round =>
    clear H0
    obtain ⟨i, f, outs, rfl, rfl, hfi, hi1, hol, H10, Hc, Hs⟩ := hrel
    by_cases hlt : i < s.size
    · have hlt' : (i : Int) < s.size := by omega
      have hbb := byte_lt s[i]
      have hat : ∀ h, s.data.toList[i]'h = s[i] := fun _ => rfl
      by_cases hb : s[i] = c
      · have e := HG.out outs f i (by rw [lenL]; exact hlt) hfi H10.out Hc.out ((hat _).trans hb)
        have Hc2 := hide e
        have hx : s.extract f i = str ((s.data.toList.take i).drop f) := by
          refine ext_of_list ?_
          rw [extractL, strL, List.drop_take]
        have Hn : Hid (∀ (v : Value) wz, Sep M0 w0 (OwnF 9 1 v (outs.length + 1) (outs.map partC ++ [.string (s.extract f i)]) :: L) wz → Sep M0 w0 (OwnF 9 1 v (outs ++ [(s.data.toList.take i).drop f]).length ((outs ++ [(s.data.toList.take i).drop f]).map partC) :: L) wz) := fun v wz h => by
          rw [List.length_append, List.length_singleton, List.map_append, List.map_singleton, partC, ← hx]
          exact h
        have hfi' : (f : Int) ≤ i := by omega
        have hb1 : (s[i].toNat : Int) = (c.toNat : Int) := by rw [hb]
        have hb2 : s[i].toNat = c.toNat := by rw [hb]
        have H10' : Hid (c ∉ (s.data.toList.take (i + 1)).drop (i + 1)) := by
          rw [List.drop_take]
          simp [Hid]
        have Ho := hide Hs.out.own
        clear e hx HG HB HE Hc H10 hat hb
        generalize outs.map partC = xs at *
        go_wp2_with (at_builtin; refine wpList_append_lies _ rfl (.tmp 19) (.tmp 24) 22 rfl 0 9 i0 (.string ⟨#[]⟩) 1 16 Tryz.underlying22 hi hz0 hz1 hz2 rfl (by decide) u5 outs.length xs rfl (Ho.out.alloc _) ⟨wr.heap.size, 0, none⟩ 1 1 [.string (s.extract f i)] rfl rfl ?c1 ?c2 (by decide) ?b1 ?b2 (Nat.zero_le _) _ rfl ?next)
        try case c1 => exact news1 _ _ _ _ rfl
        case c2 => first | rfl | (intro u hu; simp at hu; subst hu; rfl)
        case b1 => unfold maxLen; omega
        case b2 => omega
        case next =>
          intro g5 k5 w5 own5 hg5 hat5 hlt5
          have Hs5 := hide (Hn.out _ _ ((Hs.out.alloc (.cells #[.string (s.extract f i)] 9)).lies own5 hg5 hat5 (by simp)))
          clear own5 hg5 hat5 hlt5 Hs Ho Hn
          go_wp2_with fail
          go_roundw
          case rel => exact ⟨i + 1, i + 1, outs ++ [(s.data.toList.take i).drop f], by go_num, by go_num, Nat.le_refl _, by omega, by simp; omega, H10'.out, Hc2.out, Hs5.out⟩
          case measure => simp [intOf]; omega
      · have H10' := hide (HB.out f i (by rw [lenL]; exact hlt) hfi H10.out (fun e => hb ((hat _).symm.trans e)))
        have hb1 : ¬ (s[i].toNat : Int) = (c.toNat : Int) := by
          intro e
          exact hb (UInt8.toNat_inj.1 (by omega))
        have hb2 : ¬ s[i].toNat = c.toNat := by omega
        clear HG HB HE H10 hat hb
        go_wp2_with fail
        go_roundw
        case rel => exact ⟨i + 1, f, outs, by go_num, rfl, by omega, by omega, by omega, H10'.out, Hc.out, Hs.out⟩
        case measure => simp [intOf]; omega
    · have hle : (s.size : Int) ≤ (i : Int) := by omega
      obtain rfl : i = s.size := by omega
      have e := HE.out outs f (by rw [lenL]; exact H10.out) Hc.out
      have hx : s.extract f s.size = str (s.data.toList.drop f) := by
        refine ext_of_list ?_
        rw [extractL, strL, List.take_of_length_le (by rw [List.length_drop, lenL]; omega)]
      have Hn : Hid (∀ (v : Value) wz, Sep M0 w0 (OwnF 9 1 v (outs.length + 1) (outs.map partC ++ [.string (s.extract f s.size)]) :: L) wz → Sep M0 w0 (OwnF 9 1 v (cutC c s.data.toList).length ((cutC c s.data.toList).map partC) :: L) wz) := fun v wz h => by
        rw [← e, List.length_append, List.length_singleton, List.map_append, List.map_singleton, partC, ← hx]
        exact h
      have hfi' : (f : Int) ≤ s.size := by omega
      have Ho := hide Hs.out.own
      clear e hx HG HB HE Hc H10
      generalize outs.map partC = xs at *
      go_wp2_with (at_builtin; refine wpList_append_lies _ rfl (.tmp 28) (.tmp 32) 22 rfl 0 9 i0 (.string ⟨#[]⟩) 1 16 Tryz.underlying22 hi hz0 hz1 hz2 rfl (by decide) u5 outs.length xs rfl (Ho.out.alloc _) ⟨wr.heap.size, 0, none⟩ 1 1 [.string (s.extract f s.size)] rfl rfl ?d1 ?d2 (by decide) ?e1 ?e2 (Nat.zero_le _) _ rfl ?next2)
      try case d1 => exact news1 _ _ _ _ rfl
      case d2 => first | rfl | (intro u hu; simp at hu; subst hu; rfl)
      case e1 => unfold maxLen; omega
      case e2 => omega
      case next2 =>
        intro g5 k5 w5 own5 hg5 hat5 hlt5
        have Hs5 := hide (Hn.out _ _ ((Hs.out.alloc (.cells #[.string (s.extract f s.size)] 9)).lies own5 hg5 hat5 (by simp)))
        clear own5 hg5 hat5 hlt5 Hs Ho Hn
        go_wp2_with fail
        go_ret
        exact ⟨_, rfl, Hs5.out⟩
end Go.Proofs.YtogpjblikphpcaaGreatDoor

namespace Go.Proofs.YtogpjblikphpcaaGreatDoor
open Go.RowKit
open Go.Digits (numberOf isDigit value)

/-- What NumberOf answers. -/
def numI (l : List UInt8) (most : Nat) : Int := match numberOf l most with | none => -1 | some n => n
theorem value_take {s : ByteArray} {j : Nat} (h : j < s.size) : value 0 (s.data.toList.take (j + 1)) = 10 * value 0 (s.data.toList.take j) + (s[j].toNat - 48) := by
  rw [takeL s j h, Go.Digits.value_snoc]
theorem value_less : ∀ (l : List UInt8) (acc : Nat), l.all isDigit = true → value acc l < (acc + 1) * 10 ^ l.length
  | [], acc, _ => by simp [value]
  | b :: l, acc, h => by
    simp only [List.all_cons, Bool.and_eq_true, isDigit, decide_eq_true_eq] at h
    have h1 := value_less l (10 * acc + (b.toNat - 48)) h.2
    have e : value acc (b :: l) = value (10 * acc + (b.toNat - 48)) l := rfl
    rw [e, List.length_cons, Nat.pow_succ]
    refine Nat.lt_of_lt_of_le h1 ?_
    have h2 : 10 * acc + (b.toNat - 48) + 1 ≤ (acc + 1) * 10 := by omega
    calc (10 * acc + (b.toNat - 48) + 1) * 10 ^ l.length ≤ ((acc + 1) * 10) * 10 ^ l.length := Nat.mul_le_mul_right _ h2
      _ = (acc + 1) * (10 ^ l.length * 10) := by rw [Nat.mul_assoc, Nat.mul_comm 10 (10 ^ l.length)]
theorem value_small (l : List UInt8) (h : l.all isDigit = true) : value 0 l < 10 ^ l.length := by
  have := value_less l 0 h
  rwa [Nat.zero_add, Nat.one_mul] at this
theorem digit_false {s : ByteArray} {j : Nat} (h : j < s.size) (hc : isDigit s[j] = false) : s.data.toList.all isDigit = false := by
  rw [List.all_eq_false]
  exact ⟨s[j], by rw [← atL s j h]; exact List.getElem_mem _, by simp [hc]⟩
theorem digit_take (s : ByteArray) (j : Nat) (h : j < s.size) : (s.data.toList.take (j + 1)).all isDigit = ((s.data.toList.take j).all isDigit && isDigit s[j]) := by
  rw [takeL s j h, List.all_append]
  simp

set_option maxHeartbeats 1000000 in
set_option maxRecDepth 100000 in
theorem rnum_ok (s : ByteArray) (most : Nat) (hm : most ≤ 10) (hs : s.size ≤ 2000000) (W : World) : Calls Tryz.prog 48 #[.string s, .int .i64 most] W fun r w' => r = .returned (.int .i64 (numI s.data.toList most)) ∧ w' = W := by
  have hm' : (most : Int) ≤ 10 := by omega
  have hs' : (s.size : Int) ≤ 2000000 := by omega
  have hlen := lenL s
  by_cases h1 : s.size < 1
  · have hn : numI s.data.toList most = -1 := by
      unfold numI numberOf
      rw [if_pos (.inl (List.eq_nil_of_length_eq_zero (by omega)))]
    have h1' : (s.size : Int) < 1 := by omega
    rw [hn]
    clear hn hlen h1
    go_enter Tryz.func48, Tryz.ntmps48
    go_wp2_with fail
    go_ret
    exact ⟨rfl, rfl⟩
  by_cases h2 : most < s.size
  · have hn : numI s.data.toList most = -1 := by
      unfold numI numberOf
      rw [if_pos (.inr (.inl (by omega)))]
    have h1' : (1 : Int) ≤ s.size := by omega
    have h2' : (most : Int) < s.size := by omega
    rw [hn]
    clear hn hlen h1 h2
    go_enter Tryz.func48, Tryz.ntmps48
    go_wp2_with fail
    go_ret
    exact ⟨rfl, rfl⟩
  have h1' : (1 : Int) ≤ s.size := by omega
  have h2' : (s.size : Int) ≤ most := by omega
  have h0 : 0 < s.size := by omega
  have hhd : s.data.toList.head? = some s[0] := by
    rw [List.head?_eq_getElem?, List.getElem?_eq_getElem (by omega)]
    rfl
  have hbb := byte_lt s[0]
  by_cases h3 : 1 < s.size ∧ s[0] = 48
  · have hn : numI s.data.toList most = -1 := by
      unfold numI numberOf
      rw [if_pos (.inr (.inr (.inl ⟨by omega, by rw [hhd, h3.2]⟩)))]
    have h3' : (1 : Int) < s.size := by omega
    have h4' : (s[0].toNat : Int) = 48 := by rw [h3.2]; rfl
    have h4 : s[0].toNat = 48 := by rw [h3.2]; rfl
    rw [hn]
    clear hn hlen h1 h2 h3 hhd
    go_enter Tryz.func48, Tryz.ntmps48
    go_wp2_with fail
    go_ret
    exact ⟨rfl, rfl⟩
  have HA : Hid (s.data.toList.all isDigit = false → numI s.data.toList most = -1) := fun h => by
    unfold numI numberOf
    rw [if_pos (.inr (.inr (.inr h)))]
  have HT : Hid (s.data.toList.all isDigit = true → numI s.data.toList most = (value 0 s.data.toList : Nat)) := fun h => by
    unfold numI numberOf
    rw [if_neg]
    rintro (h5 | h5 | h5 | h5)
    · rw [h5] at hlen; simp at hlen; omega
    · omega
    · rw [hhd] at h5
      exact h3 ⟨by omega, by simpa using h5.2⟩
    · rw [h] at h5; cases h5
  have HD := hide (fun j h hc => digit_false (s := s) (j := j) h hc)
  have HK := hide (digit_take s)
  have HV := hide (fun j h => value_take (s := s) (j := j) h)
  have HS := hide (fun j (h : (s.data.toList.take j).all isDigit = true) => value_small _ h)
  have HL : Hid (s.data.toList.take s.size = s.data.toList) := by rw [← hlen, List.take_length]; exact rfl
  have Hlen := hide hlen
  generalize hR : numI s.data.toList most = R at *
  clear hR hlen hhd
  have h3' : (s.size : Int) ≤ 1 ∨ (1 : Int) < s.size ∧ ¬ (s[0].toNat : Int) = 48 := by
    by_cases h : 1 < s.size
    · refine .inr ⟨by omega, fun e => h3 ⟨h, UInt8.toNat_inj.1 (by rw [show (48 : UInt8).toNat = 48 from rfl]; omega)⟩⟩
    · exact .inl (by omega)
  go_enter Tryz.func48, Tryz.ntmps48
  go_upto_region 1 with fail
  go_cut [25] (fun v25 wc => v25 = .bool false ∧ wc = W)
  case first =>
    rcases h3' with h3' | ⟨h3', h4'⟩
    · clear HA HT HD HK HV HS HL Hlen
      go_wp2_with fail
      go_meet
      case rel => exact ⟨by rw [decide_eq_false (by omega)], rfl⟩
    · have h4 : ¬ s[0].toNat = 48 := by omega
      clear HA HT HD HK HV HS HL Hlen
      go_wp2_with fail
      go_meet
      case rel => exact ⟨by rw [decide_eq_false (by omega), beq_eq_false_iff_ne.2 h4']; rfl, rfl⟩
  case rest =>
    obtain ⟨rfl, rfl⟩ := hcut
    clear h3'
    go_wp2_with fail
    go_loop [5, 6] (fun t5 t6 => ∃ j : Nat, t6 = .int .i64 j ∧ t5 = .int .i64 (value 0 (s.data.toList.take j) : Nat) ∧ j ≤ s.size ∧ Hid ((s.data.toList.take j).all isDigit = true)) (fun _ t6 => s.size - (intOf t6).toNat)
    case atStart => exact ⟨0, rfl, rfl, Nat.zero_le _, rfl⟩
    case round =>
      obtain ⟨j, rfl, rfl, hj, Hj⟩ := hrel
      by_cases hlt : j < s.size
      · have hlt' : (j : Int) < s.size := by omega
        have hb := byte_lt s[j]
        have hk := HK.out j hlt
        rw [Hj.out, Bool.true_and] at hk
        have hvl := HS.out j Hj.out
        have hv10 : value 0 (s.data.toList.take j) < 1000000000 := by
          have : (10 : Nat) ^ (s.data.toList.take j).length ≤ 10 ^ 9 := Nat.pow_le_pow_right (by omega) (by rw [List.length_take]; omega)
          omega
        cases hd : isDigit s[j] with
        | false =>
          obtain rfl := HA.out (HD.out j hlt hd)
          have h6 : s[j].toNat < 48 ∨ 48 ≤ s[j].toNat ∧ 57 < s[j].toNat := by
            simp only [isDigit, decide_eq_false_iff_not] at hd
            omega
          clear HA HT HD HK HV HS HL Hlen hd hk hvl
          generalize value 0 (s.data.toList.take j) = V at *
          rcases h6 with h6 | ⟨h6, h7⟩
          · have h6' : (s[j].toNat : Int) < 48 := by omega
            go_wp2_with fail
            go_ret
            exact ⟨rfl, rfl⟩
          · have h6' : (48 : Int) ≤ s[j].toNat := by omega
            have h7' : (57 : Int) < s[j].toNat := by omega
            go_wp2_with fail
            go_ret
            exact ⟨rfl, rfl⟩
        | true =>
          have h6 : 48 ≤ s[j].toNat ∧ s[j].toNat ≤ 57 := by simpa [isDigit] using hd
          obtain ⟨h6, h7⟩ := h6
          rw [hd] at hk
          have Hk := hide hk
          have Hv := hide (HV.out j hlt)
          have h6' : (48 : Int) ≤ s[j].toNat := by omega
          have h7' : (s[j].toNat : Int) ≤ 57 := by omega
          clear HA HT HD HK HV HS HL Hlen hd hk hvl
          generalize value 0 (s.data.toList.take j) = V at *
          go_wp2_with fail
          go_round
          case rel => exact ⟨j + 1, by go_num, by rw [Hv.out]; congr 1; omega, by omega, Hk.out⟩
          case measure => simp [intOf]; omega
      · have hle : (s.size : Int) ≤ (j : Int) := by omega
        obtain rfl : j = s.size := by omega
        have hj2 := Hj.out
        rw [HL.out] at hj2 ⊢
        obtain rfl := HT.out hj2
        clear HA HT HD HK HV HS HL Hlen hj2 Hj
        go_wp2_with fail
        go_ret
        exact ⟨rfl, rfl⟩
theorem rnumber_ok (s : ByteArray) (hs : s.size ≤ 2000000) (W : World) : Calls Tryz.prog 48 #[.string s, .int .i64 10] W fun r w' => r = .returned (.int .i64 (numI s.data.toList 10)) ∧ w' = W :=
  rnum_ok s 10 (Nat.le_refl _) hs W
end Go.Proofs.YtogpjblikphpcaaGreatDoor
