/-
  The walk of the law PatchWhole over the contracts.
  PatchWhole is true for every input: a file is put together from its delta to another one's signature, and that one, if no unlike blocks have the same sums; without a signature always. Condition: the variables of the six errors start as the text of the program lays them (the card ties them).
-/
import Derived.Test.YtcenohaadggdiacDoorJoin11
import Derived.Test.YtcenohaadggdiacDoorMakeOps
import Derived.Deep.DeepCutAuto
import Derived.Deep.RegionHeld3
import Derived.Deep.QuietTactic
import Derived.Deep.RegionWith
import Derived.BigQuiet
import Derived.Test.YtcenohaadggdiacDoorCards
import Derived.Test.YtcenohaadggdiacDoorTie
import Derived.Test.YtcenohaadggdiacDoorJoin12
import Derived.ChangeOld
import Derived.Carry
namespace Go.Proofs.YtcenohaadggdiacDoor
open Go.RowKit
open Go.Sign (Blk)
open Go.Delta (Opx cost)

theorem wholeOut_zero {old : List UInt8} {size : Int} {ops : List Opx} {n : Int} {c : Nat} (h : (wholeOut old size ops n c).2.1 = 0) : ((wholeOut old size ops n c).1.length : Int) = n ∧ Go.Crc.crc 0 (wholeOut old size ops n c).1 = c := by
  unfold wholeOut at h ⊢
  by_cases h1 : (patchOut old size ops).2.1 = 0
  · simp only [if_pos h1] at h ⊢
    by_cases h2 : ((patchOut old size ops).1.length : Int) = n ∧ Go.Crc.crc 0 (patchOut old size ops).1 = c
    · simp only [if_pos h2]
      exact h2
    · simp only [if_neg h2] at h
      omega
  · simp only [if_neg h1] at h
    exact absurd h h1
theorem wholeOut_len (old : List UInt8) (size : Int) (ops : List Opx) (n : Int) (c : Nat) : (wholeOut old size ops n c).1.length ≤ 4000 := by
  unfold wholeOut
  split
  · split
    · exact patchOut_len _ _ _
    · simp
  · simp
theorem wholeOut_of {old s : List UInt8} {size : Nat} {ops : List Opx} (h1 : 1 ≤ size) (h2 : size ≤ 64) (ho : old.length ≤ 4000) (hw : ∀ o ∈ ops, Go.Delta.opFault o = 0) (hp : patchL old size ops 0 [] = .ok s) : wholeOut old size ops s.length (Go.Crc.crc 0 s) = (s, 0, -1) := by
  have e : patchOut old size ops = (s, 0, -1) := by
    unfold patchOut
    rw [if_pos ⟨by omega, by omega, ho⟩, Go.Delta.faultO_of hw, if_pos rfl, Int.toNat_natCast, hp]
  unfold wholeOut
  rw [e]
  simp
/-- No unlike parts with the same sums as one of the first i blocks. -/
def NoClash (old s : List UInt8) (size i : Nat) : Prop :=
  ∀ i', i' < i → ∀ m, m + ((old.drop (i' * size)).take size).length ≤ s.length → (s.drop m).take ((old.drop (i' * size)).take size).length = (old.drop (i' * size)).take size ∨ blk ((s.drop m).take ((old.drop (i' * size)).take size).length) ≠ blk ((old.drop (i' * size)).take size)
theorem noClash_all {old s : List UInt8} {size : Nat} (h : NoClash old s size (many old.length size)) : ¬ Clash old s size := by
  rintro ⟨i, m, h1, h2, h3, h4⟩
  have e : ((old.drop (i * size)).take size).length = min size (old.length - i * size) := by simp
  rcases h i h1 m (by rw [e]; exact h2) with hh | hh
  · rw [e] at hh; exact h3 hh
  · rw [e] at hh; exact hh h4

def PairOk (B s : List UInt8) (m : Nat) : Prop := m + B.length ≤ s.length → (s.drop m).take B.length = B ∨ blk ((s.drop m).take B.length) ≠ blk B
def Inner (old s : List UInt8) (size i m : Nat) : Prop := NoClash old s size i ∧ ∀ m', m' < m → PairOk ((old.drop (i * size)).take size) s m'
theorem inner_start {old s : List UInt8} {size i : Nat} (h : NoClash old s size i) : Inner old s size i 0 := ⟨h, fun m' hm => by omega⟩
theorem inner_step {old s : List UInt8} {size i m : Nat} (h : Inner old s size i m) (hp : PairOk ((old.drop (i * size)).take size) s m) : Inner old s size i (m + 1) := ⟨h.1, fun m' hm => by
  by_cases e : m' = m
  · rw [e]; exact hp
  · exact h.2 m' (by omega)⟩
theorem inner_end {old s : List UInt8} {size i m : Nat} (h : Inner old s size i m) (hm : s.length < m + ((old.drop (i * size)).take size).length) : NoClash old s size (i + 1) := by
  intro i' hi' m' hm'
  by_cases e : i' = i
  · subst e
    exact h.2 m' (by omega) hm'
  · exact h.1 i' (by omega) m' hm'

set_option maxHeartbeats 2000000 in
set_option maxRecDepth 100000 in
theorem pwhole_early (old s : ByteArray) (size : Int) (e : EV) (Env : World → Prop) (w : World) (hS : Env w) (hEB : ∀ w w', Env w → Below w.heap.size w w' → Env w') (hEr : ∀ w, Env w → Er2 e w) (hP : ApplyAll Env)
    (h : 200 < old.size ∨ 200 < s.size ∨ ¬ (1 ≤ size ∧ size ≤ 64)) :
    Calls Tryd.prog 7 #[.string old, .string s, .int .i64 size] w fun r w' => r = .returned (.bool true) ∧ Below w.heap.size w w' := by
  have HM := hide (patched_ok Env w hS hEB hP)
  have HE := hide (fun w' hb => hEr w' (hEB w w' hS hb))
  clear hS hEB hEr hP
  by_cases h1 : 200 < old.size
  · have h1' : decide ((200 : Int) < old.size) = true := by simp; omega
    clear h
    go_enter Tryd.func7, Tryd.ntmps7
    go_wp2_with fail
    refine HM.out.mono ?_
    rintro r w1 ⟨rfl, hb1⟩
    have Hb1 := hide hb1
    clear hb1
    go_wp2
    go_ret
    exact ⟨rfl, Hb1.out⟩
  · have h1' : decide ((200 : Int) < old.size) = false := by simp; omega
    by_cases h2 : 200 < s.size
    · have h2' : decide ((200 : Int) < s.size) = true := by simp; omega
      clear h
      go_enter Tryd.func7, Tryd.ntmps7
      go_wp2_with fail
      refine HM.out.mono ?_
      rintro r w1 ⟨rfl, hb1⟩
      have Hb1 := hide hb1
      clear hb1
      go_wp2
      go_ret
      exact ⟨rfl, Hb1.out⟩
    · have h2' : decide ((200 : Int) < s.size) = false := by simp; omega
      have HO := hide (fun W (x : Er2 e W) => of_err old size e.tB e.xB W (Or.inr ((h.resolve_left h1).resolve_left h2)) x.bound)
      clear h
      go_enter Tryd.func7, Tryd.ntmps7
      go_wp2_with fail
      refine HM.out.mono ?_
      rintro r w1 ⟨rfl, hb1⟩
      have Hb1 := hide hb1
      clear hb1
      go_wp2_with fail
      refine (HO.out _ (HE.out _ Hb1.out)).mono ?_
      rintro r w2 ⟨rfl, hb2⟩
      have Hb2 := hide (bthen Hb1.out hb2)
      clear hb2
      go_wp2
      go_ret
      exact ⟨rfl, Hb2.out⟩

set_option maxHeartbeats 4000000 in
set_option maxRecDepth 100000 in
theorem pwhole_main (old s : ByteArray) (size : Nat) (e : EV) (Env : World → Prop) (w : World) (hS : Env w) (hEB : ∀ w w', Env w → Below w.heap.size w w' → Env w') (hEr : ∀ w, Env w → Er2 e w) (hP : ApplyAll Env) (hW : WholeAll Env)
    (h1 : 1 ≤ size) (h2 : size ≤ 64) (ho : old.size ≤ 200) (hs : s.size ≤ 200) :
    Calls Tryd.prog 7 #[.string old, .string s, .int .i64 size] w fun r w' => r = .returned (.bool true) ∧ Below w.heap.size w w' := by
  have HM := hide (patched_ok Env w hS hEB hP)
  have HV := hide (fun w' hb => hEB w w' hS hb)
  have HEr := hide hEr
  have hs' : (s.size : Int) ≤ 200 := by omega
  have ho' : (old.size : Int) ≤ 200 := by omega
  have h1' : (1 : Int) ≤ size := by omega
  have h2' : (size : Int) ≤ 64 := by omega
  have hL : (sigL old.data.toList size).length ≤ 200 := by
    rw [sigL_length, lenL]
    have := many_le (len := old.size) h1
    omega
  have hf1 : (Go.Sign.fault (sigL old.data.toList size) size).1 = 0 := by rw [fault_sig _ size h1 h2 (by rw [lenL]; omega)]
  have hf0 : (Go.Sign.fault [] size).1 = 0 := by
    have := fault_sig [] size h1 h2 (by simp)
    rw [show sigL [] size = [] from by simp [sigL, sigK, many]; omega] at this
    rw [this]
  have HOf := hide (fun W => of_ok old size W (by omega) h1 h2)
  have HM1 := hide (fun v W (h : RowIn W v (sigL old.data.toList size)) (k : Er2 e W) => make_right v _ size s e W h (by omega) (by omega) hf1 k)
  have HM2 := hide (fun W (k : Er2 e W) => make_right (.slice none 0 0) [] size s e W ⟨none, 0, rfl, fun h => by simp at h⟩ (by simp) (by omega) hf0 k)
  have hall := dmake_all (sigL old.data.toList size) size s.data.toList
  rw [lenL] at hall
  obtain ⟨hc1, hc2, hg⟩ := hall
  have hri := good_right hg (by omega) (by omega)
  have hall0 := dmake_all [] size s.data.toList
  rw [lenL] at hall0
  obtain ⟨hd1, hd2, hg0⟩ := hall0
  have hri0 := good_right hg0 (by simp) (by omega)
  obtain ⟨hpn, hcn⟩ := patch_none s.data.toList size h1 (by rw [lenL]; omega)
  have hw0 := wholeOut_of h1 h2 (by simp) hri0 hpn
  have Hnc : Hid (NoClash old.data.toList s.data.toList size (many old.size size) → wholeOut old.data.toList size (dmake (sigL old.data.toList size) size s.data.toList) s.data.toList.length (Go.Crc.crc 0 s.data.toList) = (s.data.toList, 0, -1)) := fun h =>
    wholeOut_of h1 h2 (by rw [lenL]; omega) hri (patch_whole _ _ size h1 (by rw [lenL]; omega) (noClash_all (by rw [lenL]; exact h)))
  have hk : Go.Crc.crc 0 s.data.toList < 4294967296 := Go.Crc.crc_lt 0 _ (by decide)
  have HSs := hide (fun W => sum_ok s W (by omega))
  have HW1 := hide (fun v W (x : ORow W v (dmake (sigL old.data.toList size) size s.data.toList)) (y : Env W) => hW old size _ (by omega) (fun o hx => by have := mem_cost hx; omega) s.data.toList.length _ v W hk x y)
  have HW2 := hide (fun v W (x : ORow W v (dmake [] size s.data.toList)) (y : Env W) => hW ⟨#[]⟩ size _ (by omega) (fun o hx => by have := mem_cost hx; omega) s.data.toList.length _ v W hk x y)
  rw [show (⟨#[]⟩ : ByteArray).data.toList = [] from rfl, hw0] at HW2
  simp only at HW2
  have hss : str s.data.toList = s := ext_of_list (strL _)
  rw [hss] at HW2
  have HC0 := hide (fun v W (x : ORow W v (dmake [] size s.data.toList)) => cost_ok v _ W x (by omega) (fun o hx => by have := mem_cost hx; omega))
  rw [hcn, lenL] at HC0
  rw [lenL] at HW1 HW2 Hnc
  have HZ := hide (@wholeOut_zero old.data.toList size (dmake (sigL old.data.toList size) size s.data.toList) s.size (Go.Crc.crc 0 s.data.toList))
  have hwl := wholeOut_len old.data.toList size (dmake (sigL old.data.toList size) size s.data.toList) s.size (Go.Crc.crc 0 s.data.toList)
  generalize wholeOut old.data.toList size (dmake (sigL old.data.toList size) size s.data.toList) s.size (Go.Crc.crc 0 s.data.toList) = wo at *
  obtain ⟨wb, wc0, wa⟩ := wo
  simp only at HW1 HZ Hnc hwl
  generalize Go.Crc.crc 0 s.data.toList = ks at *
  generalize dmake (sigL old.data.toList size) size s.data.toList = D at *
  generalize dmake [] size s.data.toList = D0 at *
  have HLg := hide (fun i (h : i < (sigL old.data.toList size).length) => sigL_get old.data.toList size i h)
  have hLm : (sigL old.data.toList size).length = many old.size size := by rw [sigL_length, lenL]
  have HLm := hide hLm
  have Hmany := hide (fun i (h : i < many old.size size) => many_lt h1 h)
  clear hS hEB hEr hP hW hf1 hf0 hc1 hc2 hg hri hd1 hd2 hg0 hri0 hpn hcn hw0 hLm
  generalize sigL old.data.toList size = L at *
  go_enter Tryd.func7, Tryd.ntmps7
  go_wp2_with fail
  refine HM.out.mono ?_
  rintro r w1 ⟨rfl, hb1⟩
  have Hb1 := hide hb1
  clear hb1 HM
  go_wp2_with fail
  refine (HOf.out _).mono ?_
  rintro r w2 ⟨v8, rfl, hown2, hb2⟩
  have hr2 := RowIn.of_own hown2
  have Hr2 := hide hr2
  obtain ⟨a8, c8, rfl, _⟩ := hr2
  have Hb2 := hide (bthen Hb1.out hb2)
  clear hb2 Hb1 hown2 HOf
  go_wp2_with fail
  refine (HM1.out _ _ Hr2.out (HEr.out _ (HV.out _ Hb2.out))).mono ?_
  rintro r w3 ⟨⟨u3, rfl, hown3⟩, hb3⟩
  have ho3 := ORow.of_own hown3
  have Ho3 := hide ho3
  obtain ⟨a10, c10, rfl, _⟩ := ho3
  have Hr3 := hide (Hr2.out.below hb3)
  have Hb3 := hide (bthen Hb2.out hb3)
  clear hb3 Hb2 hown3 Hr2 HM1
  go_wp2_with fail
  go_loopw [11, 12] (fun t11 t12 wr => ∃ (b : Bool) (i : Nat), t12 = .int .i64 i ∧ t11 = .bool b ∧ i ≤ L.length ∧ Hid (b = false → NoClash old.data.toList s.data.toList size i) ∧ Hid (Below w3.heap.size w3 wr)) (fun _ t12 _ => L.length - (intOf t12).toNat)
  case atStart => exact ⟨false, 0, rfl, rfl, by omega, fun _ i' hi' => by omega, Below.refl _ _⟩
  case round =>
    obtain ⟨b, i, rfl, rfl, hi, HN, Hb⟩ := hrel
    by_cases hlt : i < L.length
    · have hlt' : (i : Int) < L.length := by omega
      obtain ⟨a', c', e', hc'⟩ := Hr3.out
      obtain rfl : a' = a8 := by simp only [Value.slice.injEq] at e'; exact e'.1.symm
      obtain ⟨bl, o, rfl, hc⟩ := hc' (by omega)
      obtain ⟨c0, c1, c2⟩ := hc i hlt
      rw [HLg.out i hlt] at c0 c1 c2
      have hFm := Hmany.out i (by rw [← HLm.out]; exact hlt)
      simp only [blk] at c0 c1 c2
      obtain ⟨F, hF⟩ : ∃ F, F = i * size := ⟨_, rfl⟩
      have HBl : Hid (((old.data.toList.drop (i * size)).take size).length = min size (old.size - F)) := by rw [hF]; simp [Hid]
      have Hex : Hid (old.extract F (F + ((old.data.toList.drop (i * size)).take size).length) = str ((old.data.toList.drop (i * size)).take size)) := by
        apply ext_of_list
        rw [extractL, strL, show F + ((old.data.toList.drop (i * size)).take size).length - F = ((old.data.toList.drop (i * size)).take size).length by omega, hF, List.length_take]
        exact (List.take_eq_take_min ..).symm
      have hBl : ((old.data.toList.drop (i * size)).take size).length = min size (old.size - F) := HBl.out
      have HSt := hide (inner_start (old := old.data.toList) (s := s.data.toList) (size := size) (i := i))
      have HSp := hide (fun m => inner_step (old := old.data.toList) (s := s.data.toList) (size := size) (i := i) (m := m))
      have HSe := hide (fun m => inner_end (old := old.data.toList) (s := s.data.toList) (size := size) (i := i) (m := m))
      rw [lenL] at HSe
      generalize (old.data.toList.drop (i * size)).take size = B at *
      have hn1 : 1 ≤ B.length := by omega
      have hnF : F + B.length ≤ old.size := by omega
      have hFi : (i : Int) * (size : Int) = (F : Int) := by rw [hF, Int.natCast_mul]
      obtain ⟨nB, hnB⟩ : ∃ nB, nB = B.length := ⟨_, rfl⟩
      rw [← hnB] at c0 hn1 hnF Hex HSe
      have hnF' : (F : Int) + (nB : Int) ≤ old.size := by omega
      have hnB' : (1 : Int) ≤ (nB : Int) := by omega
      have hF' : (F : Int) ≤ 200 := by omega
      have hnb2 : (nB : Int) ≤ 200 := by omega
      have HnB := hide hnB
      have d0 := (Hb.out.cell (World.block_lt_of_cell? _ _ c0)).trans c0
      have Hc0 := hide c0
      have Hc1 := hide c1
      have Hc2 := hide c2
      clear hc hc' e' c0 c1 c2 hF hBl HBl hFm HLg Hmany hnB
      go_wp2_with fail
      rw [Hex.out]
      clear d0
      have HBs : Hid ((str B).data.toList = B) := strL B
      generalize str B = BB at *
      go_loopw [11, 14] (fun t11 t14 wi => ∃ (b' : Bool) (m : Nat), t14 = .int .i64 m ∧ t11 = .bool b' ∧ m ≤ s.size + 1 ∧ Hid (b' = false → Inner old.data.toList s.data.toList size i m) ∧ Hid (Below w3.heap.size w3 wi)) (fun _ t14 _ => s.size + 1 - (intOf t14).toNat)
      case atStart => exact ⟨b, 0, rfl, rfl, by omega, fun h => HSt.out (HN.out h), Hb.out⟩
      case round =>
        clear HN Hb HSt
        obtain ⟨b', m, rfl, rfl, hm, HI, Hb⟩ := hrel
        have d0 := (Hb.out.cell (World.block_lt_of_cell? _ _ Hc0.out)).trans Hc0.out
        have d1 := (Hb.out.cell (World.block_lt_of_cell? _ _ Hc1.out)).trans Hc1.out
        have d2 := (Hb.out.cell (World.block_lt_of_cell? _ _ Hc2.out)).trans Hc2.out
        have hm' : (m : Int) ≤ 201 := by omega
        by_cases hin : m + nB ≤ s.size
        · have hin' : (m : Int) + nB ≤ s.size := by omega
          have Hxl : Hid ((s.extract m (m + nB)).data.toList = (s.data.toList.drop m).take B.length) := by rw [extractL, HnB.out]; simp [Hid]
          have Hpo : Hid (PairOk B s.data.toList m → (b' = false → Inner old.data.toList s.data.toList size i (m + 1))) := fun h hb => HSp.out m (HI.out hb) h
          have HWk := hide (fun W => wSum_ok (s.extract m (m + nB)) W (by rw [ByteArray.size_extract]; omega))
          have HSm := hide (fun W => sum_ok (s.extract m (m + nB)) W (by rw [ByteArray.size_extract]; omega))
          have Hbw : Hid (∀ x y : List UInt8, blk x = blk y → wk x = wk y ∧ Go.Crc.crc 0 x = Go.Crc.crc 0 y) := fun x y h => ⟨congrArg Blk.weak h, congrArg Blk.strong h⟩
          rw [Hxl.out] at HWk HSm
          by_cases q1 : s.extract m (m + nB) = BB
          · have hok : PairOk B s.data.toList m := fun _ => Or.inl (by rw [← Hxl.out, q1, HBs.out])
            have HI1 := hide (Hpo.out hok)
            subst q1
            clear hok Hpo Hbw HWk HSm HI d1 d2 HBs
            go_wp2_with fail
            go_quiet (fail)
            go_wp2_with fail
            go_roundw
            case rel => exact ⟨b', m + 1, by go_num, rfl, by omega, HI1.out, Hb.out.trans ⟨rfl, rfl, rfl, Nat.le_refl _, fun _ _ => rfl⟩⟩
            case measure => simp [intOf]; omega
          · have e1 : ((s.extract m (m + nB)).toList == BB.toList) = false := by
              rw [beq_eq_false_iff_ne]
              exact fun h => q1 (bytes_ext h)
            have Hno : Hid (wk ((s.data.toList.drop m).take B.length) ≠ wk B ∨ Go.Crc.crc 0 ((s.data.toList.drop m).take B.length) ≠ Go.Crc.crc 0 B → (b' = false → Inner old.data.toList s.data.toList size i (m + 1))) := fun h => Hpo.out fun _ => Or.inr fun hb => by
              have := Hbw.out _ _ hb
              omega
            have hx2 : Go.Crc.crc 0 ((s.data.toList.drop m).take B.length) < 4294967296 := Go.Crc.crc_lt 0 _ (by decide)
            have hy2 : Go.Crc.crc 0 B < 4294967296 := Go.Crc.crc_lt 0 _ (by decide)
            have hx1 := wk_bounds ((s.data.toList.drop m).take B.length)
            have hy1 := wk_bounds B
            generalize wk ((s.data.toList.drop m).take B.length) = x1 at *
            generalize wk B = y1 at *
            generalize Go.Crc.crc 0 ((s.data.toList.drop m).take B.length) = x2 at *
            generalize Go.Crc.crc 0 B = y2 at *
            clear Hpo Hbw Hxl HI HBs q1
            by_cases q2 : x1 = y1
            · subst q2
              by_cases q3 : x2 = y2
              · subst q3
                clear Hno
                go_wp2_with fail
                go_region_held3 (fun w' => Hid (Below w3.heap.size w3 w') ∧ w'.cell? ⟨bl, o + i * 3 + 1, none⟩ = some (.int .i64 x1) ∧ w'.cell? ⟨bl, o + i * 3 + 2, none⟩ = some (.int .u32 (x2 : Int))) (first | exact ⟨Hb5, f1, f2⟩ | exact ⟨Hb4, e1', e2'⟩ | exact ⟨Hb.out.drew, d1, d2⟩)
                  (first
                    | (go_at_call 29; refine (HSm.out _).mono ?_; rintro r w5 ⟨rfl, rfl⟩; have Hb5 := Hb4; have f1 := e1'; have f2 := e2')
                    | (go_at_call 28; refine (HWk.out _).mono ?_; rintro r w4 ⟨rfl, hb4⟩; have e1' : w4.cell? ⟨bl, o + i * 3 + 1, none⟩ = some (.int .i64 x1) := (hb4.cell (World.block_lt_of_cell? wr _ d1)).trans d1; have e2' : w4.cell? ⟨bl, o + i * 3 + 2, none⟩ = some (.int .u32 (x2 : Int)) := (hb4.cell (World.block_lt_of_cell? wr _ d2)).trans d2; have Hb4 := hide (bthen Hb.out.drew hb4); clear hb4))
                all_goals
                  go_wp2_with fail
                  go_roundw
                  case rel => exact ⟨true, m + 1, by go_num, rfl, by omega, (fun h => by cases h), Hb4.out⟩
                  case measure => simp [intOf]; omega
              · have q3' : ((x2 : Int) == (y2 : Int)) = false := by simp; omega
                have HI1 := hide (Hno.out (Or.inr q3))
                clear Hno q3
                go_wp2_with fail
                go_region_held3 (fun w' => Hid (Below w3.heap.size w3 w') ∧ w'.cell? ⟨bl, o + i * 3 + 1, none⟩ = some (.int .i64 x1) ∧ w'.cell? ⟨bl, o + i * 3 + 2, none⟩ = some (.int .u32 (y2 : Int))) (first | exact ⟨Hb5, f1, f2⟩ | exact ⟨Hb4, e1', e2'⟩ | exact ⟨Hb.out.drew, d1, d2⟩)
                  (first
                    | (go_at_call 29; refine (HSm.out _).mono ?_; rintro r w5 ⟨rfl, rfl⟩; have Hb5 := Hb4; have f1 := e1'; have f2 := e2')
                    | (go_at_call 28; refine (HWk.out _).mono ?_; rintro r w4 ⟨rfl, hb4⟩; have e1' : w4.cell? ⟨bl, o + i * 3 + 1, none⟩ = some (.int .i64 x1) := (hb4.cell (World.block_lt_of_cell? wr _ d1)).trans d1; have e2' : w4.cell? ⟨bl, o + i * 3 + 2, none⟩ = some (.int .u32 (y2 : Int)) := (hb4.cell (World.block_lt_of_cell? wr _ d2)).trans d2; have Hb4 := hide (bthen Hb.out.drew hb4); clear hb4))
                all_goals
                  go_wp2_with fail
                  go_roundw
                  case rel => exact ⟨b', m + 1, by go_num, rfl, by omega, HI1.out, Hb4.out⟩
                  case measure => simp [intOf]; omega
            · have q2' : (x1 == y1) = false := by simpa using q2
              have HI1 := hide (Hno.out (Or.inl q2))
              clear Hno q2
              go_wp2_with fail
              refine wp_region_held_drew (S := fun w' => Hid (Below w3.heap.size w3 w') ∧ w'.cell? ⟨bl, o + i * 3 + 1, none⟩ = some (.int .i64 y1) ∧ w'.cell? ⟨bl, o + i * 3 + 2, none⟩ = some (.int .u32 (y2 : Int))) (by kernel_rfl) ⟨Hb.out.drew, d1, d2⟩ (fun hHeld => ?_)
              refine wpAnyH_take (i := 0) (v := ?_) rfl (by kernel_rfl) (by kernel_rfl) (by kernel_rfl) (fun _ _ _ h => h) (Or.inl ⟨by rfl, ?_⟩) (by assumption) ?_
              rotate_left
              · intro w hSw; (try dsimp only at hSw); go_simp; (first | done | with_reducible rfl)
              simp only [List.getElem_toArray, List.getElem_cons_zero, Act.put, List.setIfInBounds_toArray, List.set_cons_zero, List.set_cons_succ]
              refine wpAnyH_take (i := 1) (v := ?_) rfl (by kernel_rfl) (by kernel_rfl) (by kernel_rfl) (fun _ _ _ h => h) (Or.inl ⟨by rfl, ?_⟩) (by assumption) ?_
              rotate_left
              · intro w hSw; (try dsimp only at hSw); go_simp; (first | done | with_reducible rfl)
              simp only [List.getElem_toArray, List.getElem_cons_succ, List.getElem_cons_zero, Act.put, List.setIfInBounds_toArray, List.set_cons_zero, List.set_cons_succ]
              refine wpAnyH_take (i := 2) (v := ?_) rfl (by kernel_rfl) (by kernel_rfl) (by kernel_rfl) (fun _ _ _ h => h) (Or.inl ⟨by rfl, ?_⟩) (by assumption) ?_
              rotate_left
              · intro w hSw; (try dsimp only at hSw); go_simp; (first | done | with_reducible rfl)
              simp only [List.getElem_toArray, List.getElem_cons_succ, List.getElem_cons_zero, Act.put, List.setIfInBounds_toArray, List.set_cons_zero, List.set_cons_succ]
              refine wpAnyH_take (i := 3) (v := ?_) rfl (by kernel_rfl) (by kernel_rfl) (by kernel_rfl) (fun _ _ _ h => h) (Or.inl ⟨by rfl, ?_⟩) (by assumption) ?_
              rotate_left
              · intro w hSw; (try dsimp only at hSw); go_simp; (first | done | with_reducible rfl)
              simp only [List.getElem_toArray, List.getElem_cons_succ, List.getElem_cons_zero, Act.put, List.setIfInBounds_toArray, List.set_cons_zero, List.set_cons_succ]
              refine wpAnyH_take (i := 4) (v := ?_) rfl (by kernel_rfl) (by kernel_rfl) (by kernel_rfl) (fun _ _ _ h => h) (Or.inl ⟨by rfl, ?_⟩) (by assumption) ?_
              rotate_left
              · intro w hSw; (try dsimp only at hSw); go_simp; (first | done | with_reducible rfl)
              simp only [List.getElem_toArray, List.getElem_cons_succ, List.getElem_cons_zero, Act.put, List.setIfInBounds_toArray, List.set_cons_zero, List.set_cons_succ]
              refine wpAnyH_take (i := 6) (v := ?_) rfl (by kernel_rfl) (by kernel_rfl) (by kernel_rfl) (fun _ _ _ h => h) (Or.inl ⟨by rfl, ?_⟩) (by assumption) ?_
              rotate_left
              · intro w hSw; (try dsimp only at hSw); go_simp; (first | done | with_reducible rfl)
              simp only [List.getElem_toArray, List.getElem_cons_succ, List.getElem_cons_zero, Act.put, List.setIfInBounds_toArray, List.set_cons_zero, List.set_cons_succ]
              refine wpAnyH_take (i := 7) (v := ?_) rfl (by kernel_rfl) (by kernel_rfl) (by kernel_rfl) (fun _ _ _ h => h) (Or.inl ⟨by rfl, ?_⟩) (by assumption) ?_
              rotate_left
              · intro w hSw; (try dsimp only at hSw); go_simp; (first | done | with_reducible rfl)
              simp only [List.getElem_toArray, List.getElem_cons_succ, List.getElem_cons_zero, Act.put, List.setIfInBounds_toArray, List.set_cons_zero, List.set_cons_succ]
              refine wpAnyH_take (i := 8) (v := ?_) rfl (by kernel_rfl) (by kernel_rfl) (by kernel_rfl) (fun _ _ _ h => h) (Or.inl ⟨by rfl, ?_⟩) (by assumption) ?_
              rotate_left
              · intro w hSw; (try dsimp only at hSw); go_simp; (first | done | with_reducible rfl)
              simp only [List.getElem_toArray, List.getElem_cons_succ, List.getElem_cons_zero, Act.put, List.setIfInBounds_toArray, List.set_cons_zero, List.set_cons_succ]
              refine wpAnyH_take (i := 9) (v := ?_) rfl (by kernel_rfl) (by kernel_rfl) (by kernel_rfl) (fun _ _ _ h => h) (Or.inl ⟨by rfl, ?_⟩) (by assumption) ?_
              rotate_left
              · intro w hSw; (try dsimp only at hSw); go_simp; (first | done | with_reducible rfl)
              simp only [List.getElem_toArray, List.getElem_cons_succ, List.getElem_cons_zero, Act.put, List.setIfInBounds_toArray, List.set_cons_zero, List.set_cons_succ]
              refine wpAnyH_take (i := 10) (v := ?_) rfl (by kernel_rfl) (by kernel_rfl) (by kernel_rfl) (fun _ _ _ h => h) (Or.inl ⟨by rfl, ?_⟩) (by assumption) ?_
              rotate_left
              · intro w hSw; (try dsimp only at hSw); go_simp; (first | done | with_reducible rfl)
              simp only [List.getElem_toArray, List.getElem_cons_succ, List.getElem_cons_zero, Act.put, List.setIfInBounds_toArray, List.set_cons_zero, List.set_cons_succ]
              refine wpAnyH_ready (rs := [5]) (by kernel_rfl) (by simp) ?_
              refine AllReadyH.cons rfl (fun K hK => ?_) AllReadyH.nil
              go_simp
              refine (HWk.out _).mono ?_
              rintro r w4 ⟨rfl, hb4⟩
              have e1' : w4.cell? ⟨bl, o + i * 3 + 1, none⟩ = some (.int .i64 y1) := (hb4.cell (World.block_lt_of_cell? wr _ d1)).trans d1
              have e2' : w4.cell? ⟨bl, o + i * 3 + 2, none⟩ = some (.int .u32 (y2 : Int)) := (hb4.cell (World.block_lt_of_cell? wr _ d2)).trans d2
              have Hb4 := hide (bthen Hb.out.drew hb4)
              clear hb4 hHeld
              refine hK.out _ _ ⟨Hb4, e1', e2'⟩ (fun hHeld => ?_)
              clear hK
              refine wpAnyH_take (i := 11) (v := ?_) rfl (by kernel_rfl) (by kernel_rfl) (by kernel_rfl) (fun _ _ _ h => h) (Or.inl ⟨by rfl, ?_⟩) (by assumption) ?_
              rotate_left
              · intro w hSw; (try dsimp only at hSw); go_simp; (first | done | with_reducible rfl)
              simp only [List.getElem_toArray, List.getElem_cons_succ, List.getElem_cons_zero, Act.put, List.setIfInBounds_toArray, List.set_cons_zero, List.set_cons_succ]
              refine wpAnyH_take (i := 12) (v := ?_) rfl (by kernel_rfl) (by kernel_rfl) (by kernel_rfl) (fun _ _ _ h => h) (Or.inl ⟨by rfl, ?_⟩) (by assumption) ?_
              rotate_left
              · intro w hSw; (try dsimp only at hSw); go_simp; (first | done | with_reducible rfl)
              simp only [List.getElem_toArray, List.getElem_cons_succ, List.getElem_cons_zero, Act.put, List.setIfInBounds_toArray, List.set_cons_zero, List.set_cons_succ]
              refine wpAnyH_take (i := 13) (v := ?_) rfl (by kernel_rfl) (by kernel_rfl) (by kernel_rfl) (fun _ _ _ h => h) (Or.inl ⟨by rfl, ?_⟩) (by assumption) ?_
              rotate_left
              · intro w hSw; (try dsimp only at hSw); go_simp; (first | done | with_reducible rfl)
              simp only [List.getElem_toArray, List.getElem_cons_succ, List.getElem_cons_zero, Act.put, List.setIfInBounds_toArray, List.set_cons_zero, List.set_cons_succ]
              refine wpAnyH_take (i := 14) (v := undef) rfl (by kernel_rfl) (by kernel_rfl) (by kernel_rfl) (fun _ _ _ h => h) (Or.inr ⟨by rfl, rfl⟩) (by assumption) ?_
              simp only [List.getElem_toArray, List.getElem_cons_succ, List.getElem_cons_zero, Act.put, List.setIfInBounds_toArray, List.set_cons_zero, List.set_cons_succ]
              refine wpAnyH_take (i := 16) (v := undef) rfl (by kernel_rfl) (by kernel_rfl) (by kernel_rfl) (fun _ _ _ h => h) (Or.inr ⟨by rfl, rfl⟩) (by assumption) ?_
              simp only [List.getElem_toArray, List.getElem_cons_succ, List.getElem_cons_zero, Act.put, List.setIfInBounds_toArray, List.set_cons_zero, List.set_cons_succ]
              refine wpAnyH_take (i := 17) (v := undef) rfl (by kernel_rfl) (by kernel_rfl) (by kernel_rfl) (fun _ _ _ h => h) (Or.inr ⟨by rfl, rfl⟩) (by assumption) ?_
              simp only [List.getElem_toArray, List.getElem_cons_succ, List.getElem_cons_zero, Act.put, List.setIfInBounds_toArray, List.set_cons_zero, List.set_cons_succ]
              refine wpAnyH_take (i := 15) (v := undef) rfl (by kernel_rfl) (by kernel_rfl) (by kernel_rfl) (fun _ _ _ h => h) (Or.inr ⟨by rfl, rfl⟩) (by assumption) ?_
              simp only [List.getElem_toArray, List.getElem_cons_succ, List.getElem_cons_zero, Act.put, List.setIfInBounds_toArray, List.set_cons_zero, List.set_cons_succ]
              refine wpAnyH_take (i := 18) (v := undef) rfl (by kernel_rfl) (by kernel_rfl) (by kernel_rfl) (fun _ _ _ h => h) (Or.inr ⟨by rfl, rfl⟩) (by assumption) ?_
              simp only [List.getElem_toArray, List.getElem_cons_succ, List.getElem_cons_zero, Act.put, List.setIfInBounds_toArray, List.set_cons_zero, List.set_cons_succ]
              refine wpAnyH_take (i := 19) (v := undef) rfl (by kernel_rfl) (by kernel_rfl) (by kernel_rfl) (fun _ _ _ h => h) (Or.inr ⟨by rfl, rfl⟩) (by assumption) ?_
              simp only [List.getElem_toArray, List.getElem_cons_succ, List.getElem_cons_zero, Act.put, List.setIfInBounds_toArray, List.set_cons_zero, List.set_cons_succ]
              refine wpAnyH_take (i := 20) (v := undef) rfl (by kernel_rfl) (by kernel_rfl) (by kernel_rfl) (fun _ _ _ h => h) (Or.inr ⟨by rfl, rfl⟩) (by assumption) ?_
              simp only [List.getElem_toArray, List.getElem_cons_succ, List.getElem_cons_zero, Act.put, List.setIfInBounds_toArray, List.set_cons_zero, List.set_cons_succ]
              refine wpAnyH_take (i := 21) (v := undef) rfl (by kernel_rfl) (by kernel_rfl) (by kernel_rfl) (fun _ _ _ h => h) (Or.inr ⟨by rfl, rfl⟩) (by assumption) ?_
              simp only [List.getElem_toArray, List.getElem_cons_succ, List.getElem_cons_zero, Act.put, List.setIfInBounds_toArray, List.set_cons_zero, List.set_cons_succ]
              refine wpAnyH_take (i := 22) (v := ?_) rfl (by kernel_rfl) (by kernel_rfl) (by kernel_rfl) (fun _ _ _ h => h) (Or.inl ⟨by rfl, ?_⟩) (by assumption) ?_
              rotate_left
              · intro w hSw; (try dsimp only at hSw); go_simp; (first | done | with_reducible rfl)
              simp only [List.getElem_toArray, List.getElem_cons_succ, List.getElem_cons_zero, Act.put, List.setIfInBounds_toArray, List.set_cons_zero, List.set_cons_succ]
              refine wpAnyH_done (by kernel_rfl) ?_ _
              go_wp2_with fail
              go_roundw
              case rel => exact ⟨b', m + 1, by go_num, rfl, by omega, HI1.out, Hb4.out⟩
              case measure => simp [intOf]; omega
        · have hin' : (s.size : Int) < (m : Int) + nB := by omega
          have HNn : Hid (b' = false → NoClash old.data.toList s.data.toList size (i + 1)) := fun h => HSe.out m (HI.out h) (by omega)
          have Hb' := Hb
          clear Hb HI HSe HSp d1 d2
          go_wp2_with fail
          go_roundw
          case rel => exact ⟨b', i + 1, by go_num, rfl, by omega, HNn.out, Hb'.out⟩
          case measure => simp [intOf]; omega
    · have hie : i = L.length := by omega
      subst hie
      have hle : (L.length : Int) ≤ (L.length : Int) := Int.le_refl _
      have HNo : Hid (b = false → (wb, wc0, wa) = (s.data.toList, 0, (-1 : Int))) := fun h => Hnc.out (by have := HN.out h; rw [HLm.out] at this; exact this)
      have Ho4 := hide (Ho3.out.below Hb.out)
      have Hb4 := hide (bthen Hb3.out Hb.out)
      clear Hb HN Hnc Hr3 Ho3 Hb3 HLg Hmany
      go_wp2_with fail
      refine (HSs.out _).mono ?_
      rintro r w4 ⟨rfl, rfl⟩
      go_wp2_with fail
      refine (HW1.out _ _ Ho4.out (HV.out _ Hb4.out)).mono ?_
      rintro r w5 ⟨⟨x5, rfl, hx5⟩, hb5⟩
      have Hx5 := hide hx5
      have Hb5 := hide (bthen Hb4.out hb5)
      clear hb5 hx5 Hb4 Ho4 HW1
      have HTl : Hid ((str wb).data.toList = wb) := strL wb
      have HTs : Hid ((str wb).size = wb.length) := str_len wb
      have HTo : Hid (wb = s.data.toList → str wb = s) := fun h => by rw [h]; exact hss
      have HST := hide (fun W => sum_ok (str wb) W (by rw [str_len]; omega))
      rw [HTl.out] at HST
      generalize str wb = T at *
      clear HTl hss
      go_upto_region 22 with fail
      go_cut [134] (fun v134 wc => v134 = .bool false ∧ wc = w5)
      case first =>
        cases b with
        | false =>
          have e := HNo.out rfl
          simp only [Prod.mk.injEq] at e
          obtain ⟨e1, e2, _⟩ := e
          have e3 := HTo.out e1
          have hx := Hx5.out.none e2
          subst hx e3
          clear e1 e2 HNo
          go_wp2_with fail
          go_meet
          case rel => exact ⟨rfl, rfl⟩
        | true =>
          clear HNo
          go_wp2_with fail
          go_meet
          case rel => exact ⟨rfl, rfl⟩
      case rest =>
        obtain ⟨rfl, rfl⟩ := hcut
        clear HNo
        go_upto_region 24 with fail
        go_cut [150] (fun v150 wd => v150 = .bool false ∧ wd = wc)
        case first =>
          by_cases hz : wc0 = 0
          · have hx := Hx5.out.none hz
            subst hx
            obtain ⟨z1, z2⟩ := HZ.out hz
            have hTs : T.size = s.size := by have := HTs.out; omega
            rw [z2] at HST
            clear HZ z1 z2 HTs HTo Hx5
            go_wp2_with fail
            refine (HST.out _).mono ?_
            rintro r w6 ⟨rfl, rfl⟩
            go_wp2_with fail
            refine (HSs.out _).mono ?_
            rintro r w6 ⟨rfl, rfl⟩
            go_wp2_with fail
            go_meet
            case rel => exact ⟨rfl, rfl⟩
          · obtain ⟨t, y, rfl⟩ := Hx5.out.some hz
            clear HZ Hx5 HTs HTo
            go_wp2_with fail
            go_meet
            case rel => exact ⟨rfl, rfl⟩
        case rest =>
          obtain ⟨rfl, rfl⟩ := hcut
          clear HZ Hx5 HTs HTo HST
          go_wp2_with fail
          refine (HM2.out _ (HEr.out _ (HV.out _ Hb5.out))).mono ?_
          rintro r w6 ⟨⟨u6, rfl, hown6⟩, hb6⟩
          have ho6 := ORow.of_own hown6
          have Ho6 := hide ho6
          obtain ⟨a6, c6, rfl, _⟩ := ho6
          have Hb6 := hide (bthen Hb5.out hb6)
          clear hb6 hown6 Hb5 HM2
          go_wp2_with fail
          refine (HC0.out _ _ Ho6.out).mono ?_
          rintro r w7 ⟨rfl, hb7⟩
          have Ho7 := hide (Ho6.out.below hb7)
          have Hb7 := hide (bthen Hb6.out hb7)
          clear hb7 Hb6 Ho6
          go_wp2_with fail
          refine (HSs.out _).mono ?_
          rintro r w8 ⟨rfl, rfl⟩
          go_wp2_with fail
          refine (HW2.out _ _ Ho7.out (HV.out _ Hb7.out)).mono ?_
          rintro r w9 ⟨⟨x9, rfl, hx9⟩, hb9⟩
          have hx := hx9.none rfl
          subst hx
          have Hb9 := hide (bthen Hb7.out hb9)
          clear hb9 hx9 Hb7
          go_wp2
          go_ret
          exact ⟨rfl, Hb9.out⟩

theorem pwhole_walk (old s : ByteArray) (size : Int) (e : EV) (Env : World → Prop) (w : World) (hS : Env w) (hEB : ∀ w w', Env w → Below w.heap.size w w' → Env w') (hEr : ∀ w, Env w → Er2 e w) (hP : ApplyAll Env) (hW : WholeAll Env) :
    Calls Tryd.prog 7 #[.string old, .string s, .int .i64 size] w fun r w' => r = .returned (.bool true) ∧ Below w.heap.size w w' := by
  by_cases h : 200 < old.size ∨ 200 < s.size ∨ ¬ (1 ≤ size ∧ size ≤ 64)
  · exact pwhole_early old s size e Env w hS hEB hEr hP h
  · simp only [not_or, Classical.not_not] at h
    obtain ⟨h1, h2, h3, h4⟩ := h
    obtain ⟨z, rfl⟩ := Int.eq_ofNat_of_zero_le (show 0 ≤ size by omega)
    exact pwhole_main old s z e Env w hS hEB hEr hP hW (by omega) (by omega) (by omega) (by omega)
end Go.Proofs.YtcenohaadggdiacDoor

namespace Go.Proofs.YtcenohaadggdiacDoor
open Go.ChangeShapes Go.WideShapes Go.ChangeAt Go.RowKit
open Go.ChangeMaps (open_string shut_string)

set_option maxRecDepth 100000 in
theorem patchWhole_lifted (os : Os) (started : os.Started) (H : Type) (enc : TypeId × Value → H) :
    ReturnsInHanded {} Tryd.checked os 7 .any (fun w args => (Rows.patchWholeSpec.pre enc Tryd.prog Tryd.f7 [] false w args ∧ laidMetH Tryd.prog laidP6 w) ∧ sizedMet enc Tryd.prog Tryd.f7 (OpenSpec.ofChange Rows.patchWholeSpec) false w args)
      (Rows.patchWholeSpec.post enc Tryd.prog Tryd.f7 false true false false) := by
  refine returnsInHanded_of_change_and (C := Tryd.checked) (X := fun w _ => laidMetH Tryd.prog laidP6 w) (fun _ _ _ hh h => h.of_heap hh) Tryd.own started (by kernel_rfl) Tryd.func7
    (ChangeSpec.witness_shaped (enc := enc) (C := Tryd.checked) (os := os) (X := fun w _ => laidMetH Tryd.prog laidP6 w) false (World.doorLaid Tryd.prog 400 os) #[.string ByteArray.empty, .string ByteArray.empty, .int .i64 0] 8 rfl (World.shaped_of_RefB (by kernel_rfl) (by kernel_rfl)) (by kernel_rfl) (by kernel_rfl) (by kernel_rfl) (door_metP6 os _)) ?_
  intro W base args ds gs before hval0 hW _ _ hL _
  have hval : ∀ (j : Nat) t v, Tryd.f7.params[j]? = some t → args[j]? = some v → Value.okWide Tryd.prog W .any base t v := hval0
  have hW' := hW
  obtain ⟨p, q, hA0, hV, rfl, hfz, hnd⟩ := hW
  have hA : DataW.TrodAll enc Tryd.prog W 0 (fun _ => true) true Tryd.f7.params.toList args.toList ds p := hA0
  rw [Tryd.params7] at hA hval
  obtain ⟨v0, vs0, d0, ds0, p0, q0, hargs, rfl, rfl, h0, r0⟩ := trodAll_cons hA
  obtain ⟨v1, vs1, d1, ds1, p1, q1, rfl, rfl, rfl, h1, r1⟩ := trodAll_cons r0
  obtain ⟨v2, vs2, d2, ds2, p2, q2, rfl, rfl, rfl, h2, r2⟩ := trodAll_cons r1
  obtain ⟨rfl, rfl, rfl⟩ := trodAll_nil r2
  obtain rfl : args = #[v0, v1, v2] := by cases args; simp_all
  obtain ⟨rfl, rfl⟩ := trodVars_none hV
  obtain ⟨a0, rfl, rfl, rfl, w0⟩ := open_string Tryd.underlying9 (hval 0 9 v0 rfl rfl) h0
  obtain ⟨a1, rfl, rfl, rfl, w1⟩ := open_string Tryd.underlying9 (hval 1 9 v1 rfl rfl) h1
  obtain ⟨a2, rfl, rfl, rfl, w2⟩ := open_int Tryd.underlying3 (hval 2 3 v2 rfl rfl) h2
  obtain ⟨er, tM, xM, hE⟩ := pes_of_laid hL
  clear hA0 hval0
  simp only [List.append_nil] at hW'
  refine (pwhole_walk a0 a1 a2 er.o.e (PEs er tM xM) W hE (fun _ _ h hb => h.below hb) (fun _ h => ⟨h.er.three.bound, h.er.full⟩) (applyAllS er tM xM) (wholeAll er tM xM)).mono fun e W' ⟨he, hg⟩ => ?_
  subst he
  exact ⟨_, rfl, _, _, _, [], [], [], hW', trodAll_cons_mk (shut_bool Tryd.underlying4 _) trodAll_mk0,
    trodAll_cons_mk (shut_string Tryd.underlying9 w0) (trodAll_cons_mk (shut_string Tryd.underlying9 w1) (trodAll_cons_mk (shut_int Tryd.underlying3 w2) trodAll_mk0)), rfl, hg.frame _, fun h => by cases h⟩

theorem patchWhole_holds : Rows.PatchWholeSaid :=
  OpenClaim.holds_of_wide 7 Tryd.f7 rfl rfl rfl rfl rfl rfl rfl ⟨rfl, rfl, rfl, rfl, rfl⟩ rfl rfl rfl rfl rfl (by kernel_rfl) Tryd.func7 (by kernel_rfl)
    (of_decide_eq_true (by kernel_rfl)) (by unfold Func.isWrapper; first | (rw [if_pos (by decide +kernel)]; kernel_rfl) | (rw [if_neg (by decide +kernel)]; exact ⟨rfl, rfl⟩))
    (fun os started H enc _ => patchWhole_lifted os started H enc)

theorem patchWhole_card : Rows.PatchWholeCardSaid :=
  Claim7.holds_tied_plain_at .later [] [.sentinel, .sentinel, .sentinel, .sentinel, .sentinel, .sentinel] true (true, "5c58136eca1d255c60c2f8e883c9959683a538db73927d46f8df856497e1e40e") true
    patchWhole_holds (fun _ h => by cases h) (by kernel_rfl) (fun _ h => by cases h) patchWhole_row_tie rfl ⟨rfl, rfl⟩ (by kernel_rfl) rfl
    (fun f fn hf hfn => by
      obtain rfl : f = 7 := Option.some.inj ((show Tryd.prog.funcNamed "packhorse/packhorselaw1.PatchWhole" = some 7 by kernel_rfl).symm.trans hf) |>.symm
      obtain rfl : fn = Tryd.f7 := (Option.some.inj (Tryd.func7.symm.trans hfn)).symm
      exact ⟨by kernel_rfl, fun j t ht => by
        rw [Tryd.params7] at ht
        have hm : t ∈ [9, 9, 3] := by simpa using Array.mem_of_getElem? ht
        have hall : ([9, 9, 3].all fun u => !Tryd.prog.wantsStandIn u) = true := by kernel_rfl
        exact (show Tryd.prog.wantsStandIn t = false by simpa using List.all_eq_true.1 hall t hm)⟩)
    (by kernel_rfl)
#print axioms patchWhole_card
end Go.Proofs.YtcenohaadggdiacDoor
