/-
  Contract of the document's OpsFault over this dump, at any list of ops.
-/
import Derived.Test.YtcenohaadggdiacDoorJoin08
import Derived.Test.YtcenohaadggdiacDoorJoin06
namespace Go.Proofs.YtcenohaadggdiacDoor
open Go.RowKit
open Go.Delta (Opx kCopy kData noBytes)

theorem nonempty_test {d : ByteArray} (hd : d ≠ noBytes) : d.toList.isEmpty = false := by
  cases hx : d.toList.isEmpty with
  | false => rfl
  | true => exact absurd (bytes_ext (by rw [List.isEmpty_iff.1 hx, ByteArray.toList_eq]; rfl)) hd
/-- What the scan comes to, as the document tells it. -/
def ofaultOut : Option (Nat × Nat) → Nat × Int
  | none => (0, -1)
  | some (i, c) => (c, i)

theorem ofault_eq (l : List Opx) : ofaultOut (Go.Delta.scanO l 0) = Go.Delta.faultO l := by
  unfold Go.Delta.faultO
  cases Go.Delta.scanO l 0 with
  | none => rfl
  | some p => rfl

set_option maxHeartbeats 4000000 in
set_option maxRecDepth 100000 in
theorem opsFault_ok (v : Value) (l : List Opx) (w : World) (hv : ORow w v l) (hl : l.length ≤ 1000000) (hs : ∀ o ∈ l, o.data.size ≤ 1000000) :
    Calls Tryd.prog 41 #[v] w fun r w' => r = .returned (.agg #[.int .i64 (ofaultOut (Go.Delta.scanO l 0)).1, .int .i64 (ofaultOut (Go.Delta.scanO l 0)).2]) ∧ Below w.heap.size w w' := by
  obtain ⟨a, c, rfl, hv⟩ := hv
  have HV := hide hv
  have HS := hide hs
  have hl' : (l.length : Int) ≤ 1000000 := by omega
  clear hv hs
  generalize hR : Go.Delta.scanO l 0 = R
  have HR := hide hR
  clear hR
  have HF := hide (fun W => fine_ok W)
  go_enter Tryd.func41, Tryd.ntmps41
  go_wp2_with fail
  have Hq := hide (HvAt.fresh w 0 0 46)
  have Hb0 := hide ((Below.refl w.heap.size w).alloc (Nat.le_refl _) (.cells #[.int .i64 0, .int .i64 0] 46))
  go_loopw [3] (fun t wr => ∃ j : Nat, t = .int .i64 j ∧ j ≤ l.length ∧ Hid (Go.Delta.scanO (l.drop j) j = R) ∧ Hid (HvAt w.heap.size wr 0 0) ∧ Hid (Below w.heap.size w wr)) (fun t _ => l.length - (intOf t).toNat)
  case atStart => exact ⟨0, rfl, by omega, HR.out, Hq.out, Hb0.out⟩
  case round =>
    clear HR Hq Hb0
    obtain ⟨j, rfl, hj, Hsc, Hq, Hb⟩ := hrel
    obtain ⟨q0, q1, p0, p1, qlt⟩ := Hq.out
    by_cases hlt : j < l.length
    · have hlt' : (j : Int) < l.length := by omega
      obtain ⟨b, o, rfl, hc⟩ := HV.out (by omega)
      obtain ⟨c0, c1, c2, c3⟩ := hc j hlt
      have d0 := (Hb.out.cell (World.block_lt_of_cell? _ _ c0)).trans c0
      have d1 := (Hb.out.cell (World.block_lt_of_cell? _ _ c1)).trans c1
      have d2 := (Hb.out.cell (World.block_lt_of_cell? _ _ c2)).trans c2
      have d3 := (Hb.out.cell (World.block_lt_of_cell? _ _ c3)).trans c3
      have hsz := HS.out _ (List.getElem_mem hlt)
      have Hs := hide (Go.Delta.scanO_step l j hlt)
      rw [Hsc.out] at Hs
      clear hc c0 c1 c2 c3 Hsc HV HF HS
      generalize l[j] = op at *
      obtain ⟨k, a, n, d⟩ := op
      simp only at d0 d1 d2 d3 hsz
      by_cases hkc : k = kCopy
      · subst hkc
        by_cases hd : d = noBytes
        · subst hd
          by_cases g1 : a < 0
          · have hf : Go.Delta.opFault ⟨kCopy, a, n, noBytes⟩ = 2 := by simp only [Go.Delta.opFault, if_true]; rw [if_neg (by simp), if_neg (by omega)]
            have g1' : decide (a < 0) = true := by simp; omega
            unfold kCopy noBytes at *
            have hR := Hs.out
            rw [if_neg (by rw [hf]; decide), hf] at hR
            subst hR
            clear Hs hf
            go_wp2_with fail
            (try simp only [Exit.inBlock, Exit.then])
            refine bodyPost_ret (v := .agg #[.int .i64 2, .int .i64 j]) ?_ rfl ⟨rfl, ((Hb.out.setCell (by simp) _).setCell (by simp) _).alloc (by have := Hb.out.size; simp; omega) _⟩
            obtain ⟨x0, x1, _, _, _⟩ := (Hq.out.set 2 j).below ((Below.refl _ _).alloc (Nat.le_refl _) (.cells #[.string ⟨#[99, 111, 112, 121]⟩, .int .i64 a, .int .i64 n, .string ⟨#[]⟩] 61)) (Hq.out.set 2 j).lt
            simp only [results, show Tryd.f41.results = #[.cell 2 46] from rfl]
            go_simp
          · have g1' : decide (a < 0) = false := by simp; omega
            by_cases g2 : 4000 < a
            · have hf : Go.Delta.opFault ⟨kCopy, a, n, noBytes⟩ = 2 := by simp only [Go.Delta.opFault, if_true]; rw [if_neg (by simp), if_neg (by omega)]
              have g2' : decide (4000 < a) = true := by simp; omega
              unfold kCopy noBytes at *
              have hR := Hs.out
              rw [if_neg (by rw [hf]; decide), hf] at hR
              subst hR
              clear Hs hf
              go_wp2_with fail
              (try simp only [Exit.inBlock, Exit.then])
              refine bodyPost_ret (v := .agg #[.int .i64 2, .int .i64 j]) ?_ rfl ⟨rfl, ((Hb.out.setCell (by simp) _).setCell (by simp) _).alloc (by have := Hb.out.size; simp; omega) _⟩
              obtain ⟨x0, x1, _, _, _⟩ := (Hq.out.set 2 j).below ((Below.refl _ _).alloc (Nat.le_refl _) (.cells #[.string ⟨#[99, 111, 112, 121]⟩, .int .i64 a, .int .i64 n, .string ⟨#[]⟩] 61)) (Hq.out.set 2 j).lt
              simp only [results, show Tryd.f41.results = #[.cell 2 46] from rfl]
              go_simp
            · have g2' : decide (4000 < a) = false := by simp; omega
              by_cases g3 : n < 1
              · have hf : Go.Delta.opFault ⟨kCopy, a, n, noBytes⟩ = 2 := by simp only [Go.Delta.opFault, if_true]; rw [if_neg (by simp), if_neg (by omega)]
                have g3' : decide (n < 1) = true := by simp; omega
                unfold kCopy noBytes at *
                have hR := Hs.out
                rw [if_neg (by rw [hf]; decide), hf] at hR
                subst hR
                clear Hs hf
                go_wp2_with fail
                (try simp only [Exit.inBlock, Exit.then])
                refine bodyPost_ret (v := .agg #[.int .i64 2, .int .i64 j]) ?_ rfl ⟨rfl, ((Hb.out.setCell (by simp) _).setCell (by simp) _).alloc (by have := Hb.out.size; simp; omega) _⟩
                obtain ⟨x0, x1, _, _, _⟩ := (Hq.out.set 2 j).below ((Below.refl _ _).alloc (Nat.le_refl _) (.cells #[.string ⟨#[99, 111, 112, 121]⟩, .int .i64 a, .int .i64 n, .string ⟨#[]⟩] 61)) (Hq.out.set 2 j).lt
                simp only [results, show Tryd.f41.results = #[.cell 2 46] from rfl]
                go_simp
              · have g3' : decide (n < 1) = false := by simp; omega
                by_cases g4 : 4000 < n
                · have hf : Go.Delta.opFault ⟨kCopy, a, n, noBytes⟩ = 2 := by simp only [Go.Delta.opFault, if_true]; rw [if_neg (by simp), if_neg (by omega)]
                  have g4' : decide (4000 < n) = true := by simp; omega
                  unfold kCopy noBytes at *
                  have hR := Hs.out
                  rw [if_neg (by rw [hf]; decide), hf] at hR
                  subst hR
                  clear Hs hf
                  go_wp2_with fail
                  (try simp only [Exit.inBlock, Exit.then])
                  refine bodyPost_ret (v := .agg #[.int .i64 2, .int .i64 j]) ?_ rfl ⟨rfl, ((Hb.out.setCell (by simp) _).setCell (by simp) _).alloc (by have := Hb.out.size; simp; omega) _⟩
                  obtain ⟨x0, x1, _, _, _⟩ := (Hq.out.set 2 j).below ((Below.refl _ _).alloc (Nat.le_refl _) (.cells #[.string ⟨#[99, 111, 112, 121]⟩, .int .i64 a, .int .i64 n, .string ⟨#[]⟩] 61)) (Hq.out.set 2 j).lt
                  simp only [results, show Tryd.f41.results = #[.cell 2 46] from rfl]
                  go_simp
                · have g4' : decide (4000 < n) = false := by simp; omega
                  have hf : Go.Delta.opFault ⟨kCopy, a, n, noBytes⟩ = 0 := by simp only [Go.Delta.opFault, if_true]; rw [if_neg (by simp), if_pos (by omega)]
                  unfold kCopy noBytes at *
                  have hR := Hs.out
                  rw [if_pos hf] at hR
                  have HR := hide hR
                  clear Hs hf hR
                  go_wp2_with fail
                  go_roundw
                  case rel => exact ⟨j + 1, by go_num, by omega, HR.out.symm, Hq.out.below ((Below.refl wr.heap.size wr).alloc (Nat.le_refl _) _) Hq.out.lt, Hb.out.alloc Hb.out.size _⟩
                  case measure => simp [intOf]; omega
        · have hf : Go.Delta.opFault ⟨kCopy, a, n, d⟩ = 3 := by simp only [Go.Delta.opFault, if_true]; rw [if_pos hd]
          have hne := nonempty_test hd
          clear hd
          unfold kCopy at *
          have hR := Hs.out
          rw [if_neg (by rw [hf]; decide), hf] at hR
          subst hR
          clear Hs hf
          go_wp2_with fail
          (try simp only [Exit.inBlock, Exit.then])
          refine bodyPost_ret (v := .agg #[.int .i64 3, .int .i64 j]) ?_ rfl ⟨rfl, ((Hb.out.setCell (by simp) _).setCell (by simp) _).alloc (by have := Hb.out.size; simp; omega) _⟩
          obtain ⟨x0, x1, _, _, _⟩ := (Hq.out.set 3 j).below ((Below.refl _ _).alloc (Nat.le_refl _) (.cells #[.string ⟨#[99, 111, 112, 121]⟩, .int .i64 a, .int .i64 n, .string d] 61)) (Hq.out.set 3 j).lt
          simp only [results, show Tryd.f41.results = #[.cell 2 46] from rfl]
          go_simp
      · have e1 := kind_copy hkc
        by_cases hkd : k = kData
        · subst hkd
          by_cases g1 : a = 0
          · subst g1
            by_cases g2 : n = 0
            · subst g2
              by_cases g3 : d.size < 1
              · have hf : Go.Delta.opFault ⟨kData, 0, 0, d⟩ = 2 := by simp only [Go.Delta.opFault]; rw [if_neg hkc, if_pos trivial, if_pos ⟨trivial, trivial⟩, if_neg (by omega)]
                have g3' : decide ((d.size : Int) < 1) = true := by simp; omega
                clear hkc e1
                unfold kData at *
                have hR := Hs.out
                rw [if_neg (by rw [hf]; decide), hf] at hR
                subst hR
                clear Hs hf
                go_wp2_with fail
                (try simp only [Exit.inBlock, Exit.then])
                refine bodyPost_ret (v := .agg #[.int .i64 2, .int .i64 j]) ?_ rfl ⟨rfl, ((Hb.out.setCell (by simp) _).setCell (by simp) _).alloc (by have := Hb.out.size; simp; omega) _⟩
                obtain ⟨x0, x1, _, _, _⟩ := (Hq.out.set 2 j).below ((Below.refl _ _).alloc (Nat.le_refl _) (.cells #[.string ⟨#[100, 97, 116, 97]⟩, .int .i64 0, .int .i64 0, .string d] 61)) (Hq.out.set 2 j).lt
                simp only [results, show Tryd.f41.results = #[.cell 2 46] from rfl]
                go_simp
              · have g3' : decide ((d.size : Int) < 1) = false := by simp; omega
                by_cases g4 : 4000 < d.size
                · have hf : Go.Delta.opFault ⟨kData, 0, 0, d⟩ = 2 := by simp only [Go.Delta.opFault]; rw [if_neg hkc, if_pos trivial, if_pos ⟨trivial, trivial⟩, if_neg (by omega)]
                  have g4' : decide ((4000 : Int) < d.size) = true := by simp; omega
                  clear hkc e1
                  unfold kData at *
                  have hR := Hs.out
                  rw [if_neg (by rw [hf]; decide), hf] at hR
                  subst hR
                  clear Hs hf
                  go_wp2_with fail
                  (try simp only [Exit.inBlock, Exit.then])
                  refine bodyPost_ret (v := .agg #[.int .i64 2, .int .i64 j]) ?_ rfl ⟨rfl, ((Hb.out.setCell (by simp) _).setCell (by simp) _).alloc (by have := Hb.out.size; simp; omega) _⟩
                  obtain ⟨x0, x1, _, _, _⟩ := (Hq.out.set 2 j).below ((Below.refl _ _).alloc (Nat.le_refl _) (.cells #[.string ⟨#[100, 97, 116, 97]⟩, .int .i64 0, .int .i64 0, .string d] 61)) (Hq.out.set 2 j).lt
                  simp only [results, show Tryd.f41.results = #[.cell 2 46] from rfl]
                  go_simp
                · have g4' : decide ((4000 : Int) < d.size) = false := by simp; omega
                  have hf : Go.Delta.opFault ⟨kData, 0, 0, d⟩ = 0 := by simp only [Go.Delta.opFault]; rw [if_neg hkc, if_pos trivial, if_pos ⟨trivial, trivial⟩, if_pos (by omega)]
                  clear hkc e1
                  unfold kData at *
                  have hR := Hs.out
                  rw [if_pos hf] at hR
                  have HR := hide hR
                  clear Hs hf hR
                  go_wp2_with fail
                  go_roundw
                  case rel => exact ⟨j + 1, by go_num, by omega, HR.out.symm, Hq.out.below ((Below.refl wr.heap.size wr).alloc (Nat.le_refl _) _) Hq.out.lt, Hb.out.alloc Hb.out.size _⟩
                  case measure => simp [intOf]; omega
            · have hf : Go.Delta.opFault ⟨kData, 0, n, d⟩ = 3 := by simp only [Go.Delta.opFault]; rw [if_neg hkc, if_pos trivial, if_neg (fun h => g2 h.2)]
              have g2' : (n != 0) = true := by simpa using g2
              clear hkc e1 g2
              unfold kData at *
              have hR := Hs.out
              rw [if_neg (by rw [hf]; decide), hf] at hR
              subst hR
              clear Hs hf
              go_wp2_with fail
              (try simp only [Exit.inBlock, Exit.then])
              refine bodyPost_ret (v := .agg #[.int .i64 3, .int .i64 j]) ?_ rfl ⟨rfl, ((Hb.out.setCell (by simp) _).setCell (by simp) _).alloc (by have := Hb.out.size; simp; omega) _⟩
              obtain ⟨x0, x1, _, _, _⟩ := (Hq.out.set 3 j).below ((Below.refl _ _).alloc (Nat.le_refl _) (.cells #[.string ⟨#[100, 97, 116, 97]⟩, .int .i64 0, .int .i64 n, .string d] 61)) (Hq.out.set 3 j).lt
              simp only [results, show Tryd.f41.results = #[.cell 2 46] from rfl]
              go_simp
          · have hf : Go.Delta.opFault ⟨kData, a, n, d⟩ = 3 := by simp only [Go.Delta.opFault]; rw [if_neg hkc, if_pos trivial, if_neg (fun h => g1 h.1)]
            have g1' : (a != 0) = true := by simpa using g1
            clear hkc e1 g1
            unfold kData at *
            have hR := Hs.out
            rw [if_neg (by rw [hf]; decide), hf] at hR
            subst hR
            clear Hs hf
            go_wp2_with fail
            (try simp only [Exit.inBlock, Exit.then])
            refine bodyPost_ret (v := .agg #[.int .i64 3, .int .i64 j]) ?_ rfl ⟨rfl, ((Hb.out.setCell (by simp) _).setCell (by simp) _).alloc (by have := Hb.out.size; simp; omega) _⟩
            obtain ⟨x0, x1, _, _, _⟩ := (Hq.out.set 3 j).below ((Below.refl _ _).alloc (Nat.le_refl _) (.cells #[.string ⟨#[100, 97, 116, 97]⟩, .int .i64 a, .int .i64 n, .string d] 61)) (Hq.out.set 3 j).lt
            simp only [results, show Tryd.f41.results = #[.cell 2 46] from rfl]
            go_simp
        · have hf : Go.Delta.opFault ⟨k, a, n, d⟩ = 4 := by simp only [Go.Delta.opFault]; rw [if_neg hkc, if_neg hkd]
          have e2 := kind_data hkd
          clear hkc hkd
          have hR := Hs.out
          rw [if_neg (by rw [hf]; decide), hf] at hR
          subst hR
          clear Hs hf
          go_wp2_with fail
          (try simp only [Exit.inBlock, Exit.then])
          refine bodyPost_ret (v := .agg #[.int .i64 4, .int .i64 j]) ?_ rfl ⟨rfl, ((Hb.out.setCell (by simp) _).setCell (by simp) _).alloc (by have := Hb.out.size; simp; omega) _⟩
          obtain ⟨x0, x1, _, _, _⟩ := (Hq.out.set 4 j).below ((Below.refl _ _).alloc (Nat.le_refl _) (.cells #[.string k, .int .i64 a, .int .i64 n, .string d] 61)) (Hq.out.set 4 j).lt
          simp only [results, show Tryd.f41.results = #[.cell 2 46] from rfl]
          go_simp
    · have hle : (l.length : Int) ≤ (j : Int) := by omega
      have hR : R = none := by rw [← Hsc.out, List.drop_eq_nil_of_le (by omega), Go.Delta.scanO]
      subst hR
      go_wp2_with fail
      refine (HF.out _).mono ?_
      rintro r w2 ⟨rfl, hb2⟩
      have hq2 := Hq.out.below hb2 Hq.out.lt
      have Hq2 := hide hq2
      have Hb2 := hide (bthen Hb.out hb2)
      clear hb2 q0 q1 p0 p1 qlt
      obtain ⟨q0, q1, p0, p1, qlt⟩ := hq2
      go_wp2_with fail
      (try simp only [Exit.inBlock, Exit.then])
      refine bodyPost_ret (v := .agg #[.int .i64 0, .int .i64 (-1)]) ?_ rfl ⟨rfl, (Hb2.out.setCell (by simp) _).setCell (by simp) _⟩
      obtain ⟨x0, x1, _, _, _⟩ := Hq2.out.set 0 (-1)
      simp only [results, show Tryd.f41.results = #[.cell 2 46] from rfl]
      go_simp
end Go.Proofs.YtcenohaadggdiacDoor
