/-
  Contract of the document's ReadFrame over this dump: every text.
-/
import Derived.Test.YtlmampcdflbifadDoorJoin05
namespace Go.Proofs.YtlmampcdflbifadDoor
open Go.RowKit
open Go.Frame (Fr frErr low4 bodyF encF rdB rdF rdOut)
open Go.Delta (txt)

/-- Four cells that are a frame. -/
structure FrAt (p : Nat) (w : World) (f : Fr) : Prop where
  c0 : w.cell? ⟨p, 0, none⟩ = some (.int .u8 f.kind.toNat)
  c1 : w.cell? ⟨p, 1, none⟩ = some (.int .i64 f.epoch)
  c2 : w.cell? ⟨p, 2, none⟩ = some (.int .i64 f.seq)
  c3 : w.cell? ⟨p, 3, none⟩ = some (.string f.data)
  f0 : w.frozen? ⟨p, 0, none⟩ = false
  f1 : w.frozen? ⟨p, 1, none⟩ = false
  f2 : w.frozen? ⟨p, 2, none⟩ = false
  f3 : w.frozen? ⟨p, 3, none⟩ = false
  lt : p < w.heap.size
def zeroF : Fr := ⟨0, 0, 0, ⟨#[]⟩⟩
theorem FrAt.fresh (w : World) (f : Fr) (T : TypeId) : FrAt w.heap.size (w.alloc (.cells #[.int .u8 f.kind.toNat, .int .i64 f.epoch, .int .i64 f.seq, .string f.data] T)) f :=
  ⟨by simp, by simp, by simp, by simp, by simp, by simp, by simp, by simp, by simp⟩
theorem FrAt.below {p B : Nat} {w w' : World} {f : Fr} (h : FrAt p w f) (hb : Below B w w') (hp : p < B) : FrAt p w' f :=
  ⟨(hb.cell (p := ⟨p, 0, none⟩) hp).trans h.c0, (hb.cell (p := ⟨p, 1, none⟩) hp).trans h.c1, (hb.cell (p := ⟨p, 2, none⟩) hp).trans h.c2, (hb.cell (p := ⟨p, 3, none⟩) hp).trans h.c3, (hb.frozen (p := ⟨p, 0, none⟩) hp).trans h.f0, (hb.frozen (p := ⟨p, 1, none⟩) hp).trans h.f1, (hb.frozen (p := ⟨p, 2, none⟩) hp).trans h.f2, (hb.frozen (p := ⟨p, 3, none⟩) hp).trans h.f3, Nat.lt_of_lt_of_le h.lt hb.size⟩
theorem FrAt.set {p : Nat} {w : World} {g : Fr} (h : FrAt p w g) (f : Fr) : FrAt p ((((w.setCell ⟨p, 0, none⟩ (.int .u8 f.kind.toNat)).setCell ⟨p, 1, none⟩ (.int .i64 f.epoch)).setCell ⟨p, 2, none⟩ (.int .i64 f.seq)).setCell ⟨p, 3, none⟩ (.string f.data)) f := by
  obtain ⟨c0, c1, c2, c3, f0, f1, f2, f3, lt⟩ := h
  refine ⟨?_, ?_, ?_, ?_, by simpa using f0, by simpa using f1, by simpa using f2, by simpa using f3, by simpa using lt⟩
  · rw [World.cell?_setCell_other _ _ _ _ (by simp), World.cell?_setCell_other _ _ _ _ (by simp), World.cell?_setCell_other _ _ _ _ (by simp)]; exact World.cell?_setCell_same _ _ _ c0
  · rw [World.cell?_setCell_other _ _ _ _ (by simp), World.cell?_setCell_other _ _ _ _ (by simp)]; exact World.cell?_setCell_same _ _ _ (by rw [World.cell?_setCell_other _ _ _ _ (by simp)]; exact c1)
  · rw [World.cell?_setCell_other _ _ _ _ (by simp)]; exact World.cell?_setCell_same _ _ _ (by rw [World.cell?_setCell_other _ _ _ _ (by simp), World.cell?_setCell_other _ _ _ _ (by simp)]; exact c2)
  · exact World.cell?_setCell_same _ _ _ (by rw [World.cell?_setCell_other _ _ _ _ (by simp), World.cell?_setCell_other _ _ _ _ (by simp), World.cell?_setCell_other _ _ _ _ (by simp)]; exact c3)

theorem rdOut_err {s : List UInt8} {c : Nat} (h : rdF s = .error c) : rdOut s = (zeroF, c) := by unfold rdOut; rw [h]; rfl
theorem rdOut_ok {s : List UInt8} {f : Fr} (h : rdF s = .ok f) : rdOut s = (f, 0) := by unfold rdOut; rw [h]

set_option maxHeartbeats 1000000 in
set_option maxRecDepth 100000 in
theorem readFrame_short (s : ByteArray) (w : World) (hs : s.size < 4) :
    Calls Tryd.prog 41 #[.string s] w fun r w' => r = .returned (.tuple #[frV (rdOut s.data.toList).1, .int .i64 (rdOut s.data.toList).2]) ∧ Below w.heap.size w w' := by
  have HO : Hid (rdOut s.data.toList = (zeroF, 1)) := rdOut_err (by rw [rdF, if_pos (by rw [lenL]; exact hs)])
  have hs' : (s.size : Int) < 4 := by omega
  have hq : FrAt w.heap.size (w.alloc (.cells #[.int .u8 0, .int .i64 0, .int .i64 0, .string ⟨#[]⟩] 69)) zeroF := FrAt.fresh w zeroF 69
  have Hb : Hid (Below w.heap.size w (w.alloc (.cells #[.int .u8 0, .int .i64 0, .int .i64 0, .string ⟨#[]⟩] 69))) := (Below.refl _ _).alloc (Nat.le_refl _) _
  have Hq := hide hq
  obtain ⟨q0, q1, q2, q3, g0, g1, g2, g3, _⟩ := hq
  simp only [zeroF] at q0 q1 q2 q3
  clear hs
  generalize rdOut s.data.toList = O at *
  go_enter Tryd.func41, Tryd.ntmps41
  go_wp2_with fail
  (try simp only [Exit.inBlock, Exit.then])
  refine bodyPost_ret (v := .tuple #[.agg #[.int .u8 0, .int .i64 0, .int .i64 0, .string ⟨#[]⟩], .int .i64 1]) ?_ rfl ⟨by rw [HO.out]; rfl, Hb.out⟩
  simp only [results, show Tryd.f41.results = #[.cell 2 69, .tmp 3] from rfl]
  go_simp

theorem body_list (s : ByteArray) : (s.extract 0 (s.size - 4)).data.toList = s.data.toList.take (s.data.toList.length - 4) := by
  rw [extractL, lenL]; simp
theorem tail_list (s : ByteArray) : (s.extract (s.size - 4) s.size).data.toList = s.data.toList.drop (s.data.toList.length - 4) := by
  rw [extractL, lenL]
  exact List.take_of_length_le (by rw [List.length_drop, lenL]; omega)
theorem eqb_list (a b : ByteArray) : (a.toList == b.toList) = decide (a.data.toList = b.data.toList) := by
  rw [ByteArray.toList_eq, ByteArray.toList_eq, Bool.eq_iff_iff]; simp

set_option maxHeartbeats 1000000 in
set_option maxRecDepth 100000 in
/-- Ahead of all else: the sum. -/
theorem readFrame_sum (s : ByteArray) (w : World) (hs : 4 ≤ s.size) (hm : s.size ≤ 1000000) (hne : low4 (Go.Crc.crc 0 (s.data.toList.take (s.data.toList.length - 4))) ≠ s.data.toList.drop (s.data.toList.length - 4)) :
    Calls Tryd.prog 41 #[.string s] w fun r w' => r = .returned (.tuple #[frV (rdOut s.data.toList).1, .int .i64 (rdOut s.data.toList).2]) ∧ Below w.heap.size w w' := by
  have HO : Hid (rdOut s.data.toList = (zeroF, 10)) := rdOut_err (by rw [rdF, if_neg (by rw [lenL]; omega), if_neg hne])
  have HSu := hide (fun W => sumOf_ok (s.extract 0 (s.size - 4)) W (by rw [ByteArray.size_extract]; omega))
  rw [body_list] at HSu
  have hcl := Go.Crc.crc_lt 0 (s.data.toList.take (s.data.toList.length - 4)) (by decide)
  have HL := hide (fun W => low_ok (Go.Crc.crc 0 (s.data.toList.take (s.data.toList.length - 4))) W hcl)
  have hcmp : ((str (low4 (Go.Crc.crc 0 (s.data.toList.take (s.data.toList.length - 4))))).toList == (s.extract (s.size - 4) s.size).toList) = false := by
    rw [eqb_list, strL, tail_list]; simpa using hne
  have hs' : (4 : Int) ≤ s.size := by omega
  have hm' : (s.size : Int) ≤ 1000000 := by omega
  have hw4 : IntKind.i64.wrap ((s.size : Int) - 4) = (s.size : Int) - 4 := iwrap_id _ (by omega) (by omega)
  have ht4 : ((s.size : Int) - 4).toNat = s.size - 4 := by omega
  have i0 : (0 : Int) ≤ (s.size : Int) - 4 := by omega
  have i1 : (s.size : Int) - 4 ≤ (s.size : Int) := by omega
  have hq : FrAt w.heap.size (w.alloc (.cells #[.int .u8 0, .int .i64 0, .int .i64 0, .string ⟨#[]⟩] 69)) zeroF := FrAt.fresh w zeroF 69
  have Hb : Hid (Below w.heap.size w (w.alloc (.cells #[.int .u8 0, .int .i64 0, .int .i64 0, .string ⟨#[]⟩] 69))) := (Below.refl _ _).alloc (Nat.le_refl _) _
  have Hq := hide hq
  clear hs hm hne hcl hq
  generalize str (low4 (Go.Crc.crc 0 (s.data.toList.take (s.data.toList.length - 4)))) = L at *
  generalize Go.Crc.crc 0 (s.data.toList.take (s.data.toList.length - 4)) = c at *
  generalize rdOut s.data.toList = O at *
  go_enter Tryd.func41, Tryd.ntmps41
  go_wp2_with fail
  generalize (w.alloc (.cells #[.int .u8 0, .int .i64 0, .int .i64 0, .string ⟨#[]⟩] 69)) = wq at *
  go_region_held3 (fun w' => Hid (Below w.heap.size w w')) (first | exact Hb3 | exact Hb.out.drew)
    (first
      | (go_at_call 69; refine (HL.out _).mono ?_; rintro r w3 ⟨rfl, hb3⟩; have Hb3 := hide (bthen Hb.out.drew hb3); have Hq3 := hide (Hq.out.below ((Below.refl wq.heap.size wq).drew.trans hb3) Hq.out.lt); clear hb3)
      | (go_at_call 58; refine (HSu.out _).mono ?_; rintro r w2 ⟨rfl, rfl⟩))
  all_goals
    obtain ⟨q0, q1, q2, q3, g0, g1, g2, g3, _⟩ := Hq3.out
    simp only [zeroF] at q0 q1 q2 q3
    go_wp2_with fail
    (try simp only [Exit.inBlock, Exit.then])
    refine bodyPost_ret (v := .tuple #[.agg #[.int .u8 0, .int .i64 0, .int .i64 0, .string ⟨#[]⟩], .int .i64 10]) ?_ rfl ⟨by rw [HO.out]; rfl, (((Hb3.out.setCell (by simp) _).setCell (by simp) _).setCell (by simp) _).setCell (by simp) _⟩
    obtain ⟨s0, s1, s2, s3, _, _, _, _, _⟩ := Hq3.out.set ⟨0, 0, 0, ⟨#[]⟩⟩
    simp only [results, show Tryd.f41.results = #[.cell 2 69, .tmp 3] from rfl]
    go_simp

set_option maxHeartbeats 1000000 in
set_option maxRecDepth 100000 in
theorem rframe_none (s B L : ByteArray) (c : Nat) (O : Fr × Nat) (w : World) (hs : 4 ≤ s.size) (hm : s.size ≤ 1000000) (hB : s.extract 0 (s.size - 4) = B)
    (hSu : ∀ W, Calls Tryd.prog 58 #[.string B] W fun r w' => r = .returned (.int .i64 c) ∧ w' = W)
    (hL : ∀ W, Calls Tryd.prog 69 #[.int .i64 c] W fun r w' => r = .returned (.string L) ∧ Below W.heap.size W w')
    (hcmp : (L.toList == (s.extract (s.size - 4) s.size).toList) = true) (h0 : B.size = 0) (HO : Hid (O = (zeroF, 1))) :
    Calls Tryd.prog 41 #[.string s] w fun r w' => r = .returned (.tuple #[frV O.1, .int .i64 O.2]) ∧ Below w.heap.size w w' := by
  have hm' : (s.size : Int) ≤ 1000000 := by omega
  have hw4 : IntKind.i64.wrap ((s.size : Int) - 4) = (s.size : Int) - 4 := iwrap_id _ (by omega) (by omega)
  have ht4 : ((s.size : Int) - 4).toNat = s.size - 4 := by omega
  have i0 : (0 : Int) ≤ (s.size : Int) - 4 := by omega
  have i1 : (s.size : Int) - 4 ≤ (s.size : Int) := by omega
  have hq : FrAt w.heap.size (w.alloc (.cells #[.int .u8 0, .int .i64 0, .int .i64 0, .string ⟨#[]⟩] 69)) zeroF := FrAt.fresh w zeroF 69
  have Hb : Hid (Below w.heap.size w (w.alloc (.cells #[.int .u8 0, .int .i64 0, .int .i64 0, .string ⟨#[]⟩] 69))) := (Below.refl _ _).alloc (Nat.le_refl _) _
  have Hq := hide hq
  have hs' : (4 : Int) ≤ s.size := by omega
  have HSu := hide hSu
  have HL := hide hL
  clear hs hm hq hSu hL
  have hBz : B = ⟨#[]⟩ := by
    cases B with
    | mk d => simp only [ByteArray.size] at h0; rw [Array.size_eq_zero_iff.1 h0]
  subst hBz
  clear h0
  go_enter Tryd.func41, Tryd.ntmps41
  go_wp2_with fail
  generalize (w.alloc (.cells #[.int .u8 0, .int .i64 0, .int .i64 0, .string ⟨#[]⟩] 69)) = wq at *
  go_region_held3 (fun w' => Hid (Below w.heap.size w w')) (first | exact Hb3 | exact Hb.out.drew)
    (first
      | (go_at_call 69; refine (HL.out _).mono ?_; rintro r w3 ⟨rfl, hb3⟩; have Hb3 := hide (bthen Hb.out.drew hb3); have Hq3 := hide (Hq.out.below ((Below.refl wq.heap.size wq).drew.trans hb3) Hq.out.lt); clear hb3)
      | (go_at_call 58; refine (HSu.out _).mono ?_; rintro r w2 ⟨rfl, rfl⟩))
  all_goals
    obtain ⟨q0, q1, q2, q3, g0, g1, g2, g3, _⟩ := Hq3.out
    simp only [zeroF] at q0 q1 q2 q3
    go_wp2_with fail
    (try simp only [Exit.inBlock, Exit.then])
    refine bodyPost_ret (v := .tuple #[.agg #[.int .u8 0, .int .i64 0, .int .i64 0, .string ⟨#[]⟩], .int .i64 1]) ?_ rfl ⟨by rw [HO.out]; rfl, (((Hb3.out.setCell (by simp) _).setCell (by simp) _).setCell (by simp) _).setCell (by simp) _⟩
    obtain ⟨s0, s1, s2, s3, _, _, _, _, _⟩ := Hq3.out.set ⟨0, 0, 0, ⟨#[]⟩⟩
    simp only [results, show Tryd.f41.results = #[.cell 2 69, .tmp 3] from rfl]
    go_simp

set_option maxHeartbeats 1000000 in
set_option maxRecDepth 100000 in
theorem rframe_e1 (s B L : ByteArray) (c : Nat) (O : Fr × Nat) (w : World) (hs : 4 ≤ s.size) (hm : s.size ≤ 1000000) (hB : s.extract 0 (s.size - 4) = B)
    (hSu : ∀ W, Calls Tryd.prog 58 #[.string B] W fun r w' => r = .returned (.int .i64 c) ∧ w' = W)
    (hL : ∀ W, Calls Tryd.prog 69 #[.int .i64 c] W fun r w' => r = .returned (.string L) ∧ Below W.heap.size W w')
    (hcmp : (L.toList == (s.extract (s.size - 4) s.size).toList) = true) (h0 : 0 < B.size) (e : Nat) (he : 0 < e)
    (h1 : ∀ W, Calls Tryd.prog 72 #[.string B, .int .i64 1] W fun r w' => r = .returned (.tuple #[.int .i64 0, .int .i64 1, .int .i64 e]) ∧ w' = W) (HO : Hid (O = (zeroF, e))) :
    Calls Tryd.prog 41 #[.string s] w fun r w' => r = .returned (.tuple #[frV O.1, .int .i64 O.2]) ∧ Below w.heap.size w w' := by
  have hm' : (s.size : Int) ≤ 1000000 := by omega
  have hw4 : IntKind.i64.wrap ((s.size : Int) - 4) = (s.size : Int) - 4 := iwrap_id _ (by omega) (by omega)
  have ht4 : ((s.size : Int) - 4).toNat = s.size - 4 := by omega
  have i0 : (0 : Int) ≤ (s.size : Int) - 4 := by omega
  have i1 : (s.size : Int) - 4 ≤ (s.size : Int) := by omega
  have hq : FrAt w.heap.size (w.alloc (.cells #[.int .u8 0, .int .i64 0, .int .i64 0, .string ⟨#[]⟩] 69)) zeroF := FrAt.fresh w zeroF 69
  have Hb : Hid (Below w.heap.size w (w.alloc (.cells #[.int .u8 0, .int .i64 0, .int .i64 0, .string ⟨#[]⟩] 69))) := (Below.refl _ _).alloc (Nat.le_refl _) _
  have Hq := hide hq
  have hs' : (4 : Int) ≤ s.size := by omega
  have HSu := hide hSu
  have HL := hide hL
  clear hs hm hq hSu hL
  have h0' : (0 : Int) < B.size := by omega
  have hz : ((B.size : Int) == 0) = false := by rw [beq_eq_false_iff_ne]; omega
  have he' : (0 : Int) < e := by omega
  have H1 := hide h1
  clear h1
  go_enter Tryd.func41, Tryd.ntmps41
  go_wp2_with fail
  generalize (w.alloc (.cells #[.int .u8 0, .int .i64 0, .int .i64 0, .string ⟨#[]⟩] 69)) = wq at *
  go_region_held3 (fun w' => Hid (Below w.heap.size w w')) (first | exact Hb3 | exact Hb.out.drew)
    (first
      | (go_at_call 69; refine (HL.out _).mono ?_; rintro r w3 ⟨rfl, hb3⟩; have Hb3 := hide (bthen Hb.out.drew hb3); have Hq3 := hide (Hq.out.below ((Below.refl wq.heap.size wq).drew.trans hb3) Hq.out.lt); clear hb3)
      | (go_at_call 58; refine (HSu.out _).mono ?_; rintro r w2 ⟨rfl, rfl⟩))
  all_goals
    obtain ⟨q0, q1, q2, q3, g0, g1, g2, g3, _⟩ := Hq3.out
    simp only [zeroF] at q0 q1 q2 q3
    go_wp2_with fail
    refine (H1.out _).mono ?_
    rintro r w4 ⟨rfl, rfl⟩
    go_wp2_with fail
    (try simp only [Exit.inBlock, Exit.then])
    refine bodyPost_ret (v := .tuple #[.agg #[.int .u8 0, .int .i64 0, .int .i64 0, .string ⟨#[]⟩], .int .i64 e]) ?_ rfl ⟨by rw [HO.out]; rfl, (((Hb3.out.setCell (by simp) _).setCell (by simp) _).setCell (by simp) _).setCell (by simp) _⟩
    obtain ⟨s0, s1, s2, s3, _, _, _, _, _⟩ := Hq3.out.set ⟨0, 0, 0, ⟨#[]⟩⟩
    simp only [results, show Tryd.f41.results = #[.cell 2 69, .tmp 3] from rfl]
    go_simp

set_option maxHeartbeats 1000000 in
set_option maxRecDepth 100000 in
theorem rframe_e2 (s B L : ByteArray) (c : Nat) (O : Fr × Nat) (w : World) (hs : 4 ≤ s.size) (hm : s.size ≤ 1000000) (hB : s.extract 0 (s.size - 4) = B)
    (hSu : ∀ W, Calls Tryd.prog 58 #[.string B] W fun r w' => r = .returned (.int .i64 c) ∧ w' = W)
    (hL : ∀ W, Calls Tryd.prog 69 #[.int .i64 c] W fun r w' => r = .returned (.string L) ∧ Below W.heap.size W w')
    (hcmp : (L.toList == (s.extract (s.size - 4) s.size).toList) = true) (h0 : 0 < B.size) (n x y e : Nat) (he : 0 < e)
    (h1 : ∀ W, Calls Tryd.prog 72 #[.string B, .int .i64 1] W fun r w' => r = .returned (.tuple #[.int .i64 n, .int .i64 x, .int .i64 0]) ∧ w' = W)
    (h2 : ∀ W, Calls Tryd.prog 72 #[.string B, .int .i64 x] W fun r w' => r = .returned (.tuple #[.int .i64 0, .int .i64 y, .int .i64 e]) ∧ w' = W) (HO : Hid (O = (zeroF, e))) :
    Calls Tryd.prog 41 #[.string s] w fun r w' => r = .returned (.tuple #[frV O.1, .int .i64 O.2]) ∧ Below w.heap.size w w' := by
  have hm' : (s.size : Int) ≤ 1000000 := by omega
  have hw4 : IntKind.i64.wrap ((s.size : Int) - 4) = (s.size : Int) - 4 := iwrap_id _ (by omega) (by omega)
  have ht4 : ((s.size : Int) - 4).toNat = s.size - 4 := by omega
  have i0 : (0 : Int) ≤ (s.size : Int) - 4 := by omega
  have i1 : (s.size : Int) - 4 ≤ (s.size : Int) := by omega
  have hq : FrAt w.heap.size (w.alloc (.cells #[.int .u8 0, .int .i64 0, .int .i64 0, .string ⟨#[]⟩] 69)) zeroF := FrAt.fresh w zeroF 69
  have Hb : Hid (Below w.heap.size w (w.alloc (.cells #[.int .u8 0, .int .i64 0, .int .i64 0, .string ⟨#[]⟩] 69))) := (Below.refl _ _).alloc (Nat.le_refl _) _
  have Hq := hide hq
  have hs' : (4 : Int) ≤ s.size := by omega
  have HSu := hide hSu
  have HL := hide hL
  clear hs hm hq hSu hL
  have h0' : (0 : Int) < B.size := by omega
  have hz : ((B.size : Int) == 0) = false := by rw [beq_eq_false_iff_ne]; omega
  have he' : (0 : Int) < e := by omega
  have H1 := hide h1
  have H2 := hide h2
  clear h1 h2
  go_enter Tryd.func41, Tryd.ntmps41
  go_wp2_with fail
  generalize (w.alloc (.cells #[.int .u8 0, .int .i64 0, .int .i64 0, .string ⟨#[]⟩] 69)) = wq at *
  go_region_held3 (fun w' => Hid (Below w.heap.size w w')) (first | exact Hb3 | exact Hb.out.drew)
    (first
      | (go_at_call 69; refine (HL.out _).mono ?_; rintro r w3 ⟨rfl, hb3⟩; have Hb3 := hide (bthen Hb.out.drew hb3); have Hq3 := hide (Hq.out.below ((Below.refl wq.heap.size wq).drew.trans hb3) Hq.out.lt); clear hb3)
      | (go_at_call 58; refine (HSu.out _).mono ?_; rintro r w2 ⟨rfl, rfl⟩))
  all_goals
    obtain ⟨q0, q1, q2, q3, g0, g1, g2, g3, _⟩ := Hq3.out
    simp only [zeroF] at q0 q1 q2 q3
    go_wp2_with fail
    refine (H1.out _).mono ?_
    rintro r w4 ⟨rfl, rfl⟩
    go_wp2_with fail
    refine (H2.out _).mono ?_
    rintro r w5 ⟨rfl, rfl⟩
    go_wp2_with fail
    (try simp only [Exit.inBlock, Exit.then])
    refine bodyPost_ret (v := .tuple #[.agg #[.int .u8 0, .int .i64 0, .int .i64 0, .string ⟨#[]⟩], .int .i64 e]) ?_ rfl ⟨by rw [HO.out]; rfl, (((Hb3.out.setCell (by simp) _).setCell (by simp) _).setCell (by simp) _).setCell (by simp) _⟩
    obtain ⟨s0, s1, s2, s3, _, _, _, _, _⟩ := Hq3.out.set ⟨0, 0, 0, ⟨#[]⟩⟩
    simp only [results, show Tryd.f41.results = #[.cell 2 69, .tmp 3] from rfl]
    go_simp

set_option maxHeartbeats 1000000 in
set_option maxRecDepth 100000 in
theorem rframe_e3 (s B L : ByteArray) (c : Nat) (O : Fr × Nat) (w : World) (hs : 4 ≤ s.size) (hm : s.size ≤ 1000000) (hB : s.extract 0 (s.size - 4) = B)
    (hSu : ∀ W, Calls Tryd.prog 58 #[.string B] W fun r w' => r = .returned (.int .i64 c) ∧ w' = W)
    (hL : ∀ W, Calls Tryd.prog 69 #[.int .i64 c] W fun r w' => r = .returned (.string L) ∧ Below W.heap.size W w')
    (hcmp : (L.toList == (s.extract (s.size - 4) s.size).toList) = true) (h0 : 0 < B.size) (n x q y z e : Nat) (d : ByteArray) (he : 0 < e)
    (h1 : ∀ W, Calls Tryd.prog 72 #[.string B, .int .i64 1] W fun r w' => r = .returned (.tuple #[.int .i64 n, .int .i64 x, .int .i64 0]) ∧ w' = W)
    (h2 : ∀ W, Calls Tryd.prog 72 #[.string B, .int .i64 x] W fun r w' => r = .returned (.tuple #[.int .i64 q, .int .i64 y, .int .i64 0]) ∧ w' = W)
    (h3 : ∀ W, Calls Tryd.prog 73 #[.string B, .int .i64 y] W fun r w' => r = .returned (.tuple #[.string d, .int .i64 z, .int .i64 e]) ∧ w' = W) (HO : Hid (O = (zeroF, e))) :
    Calls Tryd.prog 41 #[.string s] w fun r w' => r = .returned (.tuple #[frV O.1, .int .i64 O.2]) ∧ Below w.heap.size w w' := by
  have hm' : (s.size : Int) ≤ 1000000 := by omega
  have hw4 : IntKind.i64.wrap ((s.size : Int) - 4) = (s.size : Int) - 4 := iwrap_id _ (by omega) (by omega)
  have ht4 : ((s.size : Int) - 4).toNat = s.size - 4 := by omega
  have i0 : (0 : Int) ≤ (s.size : Int) - 4 := by omega
  have i1 : (s.size : Int) - 4 ≤ (s.size : Int) := by omega
  have hq : FrAt w.heap.size (w.alloc (.cells #[.int .u8 0, .int .i64 0, .int .i64 0, .string ⟨#[]⟩] 69)) zeroF := FrAt.fresh w zeroF 69
  have Hb : Hid (Below w.heap.size w (w.alloc (.cells #[.int .u8 0, .int .i64 0, .int .i64 0, .string ⟨#[]⟩] 69))) := (Below.refl _ _).alloc (Nat.le_refl _) _
  have Hq := hide hq
  have hs' : (4 : Int) ≤ s.size := by omega
  have HSu := hide hSu
  have HL := hide hL
  clear hs hm hq hSu hL
  have h0' : (0 : Int) < B.size := by omega
  have hz : ((B.size : Int) == 0) = false := by rw [beq_eq_false_iff_ne]; omega
  have H1 := hide h1
  have H2 := hide h2
  have H3 := hide h3
  clear h1 h2 h3
  have he' : (0 : Int) < e := by omega
  go_enter Tryd.func41, Tryd.ntmps41
  go_wp2_with fail
  generalize (w.alloc (.cells #[.int .u8 0, .int .i64 0, .int .i64 0, .string ⟨#[]⟩] 69)) = wq at *
  go_region_held3 (fun w' => Hid (Below w.heap.size w w')) (first | exact Hb3 | exact Hb.out.drew)
    (first
      | (go_at_call 69; refine (HL.out _).mono ?_; rintro r w3 ⟨rfl, hb3⟩; have Hb3 := hide (bthen Hb.out.drew hb3); have Hq3 := hide (Hq.out.below ((Below.refl wq.heap.size wq).drew.trans hb3) Hq.out.lt); clear hb3)
      | (go_at_call 58; refine (HSu.out _).mono ?_; rintro r w2 ⟨rfl, rfl⟩))
  all_goals
    obtain ⟨q0, q1, q2, q3, g0, g1, g2, g3, _⟩ := Hq3.out
    simp only [zeroF] at q0 q1 q2 q3
    go_wp2_with fail
    refine (H1.out _).mono ?_
    rintro r w4 ⟨rfl, rfl⟩
    go_wp2_with fail
    refine (H2.out _).mono ?_
    rintro r w5 ⟨rfl, rfl⟩
    go_wp2_with fail
    refine (H3.out _).mono ?_
    rintro r w6 ⟨rfl, rfl⟩
    go_wp2_with fail
    (try simp only [Exit.inBlock, Exit.then])
    refine bodyPost_ret (v := .tuple #[.agg #[.int .u8 0, .int .i64 0, .int .i64 0, .string ⟨#[]⟩], .int .i64 e]) ?_ rfl ⟨by rw [HO.out]; rfl, (((Hb3.out.setCell (by simp) _).setCell (by simp) _).setCell (by simp) _).setCell (by simp) _⟩
    obtain ⟨s0, s1, s2, s3, _, _, _, _, _⟩ := Hq3.out.set ⟨0, 0, 0, ⟨#[]⟩⟩
    simp only [results, show Tryd.f41.results = #[.cell 2 69, .tmp 3] from rfl]
    go_simp

set_option maxHeartbeats 1000000 in
set_option maxRecDepth 100000 in
theorem rframe_left (s B L : ByteArray) (c : Nat) (O : Fr × Nat) (w : World) (hs : 4 ≤ s.size) (hm : s.size ≤ 1000000) (hB : s.extract 0 (s.size - 4) = B)
    (hSu : ∀ W, Calls Tryd.prog 58 #[.string B] W fun r w' => r = .returned (.int .i64 c) ∧ w' = W)
    (hL : ∀ W, Calls Tryd.prog 69 #[.int .i64 c] W fun r w' => r = .returned (.string L) ∧ Below W.heap.size W w')
    (hcmp : (L.toList == (s.extract (s.size - 4) s.size).toList) = true) (h0 : 0 < B.size) (n x q y z : Nat) (d : ByteArray)
    (h1 : ∀ W, Calls Tryd.prog 72 #[.string B, .int .i64 1] W fun r w' => r = .returned (.tuple #[.int .i64 n, .int .i64 x, .int .i64 0]) ∧ w' = W)
    (h2 : ∀ W, Calls Tryd.prog 72 #[.string B, .int .i64 x] W fun r w' => r = .returned (.tuple #[.int .i64 q, .int .i64 y, .int .i64 0]) ∧ w' = W)
    (h3 : ∀ W, Calls Tryd.prog 73 #[.string B, .int .i64 y] W fun r w' => r = .returned (.tuple #[.string d, .int .i64 z, .int .i64 0]) ∧ w' = W) (hz2 : z ≠ B.size) (HO : Hid (O = (zeroF, 1))) :
    Calls Tryd.prog 41 #[.string s] w fun r w' => r = .returned (.tuple #[frV O.1, .int .i64 O.2]) ∧ Below w.heap.size w w' := by
  have hm' : (s.size : Int) ≤ 1000000 := by omega
  have hw4 : IntKind.i64.wrap ((s.size : Int) - 4) = (s.size : Int) - 4 := iwrap_id _ (by omega) (by omega)
  have ht4 : ((s.size : Int) - 4).toNat = s.size - 4 := by omega
  have i0 : (0 : Int) ≤ (s.size : Int) - 4 := by omega
  have i1 : (s.size : Int) - 4 ≤ (s.size : Int) := by omega
  have hq : FrAt w.heap.size (w.alloc (.cells #[.int .u8 0, .int .i64 0, .int .i64 0, .string ⟨#[]⟩] 69)) zeroF := FrAt.fresh w zeroF 69
  have Hb : Hid (Below w.heap.size w (w.alloc (.cells #[.int .u8 0, .int .i64 0, .int .i64 0, .string ⟨#[]⟩] 69))) := (Below.refl _ _).alloc (Nat.le_refl _) _
  have Hq := hide hq
  have hs' : (4 : Int) ≤ s.size := by omega
  have HSu := hide hSu
  have HL := hide hL
  clear hs hm hq hSu hL
  have h0' : (0 : Int) < B.size := by omega
  have hz : ((B.size : Int) == 0) = false := by rw [beq_eq_false_iff_ne]; omega
  have H1 := hide h1
  have H2 := hide h2
  have H3 := hide h3
  clear h1 h2 h3
  have hzz : ((z : Int) == (B.size : Int)) = false := by rw [beq_eq_false_iff_ne]; omega
  clear hz2
  go_enter Tryd.func41, Tryd.ntmps41
  go_wp2_with fail
  generalize (w.alloc (.cells #[.int .u8 0, .int .i64 0, .int .i64 0, .string ⟨#[]⟩] 69)) = wq at *
  go_region_held3 (fun w' => Hid (Below w.heap.size w w')) (first | exact Hb3 | exact Hb.out.drew)
    (first
      | (go_at_call 69; refine (HL.out _).mono ?_; rintro r w3 ⟨rfl, hb3⟩; have Hb3 := hide (bthen Hb.out.drew hb3); have Hq3 := hide (Hq.out.below ((Below.refl wq.heap.size wq).drew.trans hb3) Hq.out.lt); clear hb3)
      | (go_at_call 58; refine (HSu.out _).mono ?_; rintro r w2 ⟨rfl, rfl⟩))
  all_goals
    obtain ⟨q0, q1, q2, q3, g0, g1, g2, g3, _⟩ := Hq3.out
    simp only [zeroF] at q0 q1 q2 q3
    go_wp2_with fail
    refine (H1.out _).mono ?_
    rintro r w4 ⟨rfl, rfl⟩
    go_wp2_with fail
    refine (H2.out _).mono ?_
    rintro r w5 ⟨rfl, rfl⟩
    go_wp2_with fail
    refine (H3.out _).mono ?_
    rintro r w6 ⟨rfl, rfl⟩
    go_wp2_with fail
    (try simp only [Exit.inBlock, Exit.then])
    refine bodyPost_ret (v := .tuple #[.agg #[.int .u8 0, .int .i64 0, .int .i64 0, .string ⟨#[]⟩], .int .i64 1]) ?_ rfl ⟨by rw [HO.out]; rfl, (((Hb3.out.setCell (by simp) _).setCell (by simp) _).setCell (by simp) _).setCell (by simp) _⟩
    obtain ⟨s0, s1, s2, s3, _, _, _, _, _⟩ := Hq3.out.set ⟨0, 0, 0, ⟨#[]⟩⟩
    simp only [results, show Tryd.f41.results = #[.cell 2 69, .tmp 3] from rfl]
    go_simp

set_option maxHeartbeats 1000000 in
set_option maxRecDepth 100000 in
theorem rframe_all (s B L : ByteArray) (c : Nat) (O : Fr × Nat) (w : World) (hs : 4 ≤ s.size) (hm : s.size ≤ 1000000) (hB : s.extract 0 (s.size - 4) = B)
    (hSu : ∀ W, Calls Tryd.prog 58 #[.string B] W fun r w' => r = .returned (.int .i64 c) ∧ w' = W)
    (hL : ∀ W, Calls Tryd.prog 69 #[.int .i64 c] W fun r w' => r = .returned (.string L) ∧ Below W.heap.size W w')
    (hcmp : (L.toList == (s.extract (s.size - 4) s.size).toList) = true) (h0 : 0 < B.size) (n x q y : Nat) (d : ByteArray) (kb : UInt8) (hkb : B[0] = kb)
    (h1 : ∀ W, Calls Tryd.prog 72 #[.string B, .int .i64 1] W fun r w' => r = .returned (.tuple #[.int .i64 n, .int .i64 x, .int .i64 0]) ∧ w' = W)
    (h2 : ∀ W, Calls Tryd.prog 72 #[.string B, .int .i64 x] W fun r w' => r = .returned (.tuple #[.int .i64 q, .int .i64 y, .int .i64 0]) ∧ w' = W)
    (h3 : ∀ W, Calls Tryd.prog 73 #[.string B, .int .i64 y] W fun r w' => r = .returned (.tuple #[.string d, .int .i64 B.size, .int .i64 0]) ∧ w' = W) (hE : frErr ⟨kb, n, q, d⟩ = 0 → O = (⟨kb, n, q, d⟩, 0)) (hE2 : frErr ⟨kb, n, q, d⟩ ≠ 0 → O = (zeroF, frErr ⟨kb, n, q, d⟩)) :
    Calls Tryd.prog 41 #[.string s] w fun r w' => r = .returned (.tuple #[frV O.1, .int .i64 O.2]) ∧ Below w.heap.size w w' := by
  have hm' : (s.size : Int) ≤ 1000000 := by omega
  have hw4 : IntKind.i64.wrap ((s.size : Int) - 4) = (s.size : Int) - 4 := iwrap_id _ (by omega) (by omega)
  have ht4 : ((s.size : Int) - 4).toNat = s.size - 4 := by omega
  have i0 : (0 : Int) ≤ (s.size : Int) - 4 := by omega
  have i1 : (s.size : Int) - 4 ≤ (s.size : Int) := by omega
  have hq : FrAt w.heap.size (w.alloc (.cells #[.int .u8 0, .int .i64 0, .int .i64 0, .string ⟨#[]⟩] 69)) zeroF := FrAt.fresh w zeroF 69
  have Hb : Hid (Below w.heap.size w (w.alloc (.cells #[.int .u8 0, .int .i64 0, .int .i64 0, .string ⟨#[]⟩] 69))) := (Below.refl _ _).alloc (Nat.le_refl _) _
  have Hq := hide hq
  have hs' : (4 : Int) ≤ s.size := by omega
  have HSu := hide hSu
  have HL := hide hL
  clear hs hm hq hSu hL
  have h0' : (0 : Int) < B.size := by omega
  have hz : ((B.size : Int) == 0) = false := by rw [beq_eq_false_iff_ne]; omega
  have H1 := hide h1
  have H2 := hide h2
  have H3 := hide h3
  clear h1 h2 h3
  have HF := hide (fun W => frameError_ok ⟨kb, n, q, d⟩ W)
  have HE := hide hE
  have HE2 := hide hE2
  simp only [frV] at HF
  clear hE hE2
  go_enter Tryd.func41, Tryd.ntmps41
  go_wp2_with fail
  generalize (w.alloc (.cells #[.int .u8 0, .int .i64 0, .int .i64 0, .string ⟨#[]⟩] 69)) = wq at *
  go_region_held3 (fun w' => Hid (Below w.heap.size w w')) (first | exact Hb3 | exact Hb.out.drew)
    (first
      | (go_at_call 69; refine (HL.out _).mono ?_; rintro r w3 ⟨rfl, hb3⟩; have Hb3 := hide (bthen Hb.out.drew hb3); have Hq3 := hide (Hq.out.below ((Below.refl wq.heap.size wq).drew.trans hb3) Hq.out.lt); clear hb3)
      | (go_at_call 58; refine (HSu.out _).mono ?_; rintro r w2 ⟨rfl, rfl⟩))
  all_goals
    obtain ⟨q0, q1, q2, q3, g0, g1, g2, g3, _⟩ := Hq3.out
    simp only [zeroF] at q0 q1 q2 q3
    go_wp2_with fail
    refine (H1.out _).mono ?_
    rintro r w4 ⟨rfl, rfl⟩
    go_wp2_with fail
    refine (H2.out _).mono ?_
    rintro r w5 ⟨rfl, rfl⟩
    go_wp2_with fail
    refine (H3.out _).mono ?_
    rintro r w6 ⟨rfl, rfl⟩
    go_wp2_with fail
    have hba : Below w6.heap.size w6 (w6.alloc (.cells #[.int .u8 kb.toNat, .int .i64 (n : Int), .int .i64 (q : Int), .string d] 69)) := (Below.refl _ _).alloc (Nat.le_refl _) _
    have hfr : FrAt w6.heap.size (w6.alloc (.cells #[.int .u8 kb.toNat, .int .i64 (n : Int), .int .i64 (q : Int), .string d] 69)) ⟨kb, n, q, d⟩ := FrAt.fresh w6 ⟨kb, n, q, d⟩ 69
    refine (HF.out _).mono ?_
    rintro r w7 ⟨rfl, hb7⟩
    have Hb7 := hide (bthen Hb3.out (bthen hba hb7))
    have Hq7 := hide (Hq3.out.below (bthen hba hb7) Hq3.out.lt)
    have hf7 := hfr.below hb7 hfr.lt
    clear hb7 hba hfr q0 q1 q2 q3 g0 g1 g2 g3 HF
    obtain ⟨q0, q1, q2, q3, g0, g1, g2, g3, _⟩ := Hq7.out
    simp only [zeroF] at q0 q1 q2 q3
    by_cases hz0 : frErr ⟨kb, n, q, d⟩ = 0
    · have HO := hide (HE.out hz0)
      rw [hz0]
      obtain ⟨y0, y1, y2, y3, _, _, _, _, _⟩ := hf7
      simp only at y0 y1 y2 y3
      clear hz0 HE HE2
      go_wp2_with fail
      (try simp only [Exit.inBlock, Exit.then])
      refine bodyPost_ret (v := .tuple #[.agg #[.int .u8 kb.toNat, .int .i64 (n : Int), .int .i64 (q : Int), .string d], .int .i64 0]) ?_ rfl ⟨by rw [HO.out]; rfl, (((Hb7.out.setCell (by simp) _).setCell (by simp) _).setCell (by simp) _).setCell (by simp) _⟩
      obtain ⟨s0, s1, s2, s3, _, _, _, _, _⟩ := Hq7.out.set ⟨kb, n, q, d⟩
      simp only at s0 s1 s2 s3
      simp only [results, show Tryd.f41.results = #[.cell 2 69, .tmp 3] from rfl]
      go_simp
    · have HO := hide (HE2.out hz0)
      clear hf7 HE HE2
      generalize frErr ⟨kb, n, q, d⟩ = er at *
      have her : (0 : Int) < er := by omega
      clear hz0
      go_wp2_with fail
      (try simp only [Exit.inBlock, Exit.then])
      refine bodyPost_ret (v := .tuple #[.agg #[.int .u8 0, .int .i64 0, .int .i64 0, .string ⟨#[]⟩], .int .i64 er]) ?_ rfl ⟨by rw [HO.out]; rfl, (((Hb7.out.setCell (by simp) _).setCell (by simp) _).setCell (by simp) _).setCell (by simp) _⟩
      obtain ⟨s0, s1, s2, s3, _, _, _, _, _⟩ := Hq7.out.set ⟨0, 0, 0, ⟨#[]⟩⟩
      simp only [results, show Tryd.f41.results = #[.cell 2 69, .tmp 3] from rfl]
      go_simp

theorem readFrame_ok (s : ByteArray) (w : World) (hm : s.size ≤ 1000000) :
    Calls Tryd.prog 41 #[.string s] w fun r w' => r = .returned (.tuple #[frV (rdOut s.data.toList).1, .int .i64 (rdOut s.data.toList).2]) ∧ Below w.heap.size w w' := by
  by_cases hs : s.size < 4
  · exact readFrame_short s w hs
  · have hs4 : 4 ≤ s.size := by omega
    by_cases hne : low4 (Go.Crc.crc 0 (s.data.toList.take (s.data.toList.length - 4))) = s.data.toList.drop (s.data.toList.length - 4)
    · have hbl := body_list s
      have hSu := fun W => sumOf_ok (s.extract 0 (s.size - 4)) W (by rw [ByteArray.size_extract]; omega)
      rw [hbl] at hSu
      have hcl := Go.Crc.crc_lt 0 (s.data.toList.take (s.data.toList.length - 4)) (by decide)
      have hL := fun W => low_ok (Go.Crc.crc 0 (s.data.toList.take (s.data.toList.length - 4))) W hcl
      have hcmp : ((str (low4 (Go.Crc.crc 0 (s.data.toList.take (s.data.toList.length - 4))))).toList == (s.extract (s.size - 4) s.size).toList) = true := by
        rw [eqb_list, strL, tail_list]; simpa using hne
      have hrd : rdF s.data.toList = rdB (s.extract 0 (s.size - 4)).data.toList := by rw [rdF, if_neg (by rw [lenL]; omega), if_pos hne, hbl]
      have hBs : (s.extract 0 (s.size - 4)).size ≤ 1000000 := by rw [ByteArray.size_extract]; omega
      obtain ⟨B, hB⟩ : ∃ B, s.extract 0 (s.size - 4) = B := ⟨_, rfl⟩
      rw [hB] at hSu hrd hBs
      clear hbl hcl hne
      rcases Nat.eq_zero_or_pos B.size with h0 | h0
      · refine rframe_none s B _ _ _ w hs4 hm hB hSu hL hcmp h0 (rdOut_err ?_)
        rw [hrd, show B.data.toList = [] from List.length_eq_zero_iff.1 (by rw [lenL]; exact h0)]
        rfl
      · have hlist : B.data.toList = B[0] :: B.data.toList.drop 1 := by
          have := dropL B 0 h0
          rwa [List.drop_zero] at this
        cases hd1 : Go.Num.dec (B.data.toList.drop 1) with
        | error e =>
          have he := dec_err _ _ hd1
          refine rframe_e1 s B _ _ _ w hs4 hm hB hSu hL hcmp h0 e (by omega) (fun W => numOf_errD B 1 e W hBs h0 hd1) (rdOut_err ?_)
          rw [hrd, hlist, rdB]
          rw [num_dropED hd1]
        | ok p1 =>
          obtain ⟨n, k1⟩ := p1
          have hn := dec_num hd1
          rw [List.length_drop, lenL] at hn
          cases hd2 : Go.Num.dec (B.data.toList.drop (1 + k1)) with
          | error e =>
            have he := dec_err _ _ hd2
            refine rframe_e2 s B _ _ _ w hs4 hm hB hSu hL hcmp h0 n (1 + k1) (1 + k1) e (by omega) (fun W => numOf_numD B 1 n k1 W hBs h0 hd1) (fun W => numOf_errD B (1 + k1) e W hBs (by omega) hd2) (rdOut_err ?_)
            rw [hrd, hlist, rdB]
            rw [num_dropD hd1]
            simp only []
            rw [num_dropED hd2]
          | ok p2 =>
            obtain ⟨q, k2⟩ := p2
            have hq := dec_num hd2
            rw [List.length_drop, lenL] at hq
            have ht := fun W => textOf_ok B (1 + k1 + k2) W hBs (by omega)
            rcases txt_of B (1 + k1 + k2) (by omega) with ⟨d, z, e1, hz1, hz2, hz3, e2⟩ | ⟨d, z, c, e1, hc, e2⟩
            · rw [e1] at ht
              have hbase : rdF s.data.toList = if B.data.toList.drop z = [] then (if frErr ⟨B[0], (n : Int), (q : Int), d⟩ = 0 then .ok ⟨B[0], (n : Int), (q : Int), d⟩ else .error (frErr ⟨B[0], (n : Int), (q : Int), d⟩)) else .error 1 := by
                rw [hrd, hlist, rdB]
                rw [num_dropD hd1]
                simp only []
                rw [num_dropD hd2]
                simp only []
                rw [e2]
                simp only []
                rw [show str d.data.toList = d from ext_of_list (strL _), ← hlist]
              by_cases hz : z = B.size
              · subst hz
                have hnil : B.data.toList.drop B.size = [] := List.drop_eq_nil_of_le (by rw [lenL]; exact Nat.le_refl _)
                rw [if_pos hnil] at hbase
                exact rframe_all s B _ _ _ w hs4 hm hB hSu hL hcmp h0 n (1 + k1) q (1 + k1 + k2) d B[0] rfl (fun W => numOf_numD B 1 n k1 W hBs h0 hd1) (fun W => numOf_numD B (1 + k1) q k2 W hBs (by omega) hd2) ht
                  (fun h => rdOut_ok (by rw [hbase, if_pos h])) (fun h => rdOut_err (by rw [hbase, if_neg h]))
              · refine rframe_left s B _ _ _ w hs4 hm hB hSu hL hcmp h0 n (1 + k1) q (1 + k1 + k2) z d (fun W => numOf_numD B 1 n k1 W hBs h0 hd1) (fun W => numOf_numD B (1 + k1) q k2 W hBs (by omega) hd2) ht hz (rdOut_err ?_)
                rw [hbase, if_neg]
                intro hnil
                have := congrArg List.length hnil
                rw [List.length_drop, lenL] at this
                simp at this
                omega
            · rw [e1] at ht
              refine rframe_e3 s B _ _ _ w hs4 hm hB hSu hL hcmp h0 n (1 + k1) q (1 + k1 + k2) z c d (by omega) (fun W => numOf_numD B 1 n k1 W hBs h0 hd1) (fun W => numOf_numD B (1 + k1) q k2 W hBs (by omega) hd2) ht (rdOut_err ?_)
              rw [hrd, hlist, rdB]
              rw [num_dropD hd1]
              simp only []
              rw [num_dropD hd2]
              simp only []
              rw [e2]
    · exact readFrame_sum s w hs4 hm hne
end Go.Proofs.YtlmampcdflbifadDoor
