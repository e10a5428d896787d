/-
  Contract of the document's SignText over this dump, at blocks that may be written.
-/
import Derived.Test.YtgcpljgdeoeppabDoorSignText
import Derived.Test.YtgcpljgdeoeppabDoorRefNum
import Derived.Deep.RegionHeld3
namespace Go.Proofs.YtgcpljgdeoeppabDoor
open Go.RowKit
open Go.Sign (Blk)

set_option maxHeartbeats 2000000 in
set_option maxRecDepth 100000 in
theorem rtext_ok (v : Value) (l : List Blk) (size : Nat) (w : World) (hv : RowIn w v l) (hs : size ≤ 64) (hl : l.length ≤ 10000) (hw : WrOk l) :
    Calls Tryd.prog 25 #[v, .int .i64 size] w fun r w' => r = .returned (.string (str (Go.Sign.encS l size))) ∧ Below w.heap.size w w' := by
  obtain ⟨a, c, rfl, hv⟩ := hv
  have HV := hide hv
  have HW := hide hw
  have hl' : (l.length : Int) ≤ 10000 := by omega
  clear hv hw
  have HA := hide (fun W => numText_ok size W (by omega))
  have HB := hide (fun W => numText_ok l.length W (by omega))
  have HAB := hide (str_app (Go.Num.enc size) (Go.Num.enc l.length))
  have la : (str (Go.Num.enc size)).size ≤ 6 := by rw [str_len]; exact Go.Num.enc_length_le _
  have lb : (str (Go.Num.enc l.length)).size ≤ 6 := by rw [str_len]; exact Go.Num.enc_length_le _
  have HEnd : Hid (str (Go.Num.enc size ++ Go.Num.enc l.length ++ Go.Sign.encBs l) = str (Go.Sign.encS l size)) := rfl
  have H0 : Hid (str (Go.Num.enc size ++ Go.Num.enc l.length ++ Go.Sign.encBs (l.take 0)) = str (Go.Num.enc size) ++ str (Go.Num.enc l.length)) := by rw [HAB.out]; simp [Go.Sign.encBs, Hid]
  generalize str (Go.Sign.encS l size) = E at *
  generalize Go.Num.enc size ++ Go.Num.enc l.length = P0 at *
  have hP : (str P0).size ≤ 12 := by rw [← HAB.out, ByteArray.size_append]; omega
  generalize str (Go.Num.enc size) = A at *
  generalize str (Go.Num.enc l.length) = B at *
  go_enter Tryd.func25, Tryd.ntmps25
  go_wp2_with fail
  refine (HA.out _).mono ?_
  rintro r w1 ⟨rfl, hb1⟩
  have Hb1 := hide hb1
  clear hb1
  go_wp2_with fail
  refine (HB.out _).mono ?_
  rintro r w2 ⟨rfl, hb2⟩
  have Hb2 := hide (bthen Hb1.out hb2)
  clear hb2 Hb1
  go_wp2_with fail
  go_loopw [5, 6] (fun t5 t6 wr => ∃ j : Nat, t6 = .int .i64 j ∧ t5 = .string (str (P0 ++ Go.Sign.encBs (l.take j))) ∧ j ≤ l.length ∧ Hid (Below w.heap.size w wr)) (fun _ t6 _ => l.length - (intOf t6).toNat)
  case atStart => exact ⟨0, rfl, by rw [H0.out], by omega, Hb2.out⟩
  case round =>
    clear Hb2 H0 HA HB
    obtain ⟨j, rfl, rfl, hj, Hb⟩ := hrel
    by_cases hlt : j < l.length
    · have hlt' : (j : Int) < l.length := by omega
      obtain ⟨b, o, rfl, hc⟩ := HV.out (by omega)
      obtain ⟨c0, c1, c2⟩ := hc j hlt
      have d0 := (Hb.out.cell (World.block_lt_of_cell? _ _ c0)).trans c0
      have d1 := (Hb.out.cell (World.block_lt_of_cell? _ _ c1)).trans c1
      have d2 := (Hb.out.cell (World.block_lt_of_cell? _ _ c2)).trans c2
      clear hc c0 c1 c2
      have hok := HW.out l[j] (List.getElem_mem hlt)
      have Hsn := hide (List.take_succ_eq_append_getElem hlt)
      have hbl := Go.Sign.encBs_length (l.take j)
      have hsz : (str (P0 ++ Go.Sign.encBs (l.take j))).size ≤ 200000 := by
        rw [← str_app, ByteArray.size_append, str_len (Go.Sign.encBs _)]
        simp at hbl
        omega
      generalize l[j] = bk at *
      obtain ⟨⟨n0, n1⟩, ⟨k0, k1⟩, s1⟩ := hok
      obtain ⟨bn, bw, bs⟩ := bk
      simp only at n0 n1 k0 k1 s1 d0 d1 d2
      obtain ⟨n, rfl⟩ := Int.eq_ofNat_of_zero_le n0
      obtain ⟨k, rfl⟩ := Int.eq_ofNat_of_zero_le k0
      have HX := hide (fun W => numText_ok n W (by omega))
      have HY := hide (fun W => numText_ok k W (by omega))
      have HZ := hide (fun W => numText_ok bs W (by omega))
      have hbq : (bs : Int) < 4294967296 := by omega
      have Hfin : Hid (str (P0 ++ Go.Sign.encBs (l.take j)) ++ str (Go.Num.enc n) ++ str (Go.Num.enc k) ++ str (Go.Num.enc bs) = str (P0 ++ Go.Sign.encBs (l.take (j + 1)))) := by
        rw [Hsn.out, Go.Sign.encBs_snoc, str_app, str_app, str_app]
        simp [Go.Sign.encB, Hid]
      have lx : (str (Go.Num.enc n)).size ≤ 6 := by rw [str_len]; exact Go.Num.enc_length_le _
      have ly : (str (Go.Num.enc k)).size ≤ 6 := by rw [str_len]; exact Go.Num.enc_length_le _
      have lz : (str (Go.Num.enc bs)).size ≤ 6 := by rw [str_len]; exact Go.Num.enc_length_le _
      generalize str (P0 ++ Go.Sign.encBs (l.take j)) = S at *
      generalize str (Go.Num.enc n) = X at *
      generalize str (Go.Num.enc k) = Y at *
      generalize str (Go.Num.enc bs) = Z at *
      have p1 := fun W => run_string_add_sum (P := Tryd.prog) W S X (by omega)
      have p2 := fun W => run_string_add_sum (P := Tryd.prog) W (S ++ X) Y (by rw [ByteArray.size_append]; omega)
      have p3 := fun W => run_string_add_sum (P := Tryd.prog) W (S ++ X ++ Y) Z (by rw [ByteArray.size_append, ByteArray.size_append]; omega)
      have HH := hide (And.intro hj hlt)
      have hbw : IntKind.i64.wrap (bs : Int) = (bs : Int) := iwrap_id _ (by omega) (by omega)
      have hbx : wrap64 (bs : Int) = (bs : Int) := wrap_id _ (by omega) (by omega)
      clear HV HW hbl lx ly lz la lb hsz hP n0 n1 k0 k1 s1 hj HAB HEnd Hsn hl hs
      go_wp2_with fail
      go_region_held3 (fun w' => Hid (Below w.heap.size w w') ∧ w'.cell? ⟨b, o + j * 3, none⟩ = some (.int .i64 (n : Int)) ∧ w'.cell? ⟨b, o + j * 3 + 1, none⟩ = some (.int .i64 (k : Int)) ∧ w'.cell? ⟨b, o + j * 3 + 2, none⟩ = some (.int .u32 (bs : Int))) (first | exact ⟨Hb.out.drew, d0, d1, d2⟩ | exact ⟨Hb4.out, e0, e1, e2⟩ | exact ⟨Hb5.out, f0, f1, f2⟩ | exact ⟨Hb6.out, g0, g1, g2⟩)
        (first
          | (go_at_call_of 44 n; refine (HX.out _).mono ?_; rintro r w4 ⟨rfl, hb4⟩; have e0 : w4.cell? ⟨b, o + j * 3, none⟩ = some (.int .i64 (n : Int)) := (hb4.cell (World.block_lt_of_cell? wr _ d0)).trans d0; have e1 : w4.cell? ⟨b, o + j * 3 + 1, none⟩ = some (.int .i64 (k : Int)) := (hb4.cell (World.block_lt_of_cell? wr _ d1)).trans d1; have e2 : w4.cell? ⟨b, o + j * 3 + 2, none⟩ = some (.int .u32 (bs : Int)) := (hb4.cell (World.block_lt_of_cell? wr _ d2)).trans d2; have Hb4 := hide (bthen Hb.out.drew hb4); clear hb4)
          | (go_at_call_of 44 k; refine (HY.out _).mono ?_; rintro r w5 ⟨rfl, hb5⟩; have f0 : w5.cell? ⟨b, o + j * 3, none⟩ = some (.int .i64 (n : Int)) := (hb5.cell (World.block_lt_of_cell? w4 _ e0)).trans e0; have f1 : w5.cell? ⟨b, o + j * 3 + 1, none⟩ = some (.int .i64 (k : Int)) := (hb5.cell (World.block_lt_of_cell? w4 _ e1)).trans e1; have f2 : w5.cell? ⟨b, o + j * 3 + 2, none⟩ = some (.int .u32 (bs : Int)) := (hb5.cell (World.block_lt_of_cell? w4 _ e2)).trans e2; have Hb5 := hide (bthen Hb4.out hb5); clear hb5)
          | (go_at_call_of 44 bs; refine (HZ.out _).mono ?_; rintro r w6 ⟨rfl, hb6⟩; have g0 : w6.cell? ⟨b, o + j * 3, none⟩ = some (.int .i64 (n : Int)) := (hb6.cell (World.block_lt_of_cell? w5 _ f0)).trans f0; have g1 : w6.cell? ⟨b, o + j * 3 + 1, none⟩ = some (.int .i64 (k : Int)) := (hb6.cell (World.block_lt_of_cell? w5 _ f1)).trans f1; have g2 : w6.cell? ⟨b, o + j * 3 + 2, none⟩ = some (.int .u32 (bs : Int)) := (hb6.cell (World.block_lt_of_cell? w5 _ f2)).trans f2; have Hb6 := hide (bthen Hb5.out hb6); clear hb6))
      all_goals
        go_wp2_with fail
        go_roundw
        case rel => exact ⟨j + 1, by go_num, by rw [← Hfin.out], by have := HH.out; omega, Hb6.out⟩
        case measure => have := HH.out; simp [intOf]; omega
    · have hle : (l.length : Int) ≤ (j : Int) := by omega
      rw [List.take_of_length_le (by omega), HEnd.out]
      go_wp2_with fail
      go_ret
      exact ⟨rfl, Hb.out⟩
end Go.Proofs.YtgcpljgdeoeppabDoor
