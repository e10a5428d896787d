/-
  Contracts of the document's FrameError, Low, FrameText over this dump.
  An argument of type packhorseref2.Frame, by value, reads as a frame.
  What a number that is read comes to. No program, no walk.
  What the document's NumOf and TextOf answer, as numbers and texts that are read.
-/
import Derived.Test.YtlmampcdflbifadDoorJoin03
import Derived.Test.YtlmampcdflbifadDoorJoin04
import Derived.Deep.RegionHeld3
import Derived.BigQuiet
import Derived.Deep.QuietTactic
import Derived.Laws.Cover1
import Derived.Lib.SmallJoins
import Derived.Test.YtlmampcdflbifadDoorJoin01
import Derived.Test.YtlmampcdflbifadDoorJoin02
namespace Go.Proofs.YtlmampcdflbifadDoor
open Go.RowKit
open Go.Frame (Fr frErr low4 bodyF encF)

/-- A frame as a value. -/
abbrev frV (f : Fr) : Value := .agg #[.int .u8 f.kind.toNat, .int .i64 f.epoch, .int .i64 f.seq, .string f.data]
abbrev frC (f : Fr) : Array Value := #[.int .u8 f.kind.toNat, .int .i64 f.epoch, .int .i64 f.seq, .string f.data]

set_option maxHeartbeats 1000000 in
set_option maxRecDepth 100000 in
theorem frameError_ok (f : Fr) (w : World) : Calls Tryd.prog 35 #[frV f] w fun r w' => r = .returned (.int .i64 (frErr f)) ∧ Below w.heap.size w w' := by
  obtain ⟨k, e, q, d⟩ := f
  have hk := k.toNat_lt
  have Hb : Hid (Below w.heap.size w (w.alloc (.cells #[.int .u8 k.toNat, .int .i64 e, .int .i64 q, .string d] 69))) := (Below.refl _ _).alloc (Nat.le_refl _) _
  have Hx : Hid (frErr ⟨k, e, q, d⟩ = if k.toNat < 97 ∨ 122 < k.toNat then 4 else if e < 0 ∨ 2147483648 < e ∨ q < 0 ∨ 65536 ≤ q ∨ 20000 < d.size then 2 else 0) := rfl
  generalize frErr ⟨k, e, q, d⟩ = E at *
  simp only [frV]
  generalize k.toNat = n at *
  by_cases h1 : n < 97
  · have h1' : (n : Int) < 97 := by omega
    have He : Hid (E = 4) := Hx.out.trans (if_pos (Or.inl h1))
    clear h1 Hx
    go_enter Tryd.func35, Tryd.ntmps35
    go_wp2
    go_ret
    exact ⟨by rw [He.out]; rfl, Hb.out⟩
  · have h1' : (97 : Int) ≤ n := by omega
    by_cases h2 : 122 < n
    · have h2' : (122 : Int) < n := by omega
      have He : Hid (E = 4) := Hx.out.trans (if_pos (Or.inr h2))
      clear h1 h2 Hx
      go_enter Tryd.func35, Tryd.ntmps35
      go_wp2
      go_ret
      exact ⟨by rw [He.out]; rfl, Hb.out⟩
    · have h2' : (n : Int) ≤ 122 := by omega
      have Hx2 := hide (Hx.out.trans (if_neg (by omega)))
      clear h1 h2 Hx
      by_cases h3 : e < 0
      · have He : Hid (E = 2) := Hx2.out.trans (if_pos (Or.inl h3))
        clear Hx2
        go_enter Tryd.func35, Tryd.ntmps35
        go_wp2
        go_ret
        exact ⟨by rw [He.out]; rfl, Hb.out⟩
      · have h3' : 0 ≤ e := by omega
        by_cases h4 : 2147483648 < e
        · have He : Hid (E = 2) := Hx2.out.trans (if_pos (Or.inr (Or.inl h4)))
          clear Hx2 h3
          go_enter Tryd.func35, Tryd.ntmps35
          go_wp2
          go_ret
          exact ⟨by rw [He.out]; rfl, Hb.out⟩
        · have h4' : e ≤ 2147483648 := by omega
          by_cases h5 : q < 0
          · have He : Hid (E = 2) := Hx2.out.trans (if_pos (Or.inr (Or.inr (Or.inl h5))))
            clear Hx2 h3 h4
            go_enter Tryd.func35, Tryd.ntmps35
            go_wp2
            go_ret
            exact ⟨by rw [He.out]; rfl, Hb.out⟩
          · have h5' : 0 ≤ q := by omega
            by_cases h6 : 65536 ≤ q
            · have He : Hid (E = 2) := Hx2.out.trans (if_pos (Or.inr (Or.inr (Or.inr (Or.inl h6)))))
              clear Hx2 h3 h4 h5
              go_enter Tryd.func35, Tryd.ntmps35
              go_wp2
              go_ret
              exact ⟨by rw [He.out]; rfl, Hb.out⟩
            · have h6' : q < 65536 := by omega
              by_cases h7 : 20000 < d.size
              · have h7' : (20000 : Int) < d.size := by omega
                have He : Hid (E = 2) := Hx2.out.trans (if_pos (Or.inr (Or.inr (Or.inr (Or.inr h7)))))
                clear Hx2 h3 h4 h5 h6
                go_enter Tryd.func35, Tryd.ntmps35
                go_wp2
                go_ret
                exact ⟨by rw [He.out]; rfl, Hb.out⟩
              · have h7' : (d.size : Int) ≤ 20000 := by omega
                have He : Hid (E = 0) := Hx2.out.trans (if_neg (by omega))
                clear Hx2 h3 h4 h5 h6 h7
                go_enter Tryd.func35, Tryd.ntmps35
                go_wp2
                go_ret
                exact ⟨by rw [He.out]; rfl, Hb.out⟩

set_option maxHeartbeats 1000000 in
set_option maxRecDepth 100000 in
theorem low_ok (n : Nat) (w : World) (hn : n < 4294967296) : Calls Tryd.prog 69 #[.int .i64 n] w fun r w' => r = .returned (.string (str (low4 n))) ∧ Below w.heap.size w w' := by
  have hn' : (n : Int) < 4294967296 := by omega
  have B0 := hide (fun W => byte_ok ((n : Int) % 256) W (by omega) (by omega))
  have B1 := hide (fun W => byte_ok ((n : Int) / 256 % 256) W (by omega) (by omega))
  have B2 := hide (fun W => byte_ok ((n : Int) / 65536 % 256) W (by omega) (by omega))
  have B3 := hide (fun W => byte_ok ((n : Int) / 16777216) W (by omega) (by omega))
  have Hfin : Hid (str [UInt8.ofNat ((n : Int) % 256).toNat] ++ str [UInt8.ofNat ((n : Int) / 256 % 256).toNat] ++ str [UInt8.ofNat ((n : Int) / 65536 % 256).toNat] ++ str [UInt8.ofNat ((n : Int) / 16777216).toNat] = str (low4 n)) := by
    rw [str_app, str_app, str_app, show ((n : Int) % 256).toNat = n % 256 by omega, show ((n : Int) / 256 % 256).toNat = n / 256 % 256 by omega, show ((n : Int) / 65536 % 256).toNat = n / 65536 % 256 by omega, show ((n : Int) / 16777216).toNat = n / 16777216 by omega]
    rfl
  have z0 : (str [UInt8.ofNat ((n : Int) % 256).toNat]).size = 1 := by rw [str_len]; rfl
  have z1 : (str [UInt8.ofNat ((n : Int) / 256 % 256).toNat]).size = 1 := by rw [str_len]; rfl
  have z2 : (str [UInt8.ofNat ((n : Int) / 65536 % 256).toNat]).size = 1 := by rw [str_len]; rfl
  have z3 : (str [UInt8.ofNat ((n : Int) / 16777216).toNat]).size = 1 := by rw [str_len]; rfl
  generalize str [UInt8.ofNat ((n : Int) % 256).toNat] = S0 at *
  generalize str [UInt8.ofNat ((n : Int) / 256 % 256).toNat] = S1 at *
  generalize str [UInt8.ofNat ((n : Int) / 65536 % 256).toNat] = S2 at *
  generalize str [UInt8.ofNat ((n : Int) / 16777216).toNat] = S3 at *
  generalize str (low4 n) = L at *
  have p1 := fun W => run_string_add_sum (P := Tryd.prog) W S0 S1 (by omega)
  have p2 := fun W => run_string_add_sum (P := Tryd.prog) W (S0 ++ S1) S2 (by rw [ByteArray.size_append]; omega)
  have p3 := fun W => run_string_add_sum (P := Tryd.prog) W (S0 ++ S1 ++ S2) S3 (by rw [ByteArray.size_append, ByteArray.size_append]; omega)
  clear z0 z1 z2 z3
  go_enter Tryd.func69, Tryd.ntmps69
  go_wp2_with fail
  refine (B0.out _).mono ?_
  rintro r w1 ⟨rfl, hb1⟩
  have Hb1 := hide hb1
  clear hb1 B0
  go_wp2_with fail
  refine (B1.out _).mono ?_
  rintro r w2 ⟨rfl, hb2⟩
  have Hb2 := hide (bthen Hb1.out hb2)
  clear hb2 B1
  go_wp2_with fail
  refine (B2.out _).mono ?_
  rintro r w3 ⟨rfl, hb3⟩
  have Hb3 := hide (bthen Hb2.out hb3)
  clear hb3 B2
  go_wp2_with fail
  refine (B3.out _).mono ?_
  rintro r w4 ⟨rfl, hb4⟩
  have Hb4 := hide (bthen Hb3.out hb4)
  clear hb4 B3
  go_wp2_with fail
  go_ret
  exact ⟨by rw [← Hfin.out]; rfl, Hb4.out⟩

set_option maxHeartbeats 2000000 in
set_option maxRecDepth 100000 in
theorem frameText_ok (f : Fr) (w : World) (hf : frErr f = 0) : Calls Tryd.prog 39 #[frV f] w fun r w' => r = .returned (.string (str (encF f))) ∧ Below w.heap.size w w' := by
  obtain ⟨hk, he, hq, hd⟩ := Go.Frame.frErr_zero hf
  obtain ⟨k, e, q, d⟩ := f
  simp only at hk he hq hd
  obtain ⟨e, rfl⟩ := Int.eq_ofNat_of_zero_le he.1
  obtain ⟨q, rfl⟩ := Int.eq_ofNat_of_zero_le hq.1
  have hb : Below w.heap.size w (w.alloc (.cells #[.int .u8 k.toNat, .int .i64 (e : Int), .int .i64 (q : Int), .string d] 69)) := (Below.refl _ _).alloc (Nat.le_refl _) _
  have d0 : (w.alloc (.cells #[.int .u8 k.toNat, .int .i64 (e : Int), .int .i64 (q : Int), .string d] 69)).cell? ⟨w.heap.size, 0, none⟩ = some (.int .u8 k.toNat) := by simp
  have d1 : (w.alloc (.cells #[.int .u8 k.toNat, .int .i64 (e : Int), .int .i64 (q : Int), .string d] 69)).cell? ⟨w.heap.size, 1, none⟩ = some (.int .i64 (e : Int)) := by simp
  have d2 : (w.alloc (.cells #[.int .u8 k.toNat, .int .i64 (e : Int), .int .i64 (q : Int), .string d] 69)).cell? ⟨w.heap.size, 2, none⟩ = some (.int .i64 (q : Int)) := by simp
  have d3 : (w.alloc (.cells #[.int .u8 k.toNat, .int .i64 (e : Int), .int .i64 (q : Int), .string d] 69)).cell? ⟨w.heap.size, 3, none⟩ = some (.string d) := by simp
  have Hb3 := hide hb
  have HB := hide (fun W => byte_ok (k.toNat : Int) W (by omega) (by have := k.toNat_lt; omega))
  have hkk : UInt8.ofNat ((k.toNat : Int)).toNat = k := by rw [Int.toNat_natCast]; simp
  rw [hkk] at HB
  have HX := hide (fun W => numText_ok e W (by omega))
  have HY := hide (fun W => numText_ok q W (by omega))
  have HZ := hide (fun W => counted_ok d W hd)
  have hbody : str [k] ++ str (Go.Num.enc e) ++ str (Go.Num.enc q) ++ str (Go.Num.enc d.size ++ d.data.toList) = str (bodyF ⟨k, (e : Int), (q : Int), d⟩) := by
    rw [str_app, str_app, str_app]
    simp [bodyF]
  have lx := Go.Num.enc_length_le e
  have ly := Go.Num.enc_length_le q
  have lz := Go.Num.enc_length_le d.size
  have s0 : (str [k]).size = 1 := by rw [str_len]; rfl
  have s1 : (str (Go.Num.enc e)).size ≤ 6 := by rw [str_len]; exact lx
  have s2 : (str (Go.Num.enc q)).size ≤ 6 := by rw [str_len]; exact ly
  have s3 : (str (Go.Num.enc d.size ++ d.data.toList)).size ≤ 20006 := by rw [str_len, List.length_append, lenL]; omega
  have HS := hide (fun W => sumOf_ok (str (bodyF ⟨k, (e : Int), (q : Int), d⟩)) W (by rw [← hbody, ByteArray.size_append, ByteArray.size_append, ByteArray.size_append]; omega))
  rw [strL] at HS
  have hcl := Go.Crc.crc_lt 0 (bodyF ⟨k, (e : Int), (q : Int), d⟩) (by decide)
  have HL := hide (fun W => low_ok (Go.Crc.crc 0 (bodyF ⟨k, (e : Int), (q : Int), d⟩)) W hcl)
  have Hfin : Hid (str (bodyF ⟨k, (e : Int), (q : Int), d⟩) ++ str (low4 (Go.Crc.crc 0 (bodyF ⟨k, (e : Int), (q : Int), d⟩))) = str (encF ⟨k, (e : Int), (q : Int), d⟩)) := str_app _ _
  have s4 : (str (low4 (Go.Crc.crc 0 (bodyF ⟨k, (e : Int), (q : Int), d⟩)))).size = 4 := by rw [str_len]; rfl
  have s5 : (str (bodyF ⟨k, (e : Int), (q : Int), d⟩)).size ≤ 20019 := by rw [← hbody, ByteArray.size_append, ByteArray.size_append, ByteArray.size_append]; omega
  rw [← hbody] at HS Hfin s5
  generalize str (low4 (Go.Crc.crc 0 (bodyF ⟨k, (e : Int), (q : Int), d⟩))) = L at *
  generalize Go.Crc.crc 0 (bodyF ⟨k, (e : Int), (q : Int), d⟩) = c at *
  generalize str (encF ⟨k, (e : Int), (q : Int), d⟩) = E at *
  generalize str [k] = S0 at *
  generalize str (Go.Num.enc e) = S1 at *
  generalize str (Go.Num.enc q) = S2 at *
  generalize str (Go.Num.enc d.size ++ d.data.toList) = S3 at *
  have p1 := fun W => run_string_add_sum (P := Tryd.prog) W S0 S1 (by omega)
  have p2 := fun W => run_string_add_sum (P := Tryd.prog) W (S0 ++ S1) S2 (by rw [ByteArray.size_append]; omega)
  have p3 := fun W => run_string_add_sum (P := Tryd.prog) W (S0 ++ S1 ++ S2) S3 (by rw [ByteArray.size_append, ByteArray.size_append]; omega)
  have p4 := fun W => run_string_add_sum (P := Tryd.prog) W (S0 ++ S1 ++ S2 ++ S3) L (by omega)
  have hkw : IntKind.i64.wrap (k.toNat : Int) = (k.toNat : Int) := iwrap_id _ (by omega) (by omega)
  clear hbody hkk lx ly lz s0 s1 s2 s3 s4 s5 hb hk he hq hd hf
  simp only [frV]
  go_enter Tryd.func39, Tryd.ntmps39
  go_wp2_with fail
  generalize (w.alloc (.cells #[.int .u8 k.toNat, .int .i64 (e : Int), .int .i64 (q : Int), .string d] 69)) = w3 at *
  generalize k.toNat = n at *
  go_region_held3 (fun w' => Hid (Below w.heap.size w w') ∧ w'.cell? ⟨w.heap.size, 0, none⟩ = some (.int .u8 (n : Int)) ∧ w'.cell? ⟨w.heap.size, 1, none⟩ = some (.int .i64 (e : Int)) ∧ w'.cell? ⟨w.heap.size, 2, none⟩ = some (.int .i64 (q : Int)) ∧ w'.cell? ⟨w.heap.size, 3, none⟩ = some (.string d)) (first | exact ⟨Hb7, h0, h1, h2, h3⟩ | exact ⟨Hb6, g0, g1, g2, g3⟩ | exact ⟨Hb5, f0, f1, f2, f3⟩ | exact ⟨Hb4, e0, e1, e2, e3⟩ | exact ⟨Hb3.out.drew, d0, d1, d2, d3⟩)
    (first
      | (go_at_call 68; refine (HZ.out _).mono ?_; rintro r w7 ⟨rfl, hb7⟩; have h0 : w7.cell? ⟨w.heap.size, 0, none⟩ = some (.int .u8 (n : Int)) := (hb7.cell (World.block_lt_of_cell? w6 _ g0)).trans g0; have h1 : w7.cell? ⟨w.heap.size, 1, none⟩ = some (.int .i64 (e : Int)) := (hb7.cell (World.block_lt_of_cell? w6 _ g1)).trans g1; have h2 : w7.cell? ⟨w.heap.size, 2, none⟩ = some (.int .i64 (q : Int)) := (hb7.cell (World.block_lt_of_cell? w6 _ g2)).trans g2; have h3 : w7.cell? ⟨w.heap.size, 3, none⟩ = some (.string d) := (hb7.cell (World.block_lt_of_cell? w6 _ g3)).trans g3; have Hb7 := hide (bthen Hb6.out hb7); clear hb7)
      | (go_at_call_of 67 q; refine (HY.out _).mono ?_; rintro r w6 ⟨rfl, hb6⟩; have g0 : w6.cell? ⟨w.heap.size, 0, none⟩ = some (.int .u8 (n : Int)) := (hb6.cell (World.block_lt_of_cell? w5 _ f0)).trans f0; have g1 : w6.cell? ⟨w.heap.size, 1, none⟩ = some (.int .i64 (e : Int)) := (hb6.cell (World.block_lt_of_cell? w5 _ f1)).trans f1; have g2 : w6.cell? ⟨w.heap.size, 2, none⟩ = some (.int .i64 (q : Int)) := (hb6.cell (World.block_lt_of_cell? w5 _ f2)).trans f2; have g3 : w6.cell? ⟨w.heap.size, 3, none⟩ = some (.string d) := (hb6.cell (World.block_lt_of_cell? w5 _ f3)).trans f3; have Hb6 := hide (bthen Hb5.out hb6); clear hb6)
      | (go_at_call_of 67 e; refine (HX.out _).mono ?_; rintro r w5 ⟨rfl, hb5⟩; have f0 : w5.cell? ⟨w.heap.size, 0, none⟩ = some (.int .u8 (n : Int)) := (hb5.cell (World.block_lt_of_cell? w4 _ e0)).trans e0; have f1 : w5.cell? ⟨w.heap.size, 1, none⟩ = some (.int .i64 (e : Int)) := (hb5.cell (World.block_lt_of_cell? w4 _ e1)).trans e1; have f2 : w5.cell? ⟨w.heap.size, 2, none⟩ = some (.int .i64 (q : Int)) := (hb5.cell (World.block_lt_of_cell? w4 _ e2)).trans e2; have f3 : w5.cell? ⟨w.heap.size, 3, none⟩ = some (.string d) := (hb5.cell (World.block_lt_of_cell? w4 _ e3)).trans e3; have Hb5 := hide (bthen Hb4.out hb5); clear hb5)
      | (go_at_call 66; refine (HB.out _).mono ?_; rintro r w4 ⟨rfl, hb4⟩; have e0 : w4.cell? ⟨w.heap.size, 0, none⟩ = some (.int .u8 (n : Int)) := (hb4.cell (World.block_lt_of_cell? w3 _ d0)).trans d0; have e1 : w4.cell? ⟨w.heap.size, 1, none⟩ = some (.int .i64 (e : Int)) := (hb4.cell (World.block_lt_of_cell? w3 _ d1)).trans d1; have e2 : w4.cell? ⟨w.heap.size, 2, none⟩ = some (.int .i64 (q : Int)) := (hb4.cell (World.block_lt_of_cell? w3 _ d2)).trans d2; have e3 : w4.cell? ⟨w.heap.size, 3, none⟩ = some (.string d) := (hb4.cell (World.block_lt_of_cell? w3 _ d3)).trans d3; have Hb4 := hide (bthen Hb3.out.drew hb4); clear hb4))
  all_goals
    clear d0 d1 d2 d3 e0 e1 e2 e3 f0 f1 f2 f3 g0 g1 g2 g3 h0 h1 h2 h3
    go_wp2_with fail
    refine (HS.out _).mono ?_
    rintro r w8 ⟨rfl, rfl⟩
    go_wp2_with fail
    refine (HL.out _).mono ?_
    rintro r w9 ⟨rfl, hb9⟩
    have Hb9 := hide (bthen Hb7.out hb9)
    clear hb9
    go_wp2_with fail
    go_ret
    exact ⟨by rw [← Hfin.out]; rfl, Hb9.out⟩
end Go.Proofs.YtlmampcdflbifadDoor

namespace Go.Proofs.YtlmampcdflbifadDoor
open Go.ChangeShapes Go.WideShapes Go.ChangeAt Go.RowKit
open Go.Frame (Fr)

theorem Tryd.fracells69 : Tryd.prog.cellsOf 69 = 4 := by kernel_rfl
set_option maxRecDepth 100000 in
theorem frarg {H : Type} {enc : TypeId × Value → H} {W : World} {r : Reach} {base b0 : Nat} {spare : Nat → Bool} {held : Bool} {v : Value} {d : DataW H} {p : List MemPlace}
    (hv : Value.okWide Tryd.prog W r b0 69 v) (h : DataW.Trod enc Tryd.prog W base spare held 69 v d p) : ∃ f : Fr, v = frV f := by
  obtain ⟨v0, v1, v2, v3, y0, y1, y2, y3, n, rfl, rfl, rfl, h0, h1, h2, h3⟩ := Go.Joins.open_agg4 Tryd.underlying69 (by kernel_rfl) Tryd.fracells69 hv h
  obtain ⟨n0, e0, _, w0⟩ := DataW.trod_int Tryd.underlying5 h0
  obtain ⟨n1, e1, _, _⟩ := DataW.trod_int Tryd.underlying3 h1
  obtain ⟨n2, e2, _, _⟩ := DataW.trod_int Tryd.underlying3 h2
  obtain ⟨z, e3, _, _⟩ := DataW.trod_string Tryd.underlying9 h3
  simp only [List.cons.injEq, and_true] at e0 e1 e2 e3
  subst e0 e1 e2 e3
  obtain ⟨k, hk⟩ : ∃ k : UInt8, (k.toNat : Int) = n0 := by
    simp [Lit.wf] at w0
    rw [show IntKind.u8.min = 0 from rfl, show IntKind.u8.max = 255 from rfl] at w0
    exact ⟨UInt8.ofNat n0.toNat, by rw [UInt8.toNat_ofNat']; omega⟩
  exact ⟨⟨k, n1, n2, z⟩, by rw [← hk]⟩
end Go.Proofs.YtlmampcdflbifadDoor

namespace Go.Proofs.YtlmampcdflbifadDoor
open Go.RowKit

theorem dec_num {s : List UInt8} {n k : Nat} (h : Go.Num.dec s = .ok (n, k)) : n ≤ 1099511627776 ∧ 1 ≤ k ∧ k ≤ s.length := by
  have hs : ∀ (f : Nat) (l : List UInt8) (acc i n j : Nat), Go.Num.scan f l acc i = some (n, j) → j < i + l.length := by
    intro f
    induction f with
    | zero => intro l acc i n j h; cases h
    | succ f ih =>
      intro l acc i n j h
      cases l with
      | nil => cases h
      | cons b r =>
        rw [Go.Num.scan] at h
        split at h
        · cases h; simp
        · have := ih _ _ _ _ _ h; simp; omega
  unfold Go.Num.dec at h
  split at h
  · cases h
  · rename_i n' i hsc
    split at h
    · cases h
    · split at h
      · cases h
      · cases h
        have := hs _ _ _ _ _ _ hsc
        omega
end Go.Proofs.YtlmampcdflbifadDoor

namespace Go.Proofs.YtlmampcdflbifadDoor
open Go.RowKit
open Go.Delta (txt)

theorem num_dropD {L : List UInt8} {x n k : Nat} (h : Go.Num.dec (L.drop x) = .ok (n, k)) : Go.Sign.num (L.drop x) = .ok (n, L.drop (x + k)) := by
  rw [Go.Sign.num, h]
  simp [List.drop_drop]
theorem num_dropED {L : List UInt8} {x c : Nat} (h : Go.Num.dec (L.drop x) = .error c) : Go.Sign.num (L.drop x) = .error c := by
  rw [Go.Sign.num, h]
theorem numOf_errD (s : ByteArray) (x c : Nat) (w : World) (hs : s.size ≤ 1000000) (hx : x ≤ s.size) (h : Go.Num.dec (s.data.toList.drop x) = .error c) :
    Calls Tryd.prog 72 #[.string s, .int .i64 x] w fun r w' => r = .returned (.tuple #[.int .i64 0, .int .i64 x, .int .i64 c]) ∧ w' = w := by
  have := numOf_ok s x w hs hx
  rw [numOfOut, h] at this
  exact this
theorem numOf_numD (s : ByteArray) (x n k : Nat) (w : World) (hs : s.size ≤ 1000000) (hx : x ≤ s.size) (h : Go.Num.dec (s.data.toList.drop x) = .ok (n, k)) :
    Calls Tryd.prog 72 #[.string s, .int .i64 x] w fun r w' => r = .returned (.tuple #[.int .i64 n, .int .i64 ((x + k : Nat) : Int), .int .i64 0]) ∧ w' = w := by
  have := numOf_ok s x w hs hx
  rw [numOfOut, h] at this
  exact this
/-- What TextOf answers is the text at that place. -/
theorem txt_of (s : ByteArray) (x : Nat) (hx : x ≤ s.size) :
    (∃ d y, textOfOut s x = (d, y, 0) ∧ x < y ∧ y ≤ s.size ∧ d.size ≤ s.size ∧ txt (s.data.toList.drop x) = .ok (d.data.toList, s.data.toList.drop y)) ∨
    (∃ d y c, textOfOut s x = (d, y, c) ∧ (c = 1 ∨ c = 2) ∧ txt (s.data.toList.drop x) = .error c) := by
  unfold textOfOut numOfOut
  cases h : Go.Num.dec (s.data.toList.drop x) with
  | error c =>
    have hc := dec_err _ _ h
    right
    refine ⟨ByteArray.empty, x, c, ?_, hc, ?_⟩
    · simp only
      rw [if_pos (by omega)]
    · rw [txt, Go.Sign.num, h]
  | ok p =>
    obtain ⟨n, k⟩ := p
    have hd := dec_num h
    rw [List.length_drop, lenL] at hd
    have e : txt (s.data.toList.drop x) = if 20000 < n then .error 2 else if s.size - (x + k) < n then .error 1 else .ok ((s.data.toList.drop (x + k)).take n, s.data.toList.drop (x + k + n)) := by
      rw [txt, num_dropD h]
      simp only [List.length_drop, lenL, List.drop_drop]
    rw [e]
    simp only
    rw [if_neg (by omega)]
    by_cases h1 : 20000 < n
    · right
      rw [if_pos h1, if_pos h1]
      exact ⟨_, _, 2, rfl, Or.inr rfl, rfl⟩
    · rw [if_neg h1, if_neg h1]
      by_cases h2 : s.size - (x + k) < n
      · right
        rw [if_pos h2, if_pos h2]
        exact ⟨_, _, 1, rfl, Or.inl rfl, rfl⟩
      · left
        rw [if_neg h2, if_neg h2]
        refine ⟨_, _, rfl, by omega, by omega, by rw [ByteArray.size_extract]; omega, ?_⟩
        rw [extractL, show x + k + n - (x + k) = n by omega]
end Go.Proofs.YtlmampcdflbifadDoor
