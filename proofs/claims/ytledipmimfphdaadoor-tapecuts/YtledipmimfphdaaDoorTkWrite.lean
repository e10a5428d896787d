/-
  Contracts of package tape's spend, write, Append.
-/
import Derived.Test.YtledipmimfphdaaDoorTkDef
import Derived.Test.YtledipmimfphdaaDoorTkFirst
namespace Go.Proofs.YtledipmimfphdaaDoor
open Go.RowKit
open Go.Tape

theorem Tryd.infoTkB : (Tryd.prog.info? 5).map (fun i => (i.zero, i.size, i.bytes)) = some (some (.int .u8 0), 1, 1) := by kernel_rfl

/-- How many bytes there is power for; is it off behind them; what is left. -/
def spent (c : Bool) (m : Int) (n : Nat) : Int × Bool × Int := if c = false then (n, false, m) else if m < n then (m, true, 0) else (n, false, m - n)

set_option maxHeartbeats 1000000 in
set_option maxRecDepth 100000 in
theorem tkSpend_ok {M0 : Foot} {w0 W : World} {L : List Fam} {p : Nat} {x : Value} {c : Bool} {m : Int} (n : Nat) (hS : Sep M0 w0 (Tk4 p x false c m :: L) W) (hn : n ≤ 2000000) (h0 : c = true → 0 ≤ m ∧ m ≤ 9223372036854775807) :
    Calls Tryd.prog 27 #[.pointer (some ⟨p, 0, none⟩), .int .i64 n] W fun r w' => r = .returned (.int .i64 (spent c m n).1) ∧ Sep M0 w0 (Tk4 p x (spent c m n).2.1 c (spent c m n).2.2 :: L) w' := by
  obtain ⟨⟨c0, c1, c2, c3⟩, f0, f1, f2, f3⟩ := Tk4.cells hS
  have HS := hide hS
  cases c with
  | false =>
    have hs : spent false m n = ((n : Int), false, m) := by unfold spent; rw [if_pos rfl]
    rw [hs]
    clear hS hs
    go_enter Tryd.func27, Tryd.ntmps27
    go_wp2_with fail
    go_ret
    exact ⟨rfl, HS.out⟩
  | true =>
    obtain ⟨h1, hm⟩ := h0 rfl
    by_cases hlt : m < n
    · have hs : spent true m n = (m, true, 0) := by unfold spent; rw [if_neg (by simp), if_pos hlt]
      have hs2 := Tk4.set1 hS true
      obtain ⟨⟨e0, e1, e2, e3⟩, i0, i1, i2, i3⟩ := Tk4.cells hs2
      have HN := hide (Tk4.set3 hs2 0)
      have hw : IntKind.i64.wrap (m - m) = 0 := by rw [iwrap_id _ (by omega) (by omega)]; omega
      rw [hs]
      clear hS hs hs2 HS h0
      go_enter Tryd.func27, Tryd.ntmps27
      go_wp2_with fail
      go_ret
      exact ⟨rfl, HN.out⟩
    · have hs : spent true m n = ((n : Int), false, m - n) := by unfold spent; rw [if_neg (by simp), if_neg hlt]
      have hlt' : (n : Int) ≤ m := by omega
      have HN := hide (Tk4.set3 hS (m - n))
      have hw : IntKind.i64.wrap (m - n) = m - n := iwrap_id _ (by omega) (by omega)
      rw [hs]
      clear hS hs HS h0
      go_enter Tryd.func27, Tryd.ntmps27
      go_wp2_with fail
      go_ret
      exact ⟨rfl, HN.out⟩


set_option maxHeartbeats 2000000 in
set_option maxRecDepth 100000 in
theorem tkWrite_main {a : Nat → Addr} {M0 : Foot} {w0 W : World} {L : List Fam} {p g cap : Nat} {c : Bool} {m : Int} (bs : List UInt8) (r : ByteArray) (k : Nat) (ob : Bool) (m' : Int) (hE : ∀ L' w', Sep M0 w0 L' w' → TkErrs w' a)
    (hS : Sep M0 w0 (Tk4 p (.slice (some ⟨g, 0, none⟩) bs.length cap) false c m :: ByF (.slice (some ⟨g, 0, none⟩) bs.length cap) bs :: L) W)
    (hd : bs.length + r.size ≤ 1048576) (h0 : c = true → 0 ≤ m ∧ m ≤ 9223372036854775807) (hsp : spent c m r.size = ((k : Int), ob, m')) (hk : k ≤ r.size) :
    Calls Tryd.prog 21 #[.pointer (some ⟨p, 0, none⟩), .string r] W fun e w' => e = .returned (errA a (if ob then 12 else 0)) ∧ ∃ x', Sep M0 w0 (Tk4 p x' ob c m' :: ByF x' (bs ++ r.data.toList.take k) :: L) w' := by
  obtain ⟨i0, hi, hz0, hz1, hz2⟩ := info_parts Tryd.infoTkB
  obtain ⟨⟨c0, c1, c2, c3⟩, f0, f1, f2, f3⟩ := Tk4.cells hS
  have HP := hide (tkSpend_ok r.size hS (by omega) h0)
  rw [hsp] at HP
  simp only at HP
  have hw : IntKind.i64.wrap ((1048576 : Int) - bs.length) = 1048576 - bs.length := iwrap_id _ (by omega) (by omega)
  have h1' : (r.size : Int) ≤ 1048576 - bs.length := by omega
  have hxs : (r.extract 0 k).data.toList = r.data.toList.take k := by rw [extractL]; simp
  have hxl : (r.extract 0 k).size = k := by rw [← lenL, hxs, List.length_take, lenL]; omega
  have k0 : (0 : Int) ≤ k := by omega
  have k1 : (k : Int) ≤ r.size := by omega
  have HE := hide hE
  have Hl : Hid (bs.length + (r.extract 0 k).size ≤ 100000000) := by show _ ≤ _; omega
  have Hxl := hide hxl
  have Hxs := hide hxs
  clear hS hsp hE hxs hxl
  cases ob with
  | true =>
    go_enter Tryd.func21, Tryd.ntmps21
    go_wp2_with fail
    refine HP.out.mono ?_
    rintro e w1 ⟨rfl, hs1⟩
    obtain ⟨⟨d0, d1, d2, d3⟩, j0, j1, j2, j3⟩ := Tk4.cells hs1
    have HS1 := hide hs1.sw
    have HF := hide (fun (y : Value) (bs' : List UInt8) w' (q : Sep M0 w0 (Tk4 p (.slice (some ⟨g, 0, none⟩) bs.length cap) true c m' :: ByF y bs' :: L) w') => Tk4.set0 q y)
    clear HP hs1 c0 c1 c2 c3 f0 f1 f2 f3
    go_wp2_with fail
    go_region_law (refine region_append_bytes rfl (.tmp 29) (.tmp 32) 50 9 rfl 5 i0 Tryd.underlying50 Tryd.underlying9 hi hz0 hz1 hz2 _ _ (by simp [Act.eval]) HS1.out.drew (r.extract 0 k) (by simp [Act.eval]) Hl.out ?_; intro g5 c5 w5 hs5; rw [Hxl.out, Hxs.out] at hs5; obtain ⟨⟨q0, q1, q2, q3⟩, t0, t1, t2, t3⟩ := Tk4.cells hs5.sw; have HS6 := hide (HF.out _ _ _ hs5.sw); clear hs5)
    all_goals
      have e11 := (HE.out _ _ HS6.out).c11
      obtain ⟨⟨y0, y1, y2, y3⟩, z0, z1, z2, z3⟩ := Tk4.cells HS6.out
      clear HS1 HF HE
      go_wp2_with fail
      go_ret
      exact ⟨rfl, _, HS6.out⟩
  | false =>
    go_enter Tryd.func21, Tryd.ntmps21
    go_wp2_with fail
    refine HP.out.mono ?_
    rintro e w1 ⟨rfl, hs1⟩
    obtain ⟨⟨d0, d1, d2, d3⟩, j0, j1, j2, j3⟩ := Tk4.cells hs1
    have HS1 := hide hs1.sw
    have HF := hide (fun (y : Value) (bs' : List UInt8) w' (q : Sep M0 w0 (Tk4 p (.slice (some ⟨g, 0, none⟩) bs.length cap) false c m' :: ByF y bs' :: L) w') => Tk4.set0 q y)
    clear HP hs1 c0 c1 c2 c3 f0 f1 f2 f3
    go_wp2_with fail
    go_region_law (refine region_append_bytes rfl (.tmp 29) (.tmp 32) 50 9 rfl 5 i0 Tryd.underlying50 Tryd.underlying9 hi hz0 hz1 hz2 _ _ (by simp [Act.eval]) HS1.out.drew (r.extract 0 k) (by simp [Act.eval]) Hl.out ?_; intro g5 c5 w5 hs5; rw [Hxl.out, Hxs.out] at hs5; obtain ⟨⟨q0, q1, q2, q3⟩, t0, t1, t2, t3⟩ := Tk4.cells hs5.sw; have HS6 := hide (HF.out _ _ _ hs5.sw); clear hs5)
    all_goals
      obtain ⟨⟨y0, y1, y2, y3⟩, z0, z1, z2, z3⟩ := Tk4.cells HS6.out
      clear HS1 HF HE
      go_wp2_with fail
      go_ret
      exact ⟨rfl, _, HS6.out⟩

/-- What write makes of a tape and a record. -/
def Tp.wrE (d : Tp) (r : ByteArray) : Nat := if 1048576 < d.b.size + r.size then 8 else if d.off = true then 12 else if 0 ≤ d.cut ∧ d.cut < r.size then 12 else 0
def Tp.wr (d : Tp) (r : ByteArray) : Tp :=
  if 1048576 < d.b.size + r.size ∨ d.off = true then d
  else if 0 ≤ d.cut ∧ d.cut < r.size then ⟨d.b ++ r.extract 0 d.cut.toNat, true, d.cut⟩
  else ⟨d.b ++ r, false, if 0 ≤ d.cut then d.cut - r.size else d.cut⟩
theorem wr_app (d : Tp) (s : ByteArray) (h : ¬ 20000 < s.size) : Tp.wrE d (rec1 s) = d.appE s ∧ Tp.wr d (rec1 s) = d.app s := by
  unfold Tp.wrE Tp.wr Tp.appE Tp.app
  simp only [h, if_false, false_or]
  exact ⟨trivial, trivial⟩

set_option maxHeartbeats 2000000 in
set_option maxRecDepth 100000 in
theorem tkWrite_ok {a : Nat → Addr} {M0 : Foot} {w0 W : World} {L : List Fam} (v : Value) (d : Tp) (r : ByteArray) (h0 : Sep M0 w0 (TkO v d :: L) W) (hE : ∀ L' w', Sep M0 w0 L' w' → TkErrs w' a) (hd : d.b.size ≤ 1048576) (hr : r.size ≤ 1000000) :
    Calls Tryd.prog 21 #[v, .string r] W fun e w' => e = .returned (errA a (Tp.wrE d r)) ∧ Sep M0 w0 (TkO v (Tp.wr d r) :: L) w' := by
  have HS := hide h0
  obtain ⟨p, x, c, m, rfl, hk, hS⟩ := TkO.open HS.out
  obtain ⟨⟨c0, c1, c2, c3⟩, f0, f1, f2, f3⟩ := Tk4.cells hS
  obtain ⟨g, cap, rfl, hcap⟩ := hS.sw.bytes
  have hdl : d.b.data.toList.length = d.b.size := lenL _
  have hE0 := hE _ _ hS
  have g7 := hE0.c7
  have g11 := hE0.c11
  have hC : Tp.wrE d r = if 1048576 < d.b.size + r.size then 8 else if d.off = true then 12 else if 0 ≤ d.cut ∧ d.cut < r.size then 12 else 0 := rfl
  have hT : Tp.wr d r = if 1048576 < d.b.size + r.size ∨ d.off = true then d else if 0 ≤ d.cut ∧ d.cut < r.size then ⟨d.b ++ r.extract 0 d.cut.toNat, true, d.cut⟩ else ⟨d.b ++ r, false, if 0 ≤ d.cut then d.cut - r.size else d.cut⟩ := rfl
  rw [hC, hT]
  rw [hdl] at c0
  have hw : IntKind.i64.wrap ((1048576 : Int) - d.b.size) = 1048576 - d.b.size := iwrap_id _ (by omega) (by omega)
  clear hC hT h0 hE0
  by_cases h1 : 1048576 < d.b.size + r.size
  · have h1' : (1048576 : Int) - d.b.size < r.size := by omega
    rw [if_pos h1, if_pos (.inl h1)]
    clear hS hE
    go_enter Tryd.func21, Tryd.ntmps21
    go_wp2_with fail
    go_ret
    exact ⟨rfl, HS.out⟩
  have h1' : (r.size : Int) ≤ 1048576 - d.b.size := by omega
  cases ho : d.off with
  | true =>
    rw [ho] at c1
    rw [if_neg h1, if_pos rfl, if_pos (.inr rfl)]
    clear hS hE
    go_enter Tryd.func21, Tryd.ntmps21
    go_wp2_with fail
    go_ret
    exact ⟨rfl, HS.out⟩
  | false =>
    rw [ho] at hS
    obtain ⟨hm, hk⟩ := hk
    rw [ho] at hk
    have hk2 := hk.resolve_left (by simp)
    have hn : ¬ (1048576 < d.b.size + r.size ∨ false = true) := fun h => h.elim h1 (fun h => by cases h)
    rw [if_neg h1, if_neg (by simp), if_neg hn]
    clear HS c0 c1 c2 c3 f0 f1 f2 f3 g7 g11 hw hk hn
    rcases hk2 with ⟨q0, rfl, rfl⟩ | ⟨q0, rfl⟩
    · by_cases h4 : d.cut < r.size
      · rw [if_pos ⟨q0, h4⟩, if_pos ⟨q0, h4⟩]
        refine (tkWrite_main d.b.data.toList r d.cut.toNat true 0 hE hS (by omega) (fun _ => ⟨q0, hm⟩) (by unfold spent; rw [if_neg (by simp), if_pos h4]; congr 1; omega) (by omega)).mono ?_
        rintro e w' ⟨rfl, x', hs'⟩
        refine ⟨rfl, TkO.shut (d := ⟨d.b ++ r.extract 0 d.cut.toNat, true, d.cut⟩) (x := x') (c := true) (n := 0) ⟨hm, .inl rfl⟩ ?_⟩
        rw [show (d.b ++ r.extract 0 d.cut.toNat).data.toList = d.b.data.toList ++ r.data.toList.take d.cut.toNat by rw [appendL, extractL]; simp]
        exact hs'
      · rw [if_neg (fun h => h4 h.2), if_neg (fun h => h4 h.2), if_pos q0]
        refine (tkWrite_main d.b.data.toList r r.size false (d.cut - r.size) hE hS (by omega) (fun _ => ⟨q0, hm⟩) (by unfold spent; rw [if_neg (by simp), if_neg h4]) (Nat.le_refl _)).mono ?_
        rintro e w' ⟨rfl, x', hs'⟩
        refine ⟨rfl, TkO.shut (d := ⟨d.b ++ r, false, d.cut - r.size⟩) (x := x') (c := true) (n := d.cut - r.size) ⟨by simp only; omega, .inr (.inl ⟨by simp only; omega, rfl, rfl⟩)⟩ ?_⟩
        rw [show (d.b ++ r).data.toList = d.b.data.toList ++ r.data.toList.take r.size by rw [appendL, List.take_of_length_le (by rw [lenL]; omega)]]
        exact hs'
    · rw [if_neg (by omega), if_neg (by omega), if_neg (by omega)]
      refine (tkWrite_main d.b.data.toList r r.size false m hE hS (by omega) (fun h => by cases h) (by unfold spent; rw [if_pos rfl]) (Nat.le_refl _)).mono ?_
      rintro e w' ⟨rfl, x', hs'⟩
      refine ⟨rfl, TkO.shut (d := ⟨d.b ++ r, false, d.cut⟩) (x := x') (c := false) (n := m) ⟨hm, .inr (.inr ⟨q0, rfl⟩)⟩ ?_⟩
      rw [show (d.b ++ r).data.toList = d.b.data.toList ++ r.data.toList.take r.size by rw [appendL, List.take_of_length_le (by rw [lenL]; omega)]]
      exact hs'
end Go.Proofs.YtledipmimfphdaaDoor
