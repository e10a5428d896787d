/-
  What is said of a disk behind a pointer; contracts of package tape's NewDisk, Cut, On, Power, Bytes.
-/
import Derived.Test.YtledipmimfphdaaDoorTapeMath
import Derived.Test.YtledipmimfphdaaDoorSepByte
import Derived.Test.YtledipmimfphdaaDoorTkErr
namespace Go.Proofs.YtledipmimfphdaaDoor
open Go.RowKit
open Go.Tape

/-- A disk's cells at a block. -/
def Tk4 (p : Nat) (x : Value) (o c : Bool) (n : Int) : Fam := CellsF p 52 [x, .bool o, .bool c, .int .i64 n]
section
variable {M0 : Foot} {w0 w : World} {p : Nat} {x : Value} {o c : Bool} {n : Int} {L : List Fam}
theorem Tk4.cells (h : Sep M0 w0 (Tk4 p x o c n :: L) w) :
    (w.cell? ⟨p, 0, none⟩ = some x ∧ w.cell? ⟨p, 1, none⟩ = some (.bool o) ∧ w.cell? ⟨p, 2, none⟩ = some (.bool c) ∧ w.cell? ⟨p, 3, none⟩ = some (.int .i64 n)) ∧
    w.frozen? ⟨p, 0, none⟩ = false ∧ w.frozen? ⟨p, 1, none⟩ = false ∧ w.frozen? ⟨p, 2, none⟩ = false ∧ w.frozen? ⟨p, 3, none⟩ = false := by
  have h' : Sep M0 w0 (CellsF p _ _ :: L) w := h
  exact ⟨⟨(h'.cell 0).1, (h'.cell 1).1, (h'.cell 2).1, (h'.cell 3).1⟩, (h'.cell 0).2, (h'.cell 1).2, (h'.cell 2).2, (h'.cell 3).2⟩
theorem Tk4.set0 (h : Sep M0 w0 (Tk4 p x o c n :: L) w) (y : Value) : Sep M0 w0 (Tk4 p y o c n :: L) (w.setCell ⟨p, 0, none⟩ y) := by
  have h' : Sep M0 w0 (CellsF p _ _ :: L) w := h
  have h2 := h'.set 0 y
  simp only [List.set_cons_zero] at h2
  exact h2
theorem Tk4.set1 (h : Sep M0 w0 (Tk4 p x o c n :: L) w) (y : Bool) : Sep M0 w0 (Tk4 p x y c n :: L) (w.setCell ⟨p, 1, none⟩ (.bool y)) := by
  have h' : Sep M0 w0 (CellsF p _ _ :: L) w := h
  have h2 := h'.set 1 (.bool y)
  simp only [List.set_cons_zero, List.set_cons_succ] at h2
  exact h2
theorem Tk4.set2 (h : Sep M0 w0 (Tk4 p x o c n :: L) w) (y : Bool) : Sep M0 w0 (Tk4 p x o y n :: L) (w.setCell ⟨p, 2, none⟩ (.bool y)) := by
  have h' : Sep M0 w0 (CellsF p _ _ :: L) w := h
  have h2 := h'.set 2 (.bool y)
  simp only [List.set_cons_zero, List.set_cons_succ] at h2
  exact h2
theorem Tk4.set3 (h : Sep M0 w0 (Tk4 p x o c n :: L) w) (y : Int) : Sep M0 w0 (Tk4 p x o c y :: L) (w.setCell ⟨p, 3, none⟩ (.int .i64 y)) := by
  have h' : Sep M0 w0 (CellsF p _ _ :: L) w := h
  have h2 := h'.set 3 (.int .i64 y)
  simp only [List.set_cons_zero, List.set_cons_succ] at h2
  exact h2
end
/-- What a disk's fields say of a cut that waits. -/
def tkOk (d : Tp) (c : Bool) (n : Int) : Prop := d.cut ≤ 9223372036854775807 ∧ (d.off = true ∨ (0 ≤ d.cut ∧ c = true ∧ n = d.cut) ∨ (d.cut < 0 ∧ c = false))
def tkL (d : Tp) (i : (Nat × Value) × (Bool × Int)) : List Fam := [Tk4 i.1.1 i.1.2 d.off i.2.1 i.2.2, ByF i.1.2 d.b.data.toList]
/-- A disk behind a pointer. -/
def TkO (v : Value) (d : Tp) : Fam := Pack (fun i : {i : (Nat × Value) × (Bool × Int) // v = .pointer (some ⟨i.1.1, 0, none⟩) ∧ tkOk d i.2.1 i.2.2} => tkL d i.1)
theorem TkO.open {M0 : Foot} {w0 w : World} {v : Value} {d : Tp} {L : List Fam} (h : Sep M0 w0 (TkO v d :: L) w) :
    ∃ p x c n, v = .pointer (some ⟨p, 0, none⟩) ∧ tkOk d c n ∧ Sep M0 w0 (Tk4 p x d.off c n :: ByF x d.b.data.toList :: L) w := by
  obtain ⟨⟨⟨⟨p, x⟩, c, n⟩, hv, hd⟩, hS⟩ := h.unpack
  exact ⟨p, x, c, n, hv, hd, hS⟩
theorem TkO.shut {M0 : Foot} {w0 w : World} {d : Tp} {L : List Fam} {p : Nat} {x : Value} {c : Bool} {n : Int} (hd : tkOk d c n) (h : Sep M0 w0 (Tk4 p x d.off c n :: ByF x d.b.data.toList :: L) w) : Sep M0 w0 (TkO (.pointer (some ⟨p, 0, none⟩)) d :: L) w :=
  Sep.pack (f := fun i : {i : (Nat × Value) × (Bool × Int) // Value.pointer (some ⟨p, 0, none⟩) = .pointer (some ⟨i.1.1, 0, none⟩) ∧ tkOk d i.2.1 i.2.2} => tkL d i.1) ⟨((p, x), c, n), rfl, hd⟩ h

set_option maxHeartbeats 1000000 in
set_option maxRecDepth 100000 in
theorem tkNew_ok (b : ByteArray) (W : World) (hb : b.size ≤ 1000000) : Tri Tryd.prog 7 #[.string b] [] (fun e L => ∃ q, e = .returned (.tuple #[.pointer (some q), .nilIface]) ∧ L = [TkO (.pointer (some q)) ⟨b, false, -1⟩]) W := by
  intro M hM
  obtain ⟨g, cap, w1, hr, hg, hS⟩ := (Sep.of_star hM).bytesOf (P := Tryd.prog) 9 50 5 b Tryd.underlying9 Tryd.underlying50 Tryd.underlying5 (by omega)
  have HS := hide (TkO.shut (d := ⟨b, false, -1⟩) (c := false) (n := 0) ⟨by simp only; omega, .inr (.inr ⟨by simp only; omega, rfl⟩)⟩ (hS.fresh 52 [.slice (some ⟨g, 0, none⟩) b.size cap, .bool false, .bool false, .int .i64 0]))
  have hb' : (b.size : Int) ≤ 1000000 := by omega
  clear hS hM hg
  go_enter Tryd.func7, Tryd.ntmps7
  go_wp2_with fail
  go_ret2
  exact ⟨_, ⟨_, rfl, rfl⟩, HS.out⟩

set_option maxHeartbeats 1000000 in
set_option maxRecDepth 100000 in
theorem tkCut_ok {a : Nat → Addr} (v : Value) (d : Tp) (n : Int) (W : World) (hE : TkErrs W a) (hn : n ≤ 9223372036854775807) : Tri Tryd.prog 8 #[v, .int .i64 n] [TkO v d] (fun e L => e = .returned (errA a (d.cutE n)) ∧ L = [TkO v (d.set n)]) W := by
  intro M hM
  have HS := hide (Sep.of_star hM)
  obtain ⟨p, x, c, m, rfl, hd, hS⟩ := TkO.open HS.out
  obtain ⟨⟨c0, c1, c2, c3⟩, f0, f1, f2, f3⟩ := Tk4.cells hS
  have hs2 := Tk4.set2 hS true
  obtain ⟨⟨e0, e1, e2, e3⟩, i0, i1, i2, i3⟩ := Tk4.cells hs2
  have HN := hide (Tk4.set3 hs2 n)
  have g1 := hE.c1
  have g11 := hE.c11
  have hC : d.cutE n = if n < 0 then 2 else if d.off = true then 12 else 0 := rfl
  have hT : d.set n = if n < 0 ∨ d.off = true then d else ⟨d.b, d.off, n⟩ := rfl
  rw [hC, hT]
  clear hM hC hT hE hs2 hS hd
  by_cases h1 : n < 0
  · rw [if_pos h1, if_pos (.inl h1)]
    go_enter Tryd.func8, Tryd.ntmps8
    go_wp2_with fail
    go_ret
    exact ⟨_, ⟨rfl, rfl⟩, HS.out⟩
  · have h1' : 0 ≤ n := by omega
    cases h2 : d.off with
    | true =>
      rw [h2] at c1
      rw [if_neg h1, if_pos rfl, if_pos (.inr rfl)]
      go_enter Tryd.func8, Tryd.ntmps8
      go_wp2_with fail
      go_ret
      exact ⟨_, ⟨rfl, rfl⟩, HS.out⟩
    | false =>
      rw [h2] at c1 HN
      rw [if_neg h1, if_neg (by simp), if_neg (by simp [h1])]
      go_enter Tryd.func8, Tryd.ntmps8
      go_wp2_with fail
      go_ret
      exact ⟨_, ⟨rfl, rfl⟩, TkO.shut (d := ⟨d.b, false, n⟩) ⟨hn, .inr (.inl ⟨h1', rfl, rfl⟩)⟩ HN.out⟩

set_option maxHeartbeats 1000000 in
set_option maxRecDepth 100000 in
theorem tkOn_ok (v : Value) (d : Tp) (W : World) : Tri Tryd.prog 18 #[v] [TkO v d] (fun e L => e = .returned (.tuple #[]) ∧ L = [TkO v d.on]) W := by
  intro M hM
  obtain ⟨p, x, c, m, rfl, hd, hS⟩ := TkO.open (Sep.of_star hM)
  obtain ⟨⟨c0, c1, c2, c3⟩, f0, f1, f2, f3⟩ := Tk4.cells hS
  have hs2 := Tk4.set1 hS false
  obtain ⟨⟨e0, e1, e2, e3⟩, i0, i1, i2, i3⟩ := Tk4.cells hs2
  have HN := hide (TkO.shut (d := d.on) ⟨by show (-1 : Int) ≤ _; omega, .inr (.inr ⟨by show (-1 : Int) < 0; omega, rfl⟩)⟩ (Tk4.set2 hs2 false))
  clear hM hs2 hS hd
  go_enter Tryd.func18, Tryd.ntmps18
  go_wp2_with fail
  go_end0
  exact ⟨_, ⟨rfl, rfl⟩, HN.out⟩

set_option maxHeartbeats 1000000 in
set_option maxRecDepth 100000 in
theorem tkPower_ok (v : Value) (d : Tp) (W : World) : Tri Tryd.prog 12 #[v] [TkO v d] (fun e L => e = .returned (.bool (!d.off)) ∧ L = [TkO v d]) W := by
  intro M hM
  have HS := hide (Sep.of_star hM)
  obtain ⟨p, x, c, m, rfl, hd, hS⟩ := TkO.open HS.out
  obtain ⟨⟨c0, c1, c2, c3⟩, f0, f1, f2, f3⟩ := Tk4.cells hS
  clear hM hS hd
  go_enter Tryd.func12, Tryd.ntmps12
  go_wp2_with fail
  go_ret
  exact ⟨_, ⟨rfl, rfl⟩, HS.out⟩

set_option maxHeartbeats 1000000 in
set_option maxRecDepth 100000 in
theorem tkBytes_ok (v : Value) (d : Tp) (W : World) : Tri Tryd.prog 14 #[v] [TkO v d] (fun e L => e = .returned (.string d.b) ∧ L = [TkO v d]) W := by
  intro M hM
  have HS := hide (Sep.of_star hM)
  obtain ⟨p, x, c, m, rfl, hd, hS⟩ := TkO.open HS.out
  obtain ⟨⟨c0, c1, c2, c3⟩, f0, f1, f2, f3⟩ := Tk4.cells hS
  obtain ⟨g, cap, rfl, hcap⟩ := hS.sw.bytes
  have hr := hS.sw.bytesText (P := Tryd.prog) 50 9 5 Tryd.underlying50 Tryd.underlying5 Tryd.underlying9
  rw [show str d.b.data.toList = d.b from rfl] at hr
  generalize d.b.data.toList.length = k at *
  clear hM hS hd
  go_enter Tryd.func14, Tryd.ntmps14
  go_wp2_with fail
  go_ret
  exact ⟨_, ⟨rfl, rfl⟩, HS.out⟩
end Go.Proofs.YtledipmimfphdaaDoor
