/-
  Contracts of the reader's methods over this dump.
-/
import Derived.Test.YtgogjncamjbajacDoorDone
namespace Go.Proofs.YtgogjncamjbajacDoor
open Go.RowKit

/-- The reader at block p, with no error, has the text s left. -/
structure RdAt (p : Nat) (w : World) (s : ByteArray) (e : Value) : Prop where
  c0 : w.cell? ⟨p, 0, none⟩ = some (.string s)
  c1 : w.cell? ⟨p, 1, none⟩ = some e
  f0 : w.frozen? ⟨p, 0, none⟩ = false
  f1 : w.frozen? ⟨p, 1, none⟩ = false
  lt : p < w.heap.size

theorem newR_ok (s : ByteArray) (w : World) : Calls Tryd.prog 36 #[.string s] w fun e w' => e = .returned (.pointer (some ⟨w.heap.size, 0, none⟩)) ∧ w.alloc (.cells #[.string s, .nilIface] 94) = w' := by
  go_enter Tryd.func36, Tryd.ntmps36
  go_wp2
  go_ret
  exact ⟨rfl, rfl⟩

theorem RdAt.fresh (w : World) (s : ByteArray) : RdAt w.heap.size (w.alloc (.cells #[.string s, .nilIface] 94)) s .nilIface :=
  ⟨by simp, by simp, by simp, by simp, by simp⟩

theorem err_ok (p : Nat) (s : ByteArray) (e : Value) (w : World) (h : RdAt p w s e) : Calls Tryd.prog 38 #[.pointer (some ⟨p, 0, none⟩)] w fun r w' => r = .returned e ∧ w' = w := by
  obtain ⟨c0, c1, f0, f1, lt⟩ := h
  go_enter Tryd.func38, Tryd.ntmps38
  go_wp2
  go_ret
  exact ⟨rfl, rfl⟩

/-- Of what was there only block p has changed. -/
theorem grow_set {p i : Nat} {w w1 : World} (h : w.grownBy w1 (some p)) (v : Value) : w.grownBy (w1.setCell ⟨p, i, none⟩ v) (some p) :=
  ⟨h.os, h.tape, h.output, by rw [World.size_setCell]; exact h.size, fun k hk hn => (Below.heap_setCell _ _ _ _ (fun e => hn (by rw [e]))).trans (h.block k hk hn)⟩
theorem grow_trans {p : Nat} {w w1 w2 : World} (h : w.grownBy w1 (some p)) (k : w1.grownBy w2 (some p)) : w.grownBy w2 (some p) :=
  ⟨k.os.trans h.os, k.tape.trans h.tape, k.output.trans h.output, Nat.le_trans h.size k.size, fun i hi hn => (k.block i (Nat.lt_of_lt_of_le hi h.size) hn).trans (h.block i hi hn)⟩
theorem grow_below {p : Nat} {w w' : World} (h : w.grownBy w' (some p)) (hp : p < w.heap.size) : Below p w w' :=
  ⟨h.os, h.tape, h.output, h.size, fun k hk => h.block k (by omega) (fun e => by cases e; omega)⟩

theorem failR4 (p : Nat) (s : ByteArray) (t : TypeId) (x : Value) (w : World) (h : RdAt p w s .nilIface) :
    Calls Tryd.prog 57 #[.pointer (some ⟨p, 0, none⟩), .iface t x] w fun r w' => r = .returned (.tuple #[]) ∧ RdAt p w' ByteArray.empty (.iface t x) ∧ w.grownBy w' (some p) := by
  have H := hide h
  obtain ⟨c0, c1, f0, f1, lt⟩ := h
  go_enter Tryd.func57, Tryd.ntmps57
  go_wp2
  go_end0
  refine ⟨rfl, ⟨?_, ?_, by simpa using f0, by simpa using f1, by simpa using lt⟩, grow_set (grow_set (World.grownBy.refl _ _) _) _⟩
  · rw [World.cell?_setCell_other _ _ _ _ (by simp)]; exact World.cell?_setCell_same _ _ _ c0
  · exact World.cell?_setCell_same _ _ _ (by rw [World.cell?_setCell_other _ _ _ _ (by simp)]; exact c1)

set_option maxHeartbeats 400000 in
set_option maxRecDepth 100000 in
theorem whole_ok (p : Nat) (s : ByteArray) (n i : Nat) (w : World) (h : RdAt p w s .nilIface) (hn : n ≤ 1099511627776) (hi : i < s.size) (hs : s.size ≤ 1000000) (hz : 0 < i → (s[i]).toNat ≠ 0) :
    Calls Tryd.prog 56 #[.pointer (some ⟨p, 0, none⟩), .int .i64 n, .int .i64 i] w fun r w' => r = .returned (.int .i64 n) ∧ RdAt p w' (s.extract (i + 1) s.size) .nilIface ∧ w.grownBy w' (some p) := by
  obtain ⟨c0, c1, f0, f1, lt⟩ := h
  have hn' : (n : Int) ≤ 1099511627776 := by omega
  have hi' : (i : Int) < s.size := by omega
  have hs' : (s.size : Int) ≤ 1000000 := by omega
  by_cases h0 : 0 < i
  · have h0' : decide ((0 : Int) < i) = true := by simp; omega
    have hz' := hz h0
    clear hz
    go_enter Tryd.func56, Tryd.ntmps56
    go_wp2_with fail
    go_ret
    refine ⟨rfl, ⟨World.cell?_setCell_same _ _ _ c0, ?_, by simpa using f0, by simpa using f1, by simpa using lt⟩, grow_set (World.grownBy.refl _ _) _⟩
    rw [World.cell?_setCell_other _ _ _ _ (by simp)]; exact c1
  · have h0' : decide ((0 : Int) < i) = false := by simp; omega
    clear hz
    go_enter Tryd.func56, Tryd.ntmps56
    go_wp2_with fail
    go_ret
    refine ⟨rfl, ⟨World.cell?_setCell_same _ _ _ c0, ?_, by simpa using f0, by simpa using f1, by simpa using lt⟩, grow_set (World.grownBy.refl _ _) _⟩
    rw [World.cell?_setCell_other _ _ _ _ (by simp)]; exact c1

set_option maxHeartbeats 400000 in
set_option maxRecDepth 100000 in
/-- The last byte is 0, and not the only one. -/
theorem whole_zero (p : Nat) (s : ByteArray) (n : Int) (i : Nat) (t : TypeId) (x : Value) (w : World) (h : RdAt p w s .nilIface) (hT : w.cell? ⟨3, 0, none⟩ = some (.iface t x)) (hi : i < s.size) (hs : s.size ≤ 1000000) (h0 : 0 < i) (hz : (s[i]).toNat = 0) :
    Calls Tryd.prog 56 #[.pointer (some ⟨p, 0, none⟩), .int .i64 n, .int .i64 i] w fun r w' => r = .returned (.int .i64 0) ∧ RdAt p w' ByteArray.empty (.iface t x) ∧ w.grownBy w' (some p) := by
  have H := hide h
  obtain ⟨c0, c1, f0, f1, lt⟩ := h
  have hi' : (i : Int) < s.size := by omega
  have hs' : (s.size : Int) ≤ 1000000 := by omega
  have h0' : decide ((0 : Int) < i) = true := by simp; omega
  have hz' : ((s[i].toNat : Int) == 0) = true := by simp [hz]
  clear hz
  go_enter Tryd.func56, Tryd.ntmps56
  go_wp2_with fail
  refine (failR4 _ _ _ _ _ H.out).mono ?_
  rintro e w1 ⟨rfl, h1, hb1⟩
  have H1 := hide h1
  have Hb1 := hide hb1
  clear h1 hb1
  go_wp2
  go_ret
  exact ⟨rfl, H1.out, Hb1.out⟩

set_option maxHeartbeats 400000 in
set_option maxRecDepth 100000 in
/-- Above MaxNum. -/
theorem whole_big (p : Nat) (s : ByteArray) (n i : Nat) (t : TypeId) (x : Value) (w : World) (h : RdAt p w s .nilIface) (hT : w.cell? ⟨0, 0, none⟩ = some (.iface t x)) (hi : i < s.size) (hs : s.size ≤ 1000000) (hn : 1099511627776 < n) (hz : 0 < i → (s[i]).toNat ≠ 0) :
    Calls Tryd.prog 56 #[.pointer (some ⟨p, 0, none⟩), .int .i64 n, .int .i64 i] w fun r w' => r = .returned (.int .i64 0) ∧ RdAt p w' ByteArray.empty (.iface t x) ∧ w.grownBy w' (some p) := by
  have H := hide h
  obtain ⟨c0, c1, f0, f1, lt⟩ := h
  have hn' : (1099511627776 : Int) < n := by omega
  have hi' : (i : Int) < s.size := by omega
  have hs' : (s.size : Int) ≤ 1000000 := by omega
  by_cases h0 : 0 < i
  · have h0' : decide ((0 : Int) < i) = true := by simp; omega
    have hz' := hz h0
    clear hz
    go_enter Tryd.func56, Tryd.ntmps56
    go_wp2_with fail
    refine (failR4 _ _ _ _ _ H.out).mono ?_
    rintro e w1 ⟨rfl, h1, hb1⟩
    have H1 := hide h1
    have Hb1 := hide hb1
    clear h1 hb1
    go_wp2
    go_ret
    exact ⟨rfl, H1.out, Hb1.out⟩
  · have h0' : decide ((0 : Int) < i) = false := by simp; omega
    clear hz
    go_enter Tryd.func56, Tryd.ntmps56
    go_wp2_with fail
    refine (failR4 _ _ _ _ _ H.out).mono ?_
    rintro e w1 ⟨rfl, h1, hb1⟩
    have H1 := hide h1
    have Hb1 := hide hb1
    clear h1 hb1
    go_wp2
    go_ret
    exact ⟨rfl, H1.out, Hb1.out⟩

theorem failR_ok (p : Nat) (s : ByteArray) (t : TypeId) (x : Value) (w : World) (h : RdAt p w s .nilIface) :
    Calls Tryd.prog 57 #[.pointer (some ⟨p, 0, none⟩), .iface t x] w fun r w' => r = .returned (.tuple #[]) ∧ RdAt p w' ByteArray.empty (.iface t x) ∧ Below p w w' :=
  (failR4 p s t x w h).mono fun _ _ ⟨h1, h2, h3⟩ => ⟨h1, h2, grow_below h3 h.lt⟩
end Go.Proofs.YtgogjncamjbajacDoor
