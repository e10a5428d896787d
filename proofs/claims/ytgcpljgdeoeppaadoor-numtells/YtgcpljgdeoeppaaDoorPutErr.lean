/-
  Contracts of Put and PutText where they answer ErrBound, over this dump.
-/
import Derived.Test.YtgcpljgdeoeppaaDoorPut
import Derived.Deep.QuietTactic
import Derived.BigQuiet
namespace Go.Proofs.YtgcpljgdeoeppaaDoor
open Go.RowKit

/-- The writer at block p with its error. -/
structure WrErr (p : Nat) (w : World) (t : TypeId) (x : Value) : Prop where
  c0 : w.cell? ⟨p, 0, none⟩ = some (.slice none 0 0)
  c1 : w.cell? ⟨p, 1, none⟩ = some (.iface t x)
  f0 : w.frozen? ⟨p, 0, none⟩ = false
  f1 : w.frozen? ⟨p, 1, none⟩ = false
  lt : p < w.heap.size

theorem failW_ok (p : Nat) (bs : List UInt8) (v : Value) (t : TypeId) (x : Value) (w : World) (h : WrAt p w bs v) :
    Calls Tryd.prog 38 #[.pointer (some ⟨p, 0, none⟩), .iface t x] w fun r w' => r = .returned (.tuple #[]) ∧ WrErr p w' t x ∧ Below p w w' := by
  obtain ⟨c0, c1, f0, f1, lt, own⟩ := h
  clear own
  go_enter Tryd.func38, Tryd.ntmps38
  go_wp2
  go_end0
  refine ⟨rfl, ⟨?_, ?_, by simpa using f0, by simpa using f1, by simpa using lt⟩, ((Below.refl _ _).setCell (by simp) _).setCell (by simp) _⟩
  · rw [World.cell?_setCell_other _ _ _ _ (by simp)]; exact World.cell?_setCell_same _ _ _ c0
  · exact World.cell?_setCell_same _ _ _ (by rw [World.cell?_setCell_other _ _ _ _ (by simp)]; exact c1)

set_option maxHeartbeats 400000 in
set_option maxRecDepth 100000 in
theorem num_err (p : Nat) (n : Int) (bs : List UInt8) (v : Value) (t : TypeId) (x : Value) (w : World) (hn : n < 0 ∨ 1099511627776 < n) (h : WrAt p w bs v) (hB : w.cell? ⟨1, 0, none⟩ = some (.iface t x)) :
    Calls Tryd.prog 23 #[.pointer (some ⟨p, 0, none⟩), .int .i64 n] w fun r w' => r = .returned (.tuple #[]) ∧ WrErr p w' t x ∧ Below p w w' := by
  have H := hide h
  clear h
  by_cases h0 : n < 0
  · have b0 : decide (n < 0) = true := by simp; omega
    clear hn
    go_enter Tryd.func23, Tryd.ntmps23
    go_wp2_with fail
    refine (failW_ok _ _ _ _ _ _ H.out).mono ?_
    rintro e w1 ⟨rfl, h1, hb1⟩
    have H1 := hide h1
    have Hb1 := hide hb1
    clear hb1
    obtain ⟨c0, c1, f0, f1, lt⟩ := h1
    go_wp2
    go_returns
    exact ⟨rfl, H1.out, Hb1.out⟩
  · have b0 : decide (n < 0) = false := by simp; omega
    have b1 : decide (1099511627776 < n) = true := by simp; omega
    clear hn
    go_enter Tryd.func23, Tryd.ntmps23
    go_wp2_with fail
    refine (failW_ok _ _ _ _ _ _ H.out).mono ?_
    rintro e w1 ⟨rfl, h1, hb1⟩
    have H1 := hide h1
    have Hb1 := hide hb1
    clear hb1
    obtain ⟨c0, c1, f0, f1, lt⟩ := h1
    go_wp2
    go_returns
    exact ⟨rfl, H1.out, Hb1.out⟩

set_option maxHeartbeats 400000 in
set_option maxRecDepth 100000 in
theorem done_err (p : Nat) (t : TypeId) (x : Value) (w : World) (h : WrErr p w t x) :
    Calls Tryd.prog 24 #[.pointer (some ⟨p, 0, none⟩)] w fun r w' => r = .returned (.tuple #[.string ByteArray.empty, .iface t x]) ∧ Below w.heap.size w w' := by
  obtain ⟨c0, c1, f0, f1, lt⟩ := h
  go_enter Tryd.func24, Tryd.ntmps24
  go_wp2
  go_quiet (fail)
  go_wp2
  go_ret2
  exact ⟨rfl, (Below.refl _ _).trans ⟨rfl, rfl, rfl, Nat.le_refl _, fun _ _ => rfl⟩⟩

set_option maxHeartbeats 400000 in
set_option maxRecDepth 100000 in
theorem put_err (n : Int) (t : TypeId) (x : Value) (w : World) (hn : n < 0 ∨ 1099511627776 < n) (hB : w.cell? ⟨1, 0, none⟩ = some (.iface t x)) :
    Calls Tryd.prog 12 #[.int .i64 n] w fun r w' => r = .returned (.tuple #[.string ByteArray.empty, .iface t x]) ∧ Below w.heap.size w w' := by
  have Hn := hide hn
  clear hn
  go_enter Tryd.func12, Tryd.ntmps12
  go_wp2_with fail
  refine (new_ok _).mono ?_
  rintro e w1 ⟨rfl, h1⟩
  have hf := WrAt.fresh w
  have hb : Below w.heap.size w (w.alloc (.cells #[.slice none 0 0, .nilIface] 84)) := (Below.refl _ _).alloc (Nat.le_refl _) _
  rw [h1] at hf hb
  have Hf := hide hf
  have Hb := hide hb
  have HB := hide ((hb.cell (p := ⟨1, 0, none⟩) (World.block_lt_of_cell? _ _ hB)).trans hB)
  clear hf hb h1 hB
  go_wp2_with fail
  refine (num_err w.heap.size n [] _ t x _ Hn.out Hf.out HB.out).mono ?_
  rintro e w2 ⟨rfl, h2, hb2⟩
  have H2 := hide h2
  have Hb2 := hide hb2
  clear h2 hb2
  go_wp2_with fail
  refine (done_err _ _ _ _ H2.out).mono ?_
  rintro e w3 ⟨rfl, hb3⟩
  have Hb3 := hide hb3
  clear hb3
  go_wp2
  go_ret2
  exact ⟨rfl, (Hb.out.trans Hb2.out).trans (Hb3.out.mono (Nat.le_trans Hb.out.size Hb2.out.size))⟩

set_option maxHeartbeats 400000 in
set_option maxRecDepth 100000 in
/-- A number behind an error: nothing happens. -/
theorem num_behind (p : Nat) (n : Int) (t : TypeId) (x : Value) (w : World) (h0 : 0 ≤ n) (h1 : n ≤ 1099511627776) (h : WrErr p w t x) :
    Calls Tryd.prog 23 #[.pointer (some ⟨p, 0, none⟩), .int .i64 n] w fun r w' => r = .returned (.tuple #[]) ∧ w' = w := by
  obtain ⟨c0, c1, f0, f1, lt⟩ := h
  have b0 : decide (n < 0) = false := by simp; omega
  have b1 : decide (1099511627776 < n) = false := by simp; omega
  go_enter Tryd.func23, Tryd.ntmps23
  go_wp2
  go_returns
  exact ⟨rfl, rfl⟩

set_option maxHeartbeats 400000 in
set_option maxRecDepth 100000 in
theorem text_err (p : Nat) (s : ByteArray) (bs : List UInt8) (v : Value) (t : TypeId) (x : Value) (w : World) (hs : 20000 < s.size) (hs1 : s.size ≤ 1000000) (h : WrAt p w bs v) (hB : w.cell? ⟨1, 0, none⟩ = some (.iface t x)) :
    Calls Tryd.prog 26 #[.pointer (some ⟨p, 0, none⟩), .string s] w fun r w' => r = .returned (.tuple #[]) ∧ WrErr p w' t x ∧ Below p w w' := by
  have H := hide h
  clear h
  have hs' : (20000 : Int) < s.size := by omega
  go_enter Tryd.func26, Tryd.ntmps26
  go_wp2_with fail
  refine (failW_ok _ _ _ _ _ _ H.out).mono ?_
  rintro e w1 ⟨rfl, h1, hb1⟩
  have H1 := hide h1
  have Hb1 := hide hb1
  clear hb1
  go_wp2_with fail
  refine (num_behind p s.size t x _ (by omega) (by omega) H1.out).mono ?_
  rintro e w2 ⟨rfl, rfl⟩
  obtain ⟨c0, c1, f0, f1, lt⟩ := h1
  go_wp2
  go_returns
  exact ⟨rfl, H1.out, Hb1.out⟩

set_option maxHeartbeats 400000 in
set_option maxRecDepth 100000 in
theorem putText_err (s : ByteArray) (t : TypeId) (x : Value) (w : World) (hs : 20000 < s.size) (hs1 : s.size ≤ 1000000) (hB : w.cell? ⟨1, 0, none⟩ = some (.iface t x)) :
    Calls Tryd.prog 14 #[.string s] w fun r w' => r = .returned (.tuple #[.string ByteArray.empty, .iface t x]) ∧ Below w.heap.size w w' := by
  go_enter Tryd.func14, Tryd.ntmps14
  go_wp2_with fail
  refine (new_ok _).mono ?_
  rintro e w1 ⟨rfl, h1⟩
  have hf := WrAt.fresh w
  have hb : Below w.heap.size w (w.alloc (.cells #[.slice none 0 0, .nilIface] 84)) := (Below.refl _ _).alloc (Nat.le_refl _) _
  rw [h1] at hf hb
  have Hf := hide hf
  have Hb := hide hb
  have HB := hide ((hb.cell (p := ⟨1, 0, none⟩) (World.block_lt_of_cell? _ _ hB)).trans hB)
  clear hf hb h1 hB
  go_wp2_with fail
  refine (text_err w.heap.size s [] _ t x _ hs hs1 Hf.out HB.out).mono ?_
  rintro e w2 ⟨rfl, h2, hb2⟩
  have H2 := hide h2
  have Hb2 := hide hb2
  clear h2 hb2
  go_wp2_with fail
  refine (done_err _ _ _ _ H2.out).mono ?_
  rintro e w3 ⟨rfl, hb3⟩
  have Hb3 := hide hb3
  clear hb3
  go_wp2
  go_ret2
  exact ⟨rfl, (Hb.out.trans Hb2.out).trans (Hb3.out.mono (Nat.le_trans Hb.out.size Hb2.out.size))⟩
end Go.Proofs.YtgcpljgdeoeppaaDoor
