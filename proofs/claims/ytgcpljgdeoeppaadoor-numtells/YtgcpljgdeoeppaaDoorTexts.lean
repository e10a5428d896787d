/-
  Contracts of the reader's Text, and GetText, over this dump: every text.
-/
import Derived.Test.YtgcpljgdeoeppaaDoorGets
namespace Go.Proofs.YtgcpljgdeoeppaaDoor
open Go.RowKit

/-- What Text answers, and what is left: by the number n that was read, what was left behind it (r1), and its error. -/
def TextOut (n : Nat) (r1 : ByteArray) (e : Value) (tT : TypeId) (xT : Value) (tB : TypeId) (xB : Value) : ByteArray × ByteArray × Value :=
  if 20000 < n then (ByteArray.empty, ByteArray.empty, .iface tB xB)
  else if r1.size < n then (ByteArray.empty, ByteArray.empty, .iface tT xT)
  else (r1.extract 0 n, r1.extract n r1.size, e)

/-- How the number, what is left and the error hang on the text. -/
def Read (s : ByteArray) (tT : TypeId) (xT : Value) (tB : TypeId) (xB : Value) (n : Nat) (r1 : ByteArray) (e : Value) : Prop :=
  (∃ k, Go.Num.dec s.data.toList = .ok (n, k) ∧ r1 = s.extract k s.size ∧ e = .nilIface) ∨
  (Go.Num.dec s.data.toList = .error 1 ∧ n = 0 ∧ r1 = ByteArray.empty ∧ e = .iface tT xT) ∨
  ((∃ c, c ≠ 1 ∧ Go.Num.dec s.data.toList = .error c) ∧ n = 0 ∧ r1 = ByteArray.empty ∧ e = .iface tB xB)

theorem Read.isNil {s : ByteArray} {tT : TypeId} {xT : Value} {tB : TypeId} {xB : Value} {n : Nat} {r1 : ByteArray} {e : Value} (h : Read s tT xT tB xB n r1 e) (hn : 0 < n) : e = .nilIface := by
  rcases h with ⟨k, _, _, he⟩ | ⟨_, h0, _⟩ | ⟨_, h0, _⟩
  · exact he
  · omega
  · omega

set_option maxHeartbeats 400000 in
set_option maxRecDepth 100000 in
theorem textR (p : Nat) (s : ByteArray) (tT : TypeId) (xT : Value) (tB : TypeId) (xB : Value) (w : World) (h : RdAt p w s .nilIface) (hs : s.size ≤ 1000000) (hp : 2 ≤ p)
    (hT : w.cell? ⟨0, 0, none⟩ = some (.iface tT xT)) (hB : w.cell? ⟨1, 0, none⟩ = some (.iface tB xB)) :
    Calls Tryd.prog 31 #[.pointer (some ⟨p, 0, none⟩)] w fun r w' => (∃ n r1 e, Read s tT xT tB xB n r1 e ∧ r = .returned (.string (TextOut n r1 e tT xT tB xB).1) ∧ RdAt p w' (TextOut n r1 e tT xT tB xB).2.1 (TextOut n r1 e tT xT tB xB).2.2) ∧ Below p w w' := by
  have H := hide h
  have HT := hide hT
  have HB := hide hB
  clear h hT hB
  go_enter Tryd.func31, Tryd.ntmps31
  go_wp2_with fail
  refine (numR p s tT xT tB xB w H.out hs HT.out HB.out).mono ?_
  rintro e w1 ⟨hr, hb1⟩
  obtain ⟨n, r1, er, rfl, hrd, hn, hsz, hd⟩ := hr.parts
  have Hr : Hid (Read s tT xT tB xB n r1 er) := hd
  have Hrd := hide hrd
  have Hb1 := hide hb1
  have hT1 := (hb1.cell (p := ⟨0, 0, none⟩) (by simp; omega)).trans HT.out
  have hB1 := (hb1.cell (p := ⟨1, 0, none⟩) (by simp; omega)).trans HB.out
  clear hr hd hb1
  have hn' : (n : Int) ≤ 1099511627776 := by omega
  have hr1 : (r1.size : Int) ≤ 1000000 := by omega
  by_cases h2 : 20000 < n
  · have h2' : (20000 : Int) < n := by omega
    obtain rfl := Hr.out.isNil (by omega)
    have ho : TextOut n r1 .nilIface tT xT tB xB = (ByteArray.empty, ByteArray.empty, .iface tB xB) := by unfold TextOut; rw [if_pos h2]
    have Ho := hide ho
    clear ho
    go_wp2_with fail
    refine (failR_ok _ _ _ _ _ Hrd.out).mono ?_
    rintro e w2 ⟨rfl, h3, hb3⟩
    have H3 := hide h3
    have Hb3 := hide hb3
    clear h3 hb3
    go_wp2
    go_ret
    exact ⟨⟨n, r1, _, Hr.out, by rw [Ho.out]; rfl, by rw [Ho.out]; exact H3.out⟩, Hb1.out.trans Hb3.out⟩
  · have h2' : (n : Int) ≤ 20000 := by omega
    obtain ⟨c0, c1, f0, f1, lt⟩ := hrd
    by_cases h1 : r1.size < n
    · have h1' : (r1.size : Int) < n := by omega
      obtain rfl := Hr.out.isNil (by omega)
      have ho : TextOut n r1 .nilIface tT xT tB xB = (ByteArray.empty, ByteArray.empty, .iface tT xT) := by unfold TextOut; rw [if_neg h2, if_pos h1]
      have Ho := hide ho
      clear ho
      go_wp2_with fail
      refine (failR_ok _ _ _ _ _ Hrd.out).mono ?_
      rintro e w2 ⟨rfl, h3, hb3⟩
      have H3 := hide h3
      have Hb3 := hide hb3
      clear h3 hb3
      go_wp2
      go_ret
      exact ⟨⟨n, r1, _, Hr.out, by rw [Ho.out]; rfl, by rw [Ho.out]; exact H3.out⟩, Hb1.out.trans Hb3.out⟩
    · have h1' : (n : Int) ≤ r1.size := by omega
      have ho : TextOut n r1 er tT xT tB xB = (r1.extract 0 n, r1.extract n r1.size, er) := by unfold TextOut; rw [if_neg h2, if_neg h1]
      have Ho := hide ho
      clear ho
      go_wp2
      go_ret
      refine ⟨⟨n, r1, _, Hr.out, by rw [Ho.out]; rfl, ?_⟩, Hb1.out.setCell (by simp) _⟩
      rw [Ho.out]
      refine ⟨World.cell?_setCell_same _ _ _ c0, ?_, by simpa using f0, by simpa using f1, by simpa using lt⟩
      rw [World.cell?_setCell_other _ _ _ _ (by simp)]; exact c1

set_option maxHeartbeats 400000 in
set_option maxRecDepth 100000 in
theorem getText_any (s : ByteArray) (tT : TypeId) (xT : Value) (tB : TypeId) (xB : Value) (w : World) (hs : s.size ≤ 1000000)
    (hT : w.cell? ⟨0, 0, none⟩ = some (.iface tT xT)) (hB : w.cell? ⟨1, 0, none⟩ = some (.iface tB xB)) :
    Calls Tryd.prog 18 #[.string s] w fun r w' => (∃ n r1 e, Read s tT xT tB xB n r1 e ∧ r = .returned (.tuple #[.string (TextOut n r1 e tT xT tB xB).1, .string (TextOut n r1 e tT xT tB xB).2.1, (TextOut n r1 e tT xT tB xB).2.2])) ∧ Below w.heap.size w w' := by
  have hp : 1 < w.heap.size := World.block_lt_of_cell? _ _ hB
  go_enter Tryd.func18, Tryd.ntmps18
  go_wp2_with fail
  refine (newR_ok s _).mono ?_
  rintro e w1 ⟨rfl, h1⟩
  have hf := RdAt.fresh w s
  have hb : Below w.heap.size w (w.alloc (.cells #[.string s, .nilIface] 87)) := (Below.refl _ _).alloc (Nat.le_refl _) _
  rw [h1] at hf hb
  have Hf := hide hf
  have Hb := hide hb
  have HT := hide ((hb.cell (p := ⟨0, 0, none⟩) (World.block_lt_of_cell? _ _ hT)).trans hT)
  have HB := hide ((hb.cell (p := ⟨1, 0, none⟩) (World.block_lt_of_cell? _ _ hB)).trans hB)
  clear hf hb h1 hT hB
  go_wp2_with fail
  refine (textR w.heap.size s tT xT tB xB w1 Hf.out hs hp HT.out HB.out).mono ?_
  rintro e w2 ⟨⟨n, r1, er, hr, rfl, hrd⟩, hb2⟩
  have Hrd := hide hrd
  have Hr := hide hr
  have Hb2 := hide hb2
  clear hr hrd hb2
  generalize ho : TextOut n r1 er tT xT tB xB = o at *
  have Ho := hide ho
  clear ho
  obtain ⟨o1, o2, o3⟩ := o
  go_wp2_with fail
  refine (rest_ok _ _ _ _ Hrd.out).mono ?_
  rintro e w3 ⟨rfl, rfl⟩
  go_wp2_with fail
  refine (err_ok _ _ _ _ Hrd.out).mono ?_
  rintro e w4 ⟨rfl, rfl⟩
  go_wp2
  go_ret3
  exact ⟨⟨n, r1, er, Hr.out, by rw [Ho.out]; rfl⟩, Hb.out.trans Hb2.out⟩
end Go.Proofs.YtgcpljgdeoeppaaDoor
