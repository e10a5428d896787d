/-
  Contracts of Get, the reader's Text, and GetText over this dump: every text.
-/
import Derived.Test.YtgcpljgdeoeppaaDoorGet
import Derived.Test.YtgcpljgdeoeppaaDoorPut
namespace Go.Proofs.YtgcpljgdeoeppaaDoor
open Go.RowKit

theorem rest_ok (p : Nat) (s : ByteArray) (e : Value) (w : World) (h : RdAt p w s e) : Calls Tryd.prog 29 #[.pointer (some ⟨p, 0, none⟩)] w fun r w' => r = .returned (.string s) ∧ w' = w := by
  obtain ⟨c0, c1, f0, f1, lt⟩ := h
  go_enter Tryd.func29, Tryd.ntmps29
  go_wp2
  go_ret
  exact ⟨rfl, rfl⟩

def GetRes (s : ByteArray) (tT : TypeId) (xT : Value) (tB : TypeId) (xB : Value) (r : Ending) : Prop :=
  match Go.Num.dec s.data.toList with
  | .ok (n, k) => r = .returned (.tuple #[.int .i64 n, .string (s.extract k s.size), .nilIface])
  | .error 1 => r = .returned (.tuple #[.int .i64 0, .string ByteArray.empty, .iface tT xT])
  | .error _ => r = .returned (.tuple #[.int .i64 0, .string ByteArray.empty, .iface tB xB])

theorem NumRes.parts {p : Nat} {s : ByteArray} {tT : TypeId} {xT : Value} {tB : TypeId} {xB : Value} {r : Ending} {w' : World} (h : NumRes p s tT xT tB xB r w') :
    ∃ (n : Nat) (r1 : ByteArray) (e : Value), r = .returned (.int .i64 n) ∧ RdAt p w' r1 e ∧ n ≤ 1099511627776 ∧ r1.size ≤ s.size ∧
      ((∃ k, Go.Num.dec s.data.toList = .ok (n, k) ∧ r1 = s.extract k s.size ∧ e = .nilIface) ∨
       (Go.Num.dec s.data.toList = .error 1 ∧ n = 0 ∧ r1 = ByteArray.empty ∧ e = .iface tT xT) ∨
       ((∃ c, c ≠ 1 ∧ Go.Num.dec s.data.toList = .error c) ∧ n = 0 ∧ r1 = ByteArray.empty ∧ e = .iface tB xB)) := by
  unfold NumRes at h
  split at h
  · rename_i n k hd
    refine ⟨n, _, _, h.1, h.2, ?_, ?_, .inl ⟨k, hd, rfl, rfl⟩⟩
    · unfold Go.Num.dec at hd
      split at hd
      · cases hd
      · split at hd
        · cases hd
        · split at hd
          · cases hd
          · simp at hd; omega
    · rw [ByteArray.size_extract]; omega
  · rename_i hd
    exact ⟨0, _, _, h.1, h.2, by omega, Nat.zero_le _, .inr (.inl ⟨hd, rfl, rfl, rfl⟩)⟩
  · rename_i c hc hd
    exact ⟨0, _, _, h.1, h.2, by omega, Nat.zero_le _, .inr (.inr ⟨⟨c, fun e => hc (by rw [e]), hd⟩, rfl, rfl, rfl⟩)⟩

theorem get_of_parts {s : ByteArray} {tT : TypeId} {xT : Value} {tB : TypeId} {xB : Value} {n : Nat} {r1 : ByteArray} {e : Value}
    (h : (∃ k, Go.Num.dec s.data.toList = .ok (n, k) ∧ r1 = s.extract k s.size ∧ e = .nilIface) ∨
       (Go.Num.dec s.data.toList = .error 1 ∧ n = 0 ∧ r1 = ByteArray.empty ∧ e = .iface tT xT) ∨
       ((∃ c, c ≠ 1 ∧ Go.Num.dec s.data.toList = .error c) ∧ n = 0 ∧ r1 = ByteArray.empty ∧ e = .iface tB xB)) :
    GetRes s tT xT tB xB (.returned (.tuple #[.int .i64 n, .string r1, e])) := by
  unfold GetRes
  rcases h with ⟨k, hd, rfl, rfl⟩ | ⟨hd, rfl, rfl, rfl⟩ | ⟨⟨c, hc, hd⟩, rfl, rfl, rfl⟩
  · rw [hd]
  · rw [hd]; rfl
  · rw [hd]
    match c, hc with
    | 0, _ => rfl
    | c + 2, _ => rfl

set_option maxHeartbeats 400000 in
set_option maxRecDepth 100000 in
theorem get_any (s : ByteArray) (tT : TypeId) (xT : Value) (tB : TypeId) (xB : Value) (w : World) (hs : s.size ≤ 1000000)
    (hT : w.cell? ⟨0, 0, none⟩ = some (.iface tT xT)) (hB : w.cell? ⟨1, 0, none⟩ = some (.iface tB xB)) :
    Calls Tryd.prog 16 #[.string s] w fun r w' => GetRes s tT xT tB xB r ∧ Below w.heap.size w w' := by
  go_enter Tryd.func16, Tryd.ntmps16
  go_wp2_with fail
  refine (newR_ok s _).mono ?_
  rintro e w1 ⟨rfl, h1⟩
  have hf := RdAt.fresh w s
  have hb : Below w.heap.size w (w.alloc (.cells #[.string s, .nilIface] 87)) := (Below.refl _ _).alloc (Nat.le_refl _) _
  rw [h1] at hf hb
  have Hf := hide hf
  have Hb := hide hb
  have HT := hide ((hb.cell (p := ⟨0, 0, none⟩) (World.block_lt_of_cell? _ _ hT)).trans hT)
  have HB := hide ((hb.cell (p := ⟨1, 0, none⟩) (World.block_lt_of_cell? _ _ hB)).trans hB)
  clear hf hb h1 hT hB
  go_wp2_with fail
  refine (numR w.heap.size s tT xT tB xB w1 Hf.out hs HT.out HB.out).mono ?_
  rintro e w2 ⟨hr, hb2⟩
  obtain ⟨n, r1, er, rfl, hrd, hn, hsz, hd⟩ := hr.parts
  have Hrd := hide hrd
  have Hd := hide hd
  have Hb2 := hide hb2
  clear hr hrd hd hb2
  go_wp2_with fail
  refine (rest_ok _ _ _ _ Hrd.out).mono ?_
  rintro e w3 ⟨rfl, rfl⟩
  go_wp2_with fail
  refine (err_ok _ _ _ _ Hrd.out).mono ?_
  rintro e w4 ⟨rfl, rfl⟩
  go_wp2
  go_ret3
  exact ⟨get_of_parts Hd.out, Hb.out.trans Hb2.out⟩
end Go.Proofs.YtgcpljgdeoeppaaDoor
