/-
  Contracts of strings.Cut at a blank.
-/
import Derived.Test.YtogpjblikphpcaaGreatDoorGtLine
import Derived.Test.YtogpjblikphpcaaGreatDoorDecRd
import Derived.Test.YtogpjblikphpcaaGreatDoorGateRead
import Derived.Laws.Cover1
import Derived.Lib.AtoiBound
import Derived.Lib.AtoiErrMem
import Derived.BigQuiet
namespace Go.Proofs.YtogpjblikphpcaaGreatDoor
open Go.RowKit
open Go.Gate
open Go.Digits (digits numberOf)
open Go.Files (isNm lt)

/-- A text, cut at its first blank. -/
def cutV (s : List UInt8) : Value := match brk 32 s with
  | some p => .tuple #[.string (str p.1), .string (str p.2), .bool true]
  | none => .tuple #[.string (str s), .string ⟨#[]⟩, .bool false]

set_option maxHeartbeats 1000000 in
set_option maxRecDepth 100000 in
theorem cutIn_ok (s : ByteArray) (W : World) (hs : s.size ≤ 1000000) : Calls Tryz.prog 87 #[.string s, .string ⟨#[32]⟩] W fun r w' => r = .returned (cutV s.data.toList) ∧ Below W.heap.size W w' := by
  have HI := hide (fun W' => Tryz.stringslite_Index_one s 32 W')
  have hs' : (s.size : Int) ≤ 1000000 := by omega
  cases hb : brk 32 s.data.toList with
  | none =>
    have hv : cutV s.data.toList = .tuple #[.string s, .string ⟨#[]⟩, .bool false] := by unfold cutV; rw [hb]; rfl
    rw [(brk_none hb).2] at HI
    rw [hv]
    clear hv hb
    go_enter Tryz.func87, Tryz.ntmps87
    go_wp2_with fail
    refine (HI.out _).mono ?_
    rintro r w1 ⟨rfl, rfl⟩
    go_wp2_with fail
    go_ret3
    exact ⟨rfl, Below.refl _ _⟩
  | some p =>
    obtain ⟨x, y⟩ := p
    obtain ⟨h1, _, h3⟩ := brk_some hb
    have hv : cutV s.data.toList = .tuple #[.string (str x), .string (str y), .bool true] := by unfold cutV; rw [hb]
    rw [h3] at HI
    rw [hv]
    have hx : s.extract 0 x.length = str x := by
      refine ext_of_list ?_
      rw [extractL, strL, h1]
      simp
    have hy : s.extract (x.length + 1) s.size = str y := by
      refine ext_of_list ?_
      rw [extractL, strL, ← lenL s, h1]
      simp only [List.length_append, List.length_cons]
      rw [List.drop_append, List.drop_of_length_le (by omega), List.nil_append, show x.length + 1 - x.length = 1 by omega, List.drop_succ_cons, List.drop_zero, List.take_of_length_le (by omega)]
    have hl : x.length + 1 ≤ s.size := by rw [← lenL s, h1]; simp
    generalize x.length = k at *
    have hl' : (k : Int) + 1 ≤ s.size := by omega
    have hl2 : (k : Int) ≤ s.size := by omega
    have hk0 : (0 : Int) ≤ k := by omega
    have hk1 : (0 : Int) ≤ (k : Int) + 1 := by omega
    have hw : IntKind.i64.wrap ((k : Int) + 1) = (k : Int) + 1 := iwrap_id _ (by omega) (by omega)
    have hneg : ((k : Int) < 0) = False := by simp
    clear hv hb h1 h3 hs
    go_enter Tryz.func87, Tryz.ntmps87
    go_wp2_with fail
    refine (HI.out _).mono ?_
    rintro r w1 ⟨rfl, rfl⟩
    go_wp2_with fail
    go_quiet (fail)
    go_wp2_with fail
    go_ret3
    exact ⟨rfl, below_drewN (Below.refl _ _) _⟩

set_option maxHeartbeats 1000000 in
set_option maxRecDepth 100000 in
theorem cutS_ok (s : ByteArray) (W : World) (hs : s.size ≤ 1000000) : Calls Tryz.prog 63 #[.string s, .string ⟨#[32]⟩] W fun r w' => ∃ x y b, Hid (cutV s.data.toList = .tuple #[x, y, b]) ∧ r = .returned (.tuple #[x, y, b]) ∧ Below W.heap.size W w' := by
  have HC := hide (cutIn_ok s W hs)
  obtain ⟨x, y, b, hx⟩ : ∃ x y b, cutV s.data.toList = .tuple #[x, y, b] := by
    unfold cutV
    split <;> exact ⟨_, _, _, rfl⟩
  have HX := hide hx
  rw [hx] at HC
  clear hx hs
  go_enter Tryz.func63, Tryz.ntmps63
  go_wp2_with fail
  refine HC.out.mono ?_
  rintro r w1 ⟨rfl, hb⟩
  have HB := hide hb
  clear hb HC
  go_wp2_with fail
  go_ret3
  exact ⟨_, _, _, HX.out, rfl, HB.out⟩
end Go.Proofs.YtogpjblikphpcaaGreatDoor
