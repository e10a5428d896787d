/-
  Contract of the library's strings.Cut at a separator of one byte, over this dump.
-/
import Derived.Test.YtledipmimfphdaaDoorBase
import Derived.Test.YtledipmimfphdaaDoorLib
import Derived.Test.YtledipmimfphdaaDoorGateRead
import Derived.Deep.QuietTactic
import Derived.Laws.Cover1
import Derived.BigQuiet
import Derived.WalkSmall
namespace Go.Proofs.YtledipmimfphdaaDoor
open Go.RowKit
open Go.Gate

/-- A text, cut at the first such byte. -/
def cutW (c : UInt8) (s : List UInt8) : Value := match brk c s with
  | some p => .tuple #[.string (str p.1), .string (str p.2), .bool true]
  | none => .tuple #[.string (str s), .string ⟨#[]⟩, .bool false]

set_option maxHeartbeats 1000000 in
set_option maxRecDepth 100000 in
theorem cutBIn_ok (c : UInt8) (s : ByteArray) (W : World) (hs : s.size ≤ 100000000) : Calls Tryd.prog 36 #[.string s, .string ⟨#[c]⟩] W fun r w' => r = .returned (cutW c s.data.toList) ∧ Below W.heap.size W w' := by
  have HI := hide (fun W' => Tryd.stringslite_Index_one s c W')
  have hs' : (s.size : Int) ≤ 100000000 := by omega
  cases hb : brk c s.data.toList with
  | none =>
    have hv : cutW c s.data.toList = .tuple #[.string s, .string ⟨#[]⟩, .bool false] := by unfold cutW; rw [hb]; rfl
    rw [(brk_none hb).2] at HI
    rw [hv]
    clear hv hb
    go_enter Tryd.func36, Tryd.ntmps36
    go_wp2_with fail
    refine (HI.out _).mono ?_
    rintro r w1 ⟨rfl, rfl⟩
    go_wp2_with fail
    go_ret3
    exact ⟨rfl, Below.refl _ _⟩
  | some p =>
    obtain ⟨x, y⟩ := p
    obtain ⟨h1, _, h3⟩ := brk_some hb
    have hv : cutW c s.data.toList = .tuple #[.string (str x), .string (str y), .bool true] := by unfold cutW; rw [hb]
    rw [h3] at HI
    rw [hv]
    have hx : s.extract 0 x.length = str x := by
      refine ext_of_list ?_
      rw [extractL, strL, h1]
      simp
    have hy : s.extract (x.length + 1) s.size = str y := by
      refine ext_of_list ?_
      rw [extractL, strL, ← lenL s, h1]
      simp only [List.length_append, List.length_cons]
      rw [List.drop_append, List.drop_of_length_le (by omega), List.nil_append, show x.length + 1 - x.length = 1 by omega, List.drop_succ_cons, List.drop_zero, List.take_of_length_le (by omega)]
    have hl : x.length + 1 ≤ s.size := by rw [← lenL s, h1]; simp
    generalize x.length = k at *
    have hl' : (k : Int) + 1 ≤ s.size := by omega
    have hl2 : (k : Int) ≤ s.size := by omega
    have hk0 : (0 : Int) ≤ k := by omega
    have hk1 : (0 : Int) ≤ (k : Int) + 1 := by omega
    have hw : IntKind.i64.wrap ((k : Int) + 1) = (k : Int) + 1 := iwrap_id _ (by omega) (by omega)
    have hneg : ((k : Int) < 0) = False := by simp
    have hone : (ByteArray.mk #[c]).size = 1 := rfl
    clear hv hb h1 h3 hs
    go_enter Tryd.func36, Tryd.ntmps36
    go_wp2_with fail
    refine (HI.out _).mono ?_
    rintro r w1 ⟨rfl, rfl⟩
    go_wp2_with fail
    go_quiet (fail)
    go_wp2_with fail
    go_ret3
    exact ⟨rfl, below_drewN (Below.refl _ _) _⟩

set_option maxHeartbeats 1000000 in
set_option maxRecDepth 100000 in
theorem cutB_ok (c : UInt8) (s : ByteArray) (W : World) (hs : s.size ≤ 100000000) : Calls Tryd.prog 29 #[.string s, .string ⟨#[c]⟩] W fun r w' => ∃ x y b, Hid (cutW c s.data.toList = .tuple #[x, y, b]) ∧ r = .returned (.tuple #[x, y, b]) ∧ Below W.heap.size W w' := by
  have HC := hide (cutBIn_ok c s W hs)
  obtain ⟨x, y, b, hx⟩ : ∃ x y b, cutW c s.data.toList = .tuple #[x, y, b] := by
    unfold cutW
    split <;> exact ⟨_, _, _, rfl⟩
  have HX := hide hx
  rw [hx] at HC
  clear hx hs
  go_enter Tryd.func29, Tryd.ntmps29
  go_wp2_with fail
  refine HC.out.mono ?_
  rintro r w1 ⟨rfl, hb⟩
  have HB := hide hb
  clear hb HC
  go_wp2_with fail
  go_ret3
  exact ⟨_, _, _, HX.out, rfl, HB.out⟩
end Go.Proofs.YtledipmimfphdaaDoor
