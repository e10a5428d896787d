/-
  The closed fact of a gate.
-/
import Derived.Test.YtogpjblikphpcaaGreatDoorCodesA
import Derived.Test.YtogpjblikphpcaaGreatDoorGateMore
import Derived.Test.YtogpjblikphpcaaGreatDoorGtRead
namespace Go.Proofs.YtogpjblikphpcaaGreatDoor
open Go.RowKit
open Go.Gate
open Go.Digits (digits)

set_option maxHeartbeats 1000000 in
set_option maxRecDepth 100000 in
theorem gated_ok (a : Nat → Addr) (e : TypeId × Value) (w : World) (hE : GtEnv a e w) :
    Calls Tryz.prog 6 #[] w fun r w' => r = .returned (.bool true) ∧ Below w.heap.size w w' := by
  have HE := hide (fun W (k : Below w.heap.size w W) => hE.below k)
  have HS := hide (Sep.start w)
  have HN := hide (fun W => newGate_ok W)
  have ht : (⟨#[116]⟩ : ByteArray).size ≤ 1000000 := by decide
  have hf1 : Fit (openT [] ⟨#[116]⟩) := Fit.nil.open _
  have hf2 : Fit (openT (openT [] ⟨#[116]⟩) ⟨#[116]⟩) := hf1.open _
  have e1 : openE [] ⟨#[116]⟩ = 0 := by decide
  have e2 : openE (openT [] ⟨#[116]⟩) ⟨#[116]⟩ = 0 := by decide
  have n1 : openN [] ⟨#[116]⟩ = 1 := by decide
  have n2 : openN (openT [] ⟨#[116]⟩) ⟨#[116]⟩ = 2 := by decide
  have hl1 : openT [] ⟨#[116]⟩ = [(⟨#[116]⟩, 1)] := by decide
  have hl2 : openT (openT [] ⟨#[116]⟩) ⟨#[116]⟩ = [(⟨#[116]⟩, 2)] := by
    rw [hl1] at e2 ⊢
    unfold openT setT
    unfold openE at e2
    rw [if_pos e2, insT, Go.Files.lt_irrefl]
    decide
  have a1 : admE (openT (openT [] ⟨#[116]⟩) ⟨#[116]⟩) ⟨#[116]⟩ 1 = 11 := by rw [hl2]; decide
  have a2 : admE (openT (openT [] ⟨#[116]⟩) ⟨#[116]⟩) ⟨#[116]⟩ 2 = 0 := by rw [hl2]; decide
  have htx : str (textB (openT (openT [] ⟨#[116]⟩) ⟨#[116]⟩)) = ⟨#[116, 32, 50, 10]⟩ := by
    rw [hl2]
    have : digits 2 = [50] := Go.Digits.digits_small (by decide)
    simp [textB, lineB, this, str]
  have H1 := hide (fun v W (k : GtEnv a e W) => openG_ok a v [] ⟨#[116]⟩ W Fit.nil ht k.sents)
  have H2 := hide (fun v W (k : GtEnv a e W) => openG_ok a v (openT [] ⟨#[116]⟩) ⟨#[116]⟩ W hf1 ht k.sents)
  have H3 := hide (fun v W (k : GtEnv a e W) => admitG_ok a v (openT (openT [] ⟨#[116]⟩) ⟨#[116]⟩) ⟨#[116]⟩ 1 W ht k.sents)
  have H4 := hide (fun v W (k : GtEnv a e W) => admitG_ok a v (openT (openT [] ⟨#[116]⟩) ⟨#[116]⟩) ⟨#[116]⟩ 2 W ht k.sents)
  have H5 := hide (fun v W (k : Sep Foot.none w (GtO v (openT (openT [] ⟨#[116]⟩) ⟨#[116]⟩) :: []) W) => textG_ok hE k hf2)
  have HC := hide (fun W (k : GtEnv a e W) => codesA a W 11 k.sents (by decide) W (Below.refl _ _))
  rw [e1, n1] at H1
  rw [e2, n2] at H2
  rw [a1] at H3
  rw [a2] at H4
  rw [htx] at H5
  simp only [errA] at H1 H2 H3 H4 HC
  clear hE hf1 hf2 e1 e2 n1 n2 a1 a2 hl1 hl2 htx ht
  generalize openT (openT [] ⟨#[116]⟩) ⟨#[116]⟩ = g2 at *
  generalize openT [] ⟨#[116]⟩ = g1 at *
  go_enter Tryz.func6, Tryz.ntmps6
  go_wp2_with fail
  refine (Sep.call (L0 := []) HS.out (HN.out _)).mono ?_
  rintro e w1 ⟨_, ⟨v, rfl, rfl⟩, hs1⟩
  have HS1 := hide hs1
  clear hs1 HS HN
  go_wp2_with fail
  refine (Sep.call (L0 := [_]) HS1.out (H1.out _ _ (HE.out _ HS1.out.below))).mono ?_
  rintro e w2 ⟨_, ⟨rfl, rfl⟩, hs2⟩
  have HS2 := hide hs2
  clear hs2 HS1 H1
  go_wp2_with fail
  refine (Sep.call (L0 := [_]) HS2.out (H2.out _ _ (HE.out _ HS2.out.below))).mono ?_
  rintro e w3 ⟨_, ⟨rfl, rfl⟩, hs3⟩
  have HS3 := hide hs3
  clear hs3 HS2 H2
  go_wp2_with fail
  refine (Sep.call (L0 := [_]) HS3.out (H3.out _ _ (HE.out _ HS3.out.below))).mono ?_
  rintro e w4 ⟨_, ⟨rfl, rfl⟩, hs4⟩
  have HS4 := hide hs4
  clear hs4 HS3 H3
  go_wp2_with fail
  refine (HC.out _ (HE.out _ HS4.out.below)).mono ?_
  rintro e w5 ⟨rfl, hb5⟩
  have HS5 := hide (HS4.out.keep hb5)
  clear hb5 HS4 HC
  go_wp2_with fail
  refine (Sep.call (L0 := [_]) HS5.out (H4.out _ _ (HE.out _ HS5.out.below))).mono ?_
  rintro e w6 ⟨_, ⟨rfl, rfl⟩, hs6⟩
  have HS6 := hide hs6
  clear hs6 HS5 H4
  go_wp2_with fail
  refine (H5.out _ _ HS6.out).mono ?_
  rintro e w7 ⟨rfl, hs7⟩
  have HB := hide hs7.below
  clear hs7 HS6 H5
  go_wp2_with fail
  go_ret
  exact ⟨rfl, HB.out⟩
end Go.Proofs.YtogpjblikphpcaaGreatDoor
