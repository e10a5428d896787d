/-
  What is asked of package basis: the contracts of its functions; the closed fact.
-/
import Derived.Test.YtogpjblikphpcaaGreatDoorBasisMath
import Derived.Test.YtogpjblikphpcaaGreatDoorErrV
import Derived.Test.YtogpjblikphpcaaGreatDoorRows23
namespace Go.Proofs.YtogpjblikphpcaaGreatDoor
open Go.RowKit
open Go.Basis

def mkV (m : Mk) : Value := .agg #[.string m.name, .int .i64 m.n, .int .u32 m.c]
/-- A slice that reads as marks. -/
abbrev MkRow (w : World) (v : Value) (l : List Mk) : Prop := Row3 (fun m : Mk => .string m.name) (fun m => .int .i64 m.n) (fun m => .int .u32 m.c) w v l
/-- Package basis's contracts. -/
structure BasisAll (a : Nat → Addr) (Env : World → Prop) : Prop where
  env : ∀ {w w' : World}, Env w → Below w.heap.size w w' → Env w'
  text : ∀ m W, m.name.size ≤ 100 → 0 ≤ m.c → m.c ≤ 4294967295 → Env W → Calls Tryz.prog 24 #[mkV m] W fun r w' => r = .returned (.tuple #[.string (textM m), errA a (markE m)]) ∧ Below W.heap.size W w'
  read : ∀ s W, s.size ≤ 1000 → Env W → Calls Tryz.prog 26 #[.string s] W fun r w' => r = .returned (.tuple #[mkV (readM s.data.toList).2, errA a (readM s.data.toList).1]) ∧ Below W.heap.size W w'
  far : ∀ v l nm data W, l.length ≤ 1000 → nm.size ≤ 100 → data.size ≤ 1000 → MkRow W v l → (∀ m ∈ l, m.name.size ≤ 100) → Calls Tryz.prog 31 #[v, .string nm, .string data] W fun r w' => r = .returned (.int .i64 (farL l nm data : Nat)) ∧ Below W.heap.size W w'
  marks : ∀ nm data step W, nm.size ≤ 100 → data.size ≤ 4001 → Env W → Calls Tryz.prog 28 #[.string nm, .string data, .int .i64 step] W fun r w' =>
    ∃ v, r = .returned (.tuple #[v, errA a (marksE nm data.size step)]) ∧ MkRow w' v (if marksE nm data.size step = 0 then marksL nm data step.toNat else []) ∧ Below W.heap.size W w'
theorem mkRow_one {w : World} (m : Mk) (T : TypeId) : MkRow (w.alloc (.cells #[.string m.name, .int .i64 m.n, .int .u32 m.c] T)) (.slice (some ⟨w.heap.size, 0, none⟩) 1 1) [m] :=
  ⟨_, 1, rfl, fun _ => ⟨_, 0, rfl, fun j hj => by
    simp only [List.length_singleton] at hj
    obtain rfl : j = 0 := by omega
    simp⟩⟩
theorem digits_val (n : Nat) (l : List UInt8) (h : Go.Digits.numberOf l 10 = some n) : Go.Digits.digits n = l := (Go.Digits.number_canon h).1.symm
def mark9 : Mk := ⟨⟨#[97]⟩, 9, 3421780262⟩
def data9 : ByteArray := ⟨#[49, 50, 51, 52, 53, 54, 55, 56, 57, 120, 121]⟩
theorem mark_nine : textM mark9 = ⟨#[97, 32, 57, 32, 51, 52, 50, 49, 55, 56, 48, 50, 54, 50]⟩ ∧ markE mark9 = 0 ∧ farL [mark9] ⟨#[97]⟩ data9 = 9 := by
  have he : markE mark9 = 0 := by decide
  refine ⟨?_, he, ?_⟩
  · unfold textM
    rw [if_pos he]
    unfold lineM
    have e1 : Go.Digits.digits mark9.n.toNat = [57] := digits_val _ _ (by decide)
    have e2 : Go.Digits.digits mark9.c.toNat = [51, 52, 50, 49, 55, 56, 48, 50, 54, 50] := digits_val _ _ (by decide)
    rw [e1, e2]
    rfl
  · refine farF_max (by decide) (fun _ => ?_) (fun j h1 _ => ?_)
    · have : sumTo data9 9 = 3421780262 := by decide +kernel
      unfold hasM
      simp [mark9, this]
    · unfold hasM
      simp only [List.any_cons, List.any_nil, Bool.or_false, mark9]
      have : ¬ (9 : Int) = (j : Int) := by omega
      simp [this]

set_option maxHeartbeats 1000000 in
set_option maxRecDepth 100000 in
theorem marked_ok {a : Nat → Addr} {Env : World → Prop} (hB : BasisAll a Env) (w : World) (hE : Env w) :
    Calls Tryz.prog 22 #[] w fun r w' => r = .returned (.bool true) ∧ Below w.heap.size w w' := by
  obtain ⟨h1, h2, h3⟩ := mark_nine
  have HT := hide (hB.text mark9 w (by decide) (by decide) (by decide) hE)
  have HF := hide (fun v W (q : MkRow W v [mark9]) => hB.far v [mark9] ⟨#[97]⟩ data9 W (by decide) (by decide) (by decide) q (by decide))
  rw [h1, h2] at HT
  rw [h3] at HF
  simp only [errA, mkV, mark9] at HT
  have HR := hide (fun W => mkRow_one (w := W) mark9 60)
  simp only [mark9] at HR HF
  clear hE h1 h2 h3
  go_enter Tryz.func22, Tryz.ntmps22
  go_wp2_with fail
  refine HT.out.mono ?_
  rintro r w1 ⟨rfl, hb1⟩
  have Hb1 := hide hb1
  have HR1 := hide (HR.out w1)
  clear hb1 HT HR
  go_wp2_with fail
  refine (HF.out _ _ HR1.out).mono ?_
  rintro r w2 ⟨rfl, hb2⟩
  have Hb2 := hide (bthen Hb1.out (bthen ((Below.refl _ _).alloc (Nat.le_refl _) _) hb2))
  clear hb2 HF HR1
  go_wp2_with fail
  go_ret
  exact ⟨rfl, Hb2.out⟩
end Go.Proofs.YtogpjblikphpcaaGreatDoor
