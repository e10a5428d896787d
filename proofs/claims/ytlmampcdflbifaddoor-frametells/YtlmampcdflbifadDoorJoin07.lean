/-
  An error that is nil where there is none.
  What the laws of stage 8 ask of package frame, as contracts (to be shown over the program's own text); the closed fact of stage 8.
  The four errors that package frame meets; what is left to show of package frame (FrameGo), and that it gives all that the laws ask.
  Contract of the laws' coded at nil and at the twelve errors, over this dump.
  An error by its number alone, as the laws of packhorselaw2 ask it.
-/
import Derived.Test.YtlmampcdflbifadDoorJoin01
import Derived.Test.YtlmampcdflbifadDoorRefRFrame
namespace Go.Proofs.YtlmampcdflbifadDoor
open Go.RowKit

/-- Nil where there is no error. -/
structure NilOr (x : Value) (c : Nat) : Prop where
  none : c = 0 → x = .nilIface
  some : c ≠ 0 → ∃ t y, x = .iface t y
end Go.Proofs.YtlmampcdflbifadDoor

namespace Go.Proofs.YtlmampcdflbifadDoor
open Go.RowKit
open Go.Frame (Fr frErr encF encOut rdOut)

/-- Where it is asked no more than whether there is an error: Env: what the errors' variables hold. -/
structure FrameAll (Env : World → Prop) : Prop where
  encode : ∀ f W, f.data.size ≤ 1000000 → Env W → Calls Tryd.prog 36 #[frV f] W fun r w' => (∃ x, r = .returned (.tuple #[.string (str (encOut f)), x]) ∧ NilOr x (frErr f)) ∧ Below W.heap.size W w'
  decode : ∀ s W, s.size ≤ 1000000 → Env W → Calls Tryd.prog 40 #[.string s] W fun r w' => (∃ x, r = .returned (.tuple #[frV (rdOut s.data.toList).1, x]) ∧ NilOr x (rdOut s.data.toList).2) ∧ Below W.heap.size W w'

def fr0 : Fr := ⟨97, 1, 2, ⟨#[120, 121]⟩⟩
theorem fr0_ok : frErr fr0 = 0 := by decide
set_option maxRecDepth 100000 in
theorem fr0_enc : encOut fr0 = [97, 1, 2, 2, 120, 121, 111, 114, 184, 40] := by decide

set_option maxHeartbeats 1000000 in
set_option maxRecDepth 100000 in
/-- The closed fact. -/
theorem framed_ok (Env : World → Prop) (w : World) (hS : Env w) (hEB : ∀ w w', Env w → Below w.heap.size w w' → Env w') (hA : FrameAll Env) :
    Calls Tryd.prog 34 #[] w fun r w' => r = .returned (.bool true) ∧ Below w.heap.size w w' := by
  have HE := hide (hA.encode fr0 w (by decide) hS)
  have HD := hide (fun W (h : Env W) => hA.decode (str (encOut fr0)) W (by rw [fr0_enc]; decide) h)
  have hrd : rdOut (str (encOut fr0)).data.toList = (fr0, 0) := by
    rw [strL, encOut, if_pos fr0_ok]
    exact rdOut_ok (Go.Frame.rdF_enc fr0_ok)
  rw [hrd] at HD
  rw [fr0_ok] at HE
  have hz : ((str (encOut fr0)).size : Int) = 10 := by rw [fr0_enc]; rfl
  have hx : (str (encOut fr0)).extract 0 6 = ⟨#[97, 1, 2, 2, 120, 121]⟩ := by rw [fr0_enc]; rfl
  have HV := hide (fun w' hb => hEB w w' hS hb)
  generalize str (encOut fr0) = S at *
  simp only [frV, fr0] at HE HD
  rw [show ((97 : UInt8).toNat : Int) = 97 from rfl] at HE HD
  clear hS hEB hA hrd
  go_enter Tryd.func34, Tryd.ntmps34
  go_wp2_with fail
  refine HE.out.mono ?_
  rintro r w1 ⟨⟨x1, rfl, hx1⟩, hb1⟩
  obtain rfl := hx1.none rfl
  have Hb1 := hide hb1
  clear hb1 hx1 HE
  go_wp2_with fail
  refine (HD.out _ (HV.out _ Hb1.out)).mono ?_
  rintro r w2 ⟨⟨x2, rfl, hx2⟩, hb2⟩
  obtain rfl := hx2.none rfl
  have Hb2 := hide (bthen Hb1.out hb2)
  clear hb2 hx2 HD
  have Hb3 := hide (Hb2.out.alloc Hb2.out.size (.cells #[.int .u8 97, .int .i64 1, .int .i64 2, .string ⟨#[120, 121]⟩] 70))
  have hz6 : (6 : Int) ≤ S.size := by omega
  go_wp2
  go_ret
  exact ⟨rfl, Hb3.out⟩
end Go.Proofs.YtlmampcdflbifadDoor

namespace Go.Proofs.YtlmampcdflbifadDoor
open Go.RowKit
open Go.Frame (Fr frErr encF encOut rdOut rdF)

structure FrVs where
  tT : TypeId
  xT : Value
  tB : TypeId
  xB : Value
  tK : TypeId
  xK : Value
  tS : TypeId
  xS : Value
/-- An error by its number. -/
def errG (e : FrVs) : Nat → Value
  | 0 => .nilIface
  | 1 => .iface e.tT e.xT
  | 2 => .iface e.tB e.xB
  | 4 => .iface e.tK e.xK
  | _ => .iface e.tS e.xS
structure FrEr (e : FrVs) (w : World) : Prop where
  text : w.cell? ⟨4, 0, none⟩ = some (.iface e.tT e.xT)
  bound : w.cell? ⟨0, 0, none⟩ = some (.iface e.tB e.xB)
  kind : w.cell? ⟨1, 0, none⟩ = some (.iface e.tK e.xK)
  sum : w.cell? ⟨9, 0, none⟩ = some (.iface e.tS e.xS)
theorem FrEr.below {e : FrVs} {w w' : World} (h : FrEr e w) (hb : Below w.heap.size w w') : FrEr e w' :=
  ⟨(hb.cell (World.block_lt_of_cell? _ _ h.text)).trans h.text, (hb.cell (World.block_lt_of_cell? _ _ h.bound)).trans h.bound, (hb.cell (World.block_lt_of_cell? _ _ h.kind)).trans h.kind, (hb.cell (World.block_lt_of_cell? _ _ h.sum)).trans h.sum⟩
theorem errG_form (e : FrVs) (c : Nat) (h : c ≠ 0) : ∃ t x, errG e c = .iface t x := by
  unfold errG
  split
  · exact absurd rfl h
  all_goals exact ⟨_, _, rfl⟩
theorem errG_nilOr (e : FrVs) (c : Nat) : NilOr (errG e c) c := ⟨fun h => by rw [h]; rfl, errG_form e c⟩
/-- What is to be shown over the program's own text. -/
structure FrameGo (e : FrVs) : Prop where
  check : ∀ f W, f.data.size ≤ 1000000 → FrEr e W → Calls Tryd.prog 38 #[frV f] W fun r w' => r = .returned (errG e (frErr f)) ∧ Below W.heap.size W w'
  encode : ∀ f W, f.data.size ≤ 1000000 → FrEr e W → Calls Tryd.prog 36 #[frV f] W fun r w' => r = .returned (.tuple #[.string (str (encOut f)), errG e (frErr f)]) ∧ Below W.heap.size W w'
  decode : ∀ s W, s.size ≤ 1000000 → FrEr e W → Calls Tryd.prog 40 #[.string s] W fun r w' => r = .returned (.tuple #[frV (rdOut s.data.toList).1, errG e (rdOut s.data.toList).2]) ∧ Below W.heap.size W w'
theorem FrameGo.all {e : FrVs} (h : FrameGo e) : FrameAll fun W => FrEr e W where
  encode := fun f W hf hE => (h.encode f W hf hE).mono fun _ _ ⟨h1, hb⟩ => ⟨⟨_, h1, errG_nilOr e _⟩, hb⟩
  decode := fun s W hs hE => (h.decode s W hs hE).mono fun _ _ ⟨h1, hb⟩ => ⟨⟨_, h1, errG_nilOr e _⟩, hb⟩
end Go.Proofs.YtlmampcdflbifadDoor

namespace Go.Proofs.YtlmampcdflbifadDoor
open Go.RowKit

set_option maxHeartbeats 400000 in
theorem coded_nil (c : Int) (w : World) : Calls Tryd.prog 37 #[.nilIface, .int .i64 c] w fun r w' => r = .returned (.bool (c == 0)) ∧ w' = w := by
  by_cases hc : c = 0
  · subst hc
    go_enter Tryd.func37, Tryd.ntmps37
    go_wp2_with fail
    refine (code_nil _).mono ?_
    rintro e w1 ⟨rfl, rfl⟩
    go_wp2
    go_ret
    exact ⟨rfl, rfl⟩
  · have hb : ((0 : Int) == c) = false := by simp; omega
    have hb2 : Hid ((c == 0) = false) := by simp [Hid]; omega
    clear hc
    go_enter Tryd.func37, Tryd.ntmps37
    go_wp2_with fail
    refine (code_nil _).mono ?_
    rintro e w1 ⟨rfl, rfl⟩
    go_wp2
    go_ret
    exact ⟨by rw [hb2.out]; rfl, rfl⟩

set_option maxHeartbeats 400000 in
set_option maxRecDepth 100000 in
theorem coded_sent (k : Nat) (hk : k < 12) (a : Nat → Addr) (c : Int) (w : World) (h : Sents w a) :
    Calls Tryd.prog 37 #[.iface 201 (.pointer (some (a k))), .int .i64 c] w fun r w' => r = .returned (.bool (c == (k : Int) + 1)) ∧ Below w.heap.size w w' := by
  have H := hide h
  clear h
  by_cases hc : c = (k : Int) + 1
  · subst hc
    have hb : ((k : Int) + 1 == (k : Int) + 1) = true := by simp
    go_enter Tryd.func37, Tryd.ntmps37
    go_wp2_with fail
    refine (code_sent k hk a _ H.out).mono ?_
    rintro e w1 ⟨rfl, hb1⟩
    have Hb1 := hide hb1
    clear hb1
    go_wp2
    go_ret
    exact ⟨by rw [hb]; rfl, Hb1.out⟩
  · have hb : ((k : Int) + 1 == c) = false := by simp; omega
    have hb2 : Hid ((c == (k : Int) + 1) = false) := by simp [Hid]; omega
    clear hc
    go_enter Tryd.func37, Tryd.ntmps37
    go_wp2_with fail
    refine (code_sent k hk a _ H.out).mono ?_
    rintro e w1 ⟨rfl, hb1⟩
    have Hb1 := hide hb1
    clear hb1
    go_wp2
    go_ret
    exact ⟨by rw [hb2.out]; rfl, Hb1.out⟩
end Go.Proofs.YtlmampcdflbifadDoor

namespace Go.Proofs.YtlmampcdflbifadDoor
open Go.RowKit

/-- An error by its number alone, behind whatever happens. -/
def Codes (w' : World) (x : Value) (c : Nat) : Prop :=
  ∀ W, Below w'.heap.size w' W → Calls Tryd.prog 37 #[x, .int .i64 c] W fun r W' => r = .returned (.bool true) ∧ Below W.heap.size W W'
theorem codes_nil (w : World) : Codes w .nilIface 0 := fun W _ => (coded_nil 0 W).mono fun _ _ ⟨h1, h2⟩ => ⟨by rw [h1]; rfl, by rw [h2]; exact Below.refl _ _⟩
theorem codes_bare (w : World) (a : Nat → Addr) (hS : Sents w a) (j : Nat) (hj : j < 12) : Codes w (.iface 201 (.pointer (some (a j)))) (j + 1) := fun W hW => by
  rw [show ((j + 1 : Nat) : Int) = (j : Int) + 1 by omega]
  exact (coded_sent j hj a _ W (hS.below hW)).mono fun _ _ ⟨h1, h2⟩ => ⟨by rw [h1]; simp, h2⟩
theorem Codes.below {w w' : World} {x : Value} {c : Nat} (h : Codes w x c) (hb : Below w.heap.size w w') : Codes w' x c := fun W hW => h W (bthen hb hW)
end Go.Proofs.YtlmampcdflbifadDoor
