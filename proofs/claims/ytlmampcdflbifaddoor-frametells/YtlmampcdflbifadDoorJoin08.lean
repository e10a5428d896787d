/-
  The contracts of package frame that FrameTells and FrameBits ask for.
  From what is shown of package frame (FrameGo) to what FrameTells and FrameBits ask.
-/
import Derived.Test.YtlmampcdflbifadDoorJoin07
namespace Go.Proofs.YtlmampcdflbifadDoor
open Go.RowKit
open Go.Frame (Fr frErr encF encOut rdOut rdF)

/-- The contracts of package frame that FrameTells and FrameBits ask for. -/
structure FrameTell (a : Nat → Addr) : Prop where
  check : ∀ f W, f.data.size ≤ 1000000 → Sents W a → Calls Tryd.prog 38 #[frV f] W fun r w' => (∃ x, r = .returned x ∧ Codes w' x (frErr f)) ∧ Below W.heap.size W w'
  encode : ∀ f W, f.data.size ≤ 1000000 → Sents W a → Calls Tryd.prog 36 #[frV f] W fun r w' => (∃ x, r = .returned (.tuple #[.string (str (encOut f)), x]) ∧ NilOr x (frErr f) ∧ Codes w' x (frErr f)) ∧ Below W.heap.size W w'
  decode : ∀ s W, s.size ≤ 1000000 → Sents W a → Calls Tryd.prog 40 #[.string s] W fun r w' => (∃ x, r = .returned (.tuple #[frV (rdOut s.data.toList).1, x]) ∧ NilOr x (rdOut s.data.toList).2 ∧ Codes w' x (rdOut s.data.toList).2) ∧ Below W.heap.size W w'
theorem FrameTell.all {a : Nat → Addr} (h : FrameTell a) : FrameAll fun W => Sents W a where
  encode := fun f W hf hS => (h.encode f W hf hS).mono fun _ _ ⟨⟨x, e, hx, _⟩, hb⟩ => ⟨⟨x, e, hx⟩, hb⟩
  decode := fun s W hs hS => (h.decode s W hs hS).mono fun _ _ ⟨⟨x, e, hx, _⟩, hb⟩ => ⟨⟨x, e, hx⟩, hb⟩

/-- What FrameBits asks besides: the error of a false sum is the bare one. -/
def FrameSum (a : Nat → Addr) : Prop := ∀ s W, s.size ≤ 1000000 → Sents W a → (rdOut s.data.toList).2 = 10 → Calls Tryd.prog 40 #[.string s] W fun r w' =>
  r = .returned (.tuple #[frV zeroF, .iface 201 (.pointer (some (a 9)))]) ∧ Below W.heap.size W w'
end Go.Proofs.YtlmampcdflbifadDoor

namespace Go.Proofs.YtlmampcdflbifadDoor
open Go.RowKit
open Go.Frame (Fr frErr encF encOut rdOut rdF rdB)

def sentsE (a : Nat → Addr) : FrVs := ⟨201, .pointer (some (a 0)), 201, .pointer (some (a 1)), 201, .pointer (some (a 3)), 201, .pointer (some (a 9))⟩
theorem sents_frEr {a : Nat → Addr} {w : World} (h : Sents w a) : FrEr (sentsE a) w := ⟨h.cell 0 (by decide), h.cell 1 (by decide), h.cell 3 (by decide), h.cell 9 (by decide)⟩
theorem codes_errG (a : Nat → Addr) (w : World) (h : Sents w a) (c : Nat) (hc : c = 0 ∨ c = 1 ∨ c = 2 ∨ c = 4 ∨ c = 10) : Codes w (errG (sentsE a) c) c := by
  rcases hc with rfl | rfl | rfl | rfl | rfl
  · exact codes_nil w
  · exact codes_bare w a h 0 (by decide)
  · exact codes_bare w a h 1 (by decide)
  · exact codes_bare w a h 3 (by decide)
  · exact codes_bare w a h 9 (by decide)
theorem frErr_codes (f : Fr) : frErr f = 0 ∨ frErr f = 1 ∨ frErr f = 2 ∨ frErr f = 4 ∨ frErr f = 10 := by
  rcases Go.Frame.frErr_code f with h | h | h <;> simp [h]
theorem num_code {s : List UInt8} {c : Nat} (h : Go.Sign.num s = .error c) : c = 1 ∨ c = 2 := by
  unfold Go.Sign.num at h
  split at h
  · cases h
  · rename_i e hd
    cases h
    exact dec_err _ _ hd
theorem txt_code {s : List UInt8} {c : Nat} (h : Go.Delta.txt s = .error c) : c = 1 ∨ c = 2 := by
  unfold Go.Delta.txt at h
  split at h
  · rename_i e hd
    cases h
    exact num_code hd
  · split at h
    · cases h; simp
    · split at h
      · cases h; simp
      · cases h
theorem rdB_code {s : List UInt8} {c : Nat} (h : rdB s = .error c) : c = 1 ∨ c = 2 ∨ c = 4 := by
  unfold rdB at h
  split at h
  · cases h; simp
  · split at h
    · rename_i e hd
      cases h
      rcases num_code hd with h | h <;> simp [h]
    · split at h
      · rename_i e hd
        cases h
        rcases num_code hd with h | h <;> simp [h]
      · split at h
        · rename_i e hd
          cases h
          rcases txt_code hd with h | h <;> simp [h]
        · split at h
          · split at h
            · cases h
            · rename_i hne
              cases h
              rcases Go.Frame.frErr_code _ with h | h | h
              · exact absurd h hne
              · simp [h]
              · simp [h]
          · cases h; simp
theorem rdOut_code (s : List UInt8) : (rdOut s).2 = 0 ∨ (rdOut s).2 = 1 ∨ (rdOut s).2 = 2 ∨ (rdOut s).2 = 4 ∨ (rdOut s).2 = 10 := by
  cases h : rdF s with
  | ok f => rw [rdOut_ok h]; simp
  | error c =>
    rw [rdOut_err h]
    unfold rdF at h
    split at h
    · cases h; simp
    · split at h
      · rcases rdB_code h with h | h | h <;> simp [h]
      · cases h; simp
theorem frameTell (a : Nat → Addr) (h : FrameGo (sentsE a)) : FrameTell a where
  check := fun f W hf hS => (h.check f W hf (sents_frEr hS)).mono fun _ _ ⟨h1, hb⟩ => ⟨⟨_, h1, codes_errG a _ (hS.below hb) _ (frErr_codes f)⟩, hb⟩
  encode := fun f W hf hS => (h.encode f W hf (sents_frEr hS)).mono fun _ _ ⟨h1, hb⟩ => ⟨⟨_, h1, errG_nilOr _ _, codes_errG a _ (hS.below hb) _ (frErr_codes f)⟩, hb⟩
  decode := fun s W hs hS => (h.decode s W hs (sents_frEr hS)).mono fun _ _ ⟨h1, hb⟩ => ⟨⟨_, h1, errG_nilOr _ _, codes_errG a _ (hS.below hb) _ (rdOut_code _)⟩, hb⟩
theorem rdOut_none {s : List UInt8} (h : (rdOut s).2 ≠ 0) : (rdOut s).1 = zeroF := by
  cases h' : rdF s with
  | ok f => rw [rdOut_ok h'] at h; exact absurd rfl h
  | error c => rw [rdOut_err h']
theorem frameSum (a : Nat → Addr) (h : FrameGo (sentsE a)) : FrameSum a := fun s W hs hS hc => (h.decode s W hs (sents_frEr hS)).mono fun _ _ ⟨h1, hb⟩ => ⟨by rw [h1, hc, rdOut_none (by rw [hc]; decide)]; rfl, hb⟩
end Go.Proofs.YtlmampcdflbifadDoor
