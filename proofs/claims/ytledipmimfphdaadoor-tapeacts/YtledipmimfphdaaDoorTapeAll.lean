/-
  What is asked of package tape besides: Cut, On, Power, Read; sizes.
-/
import Derived.Test.YtledipmimfphdaaDoorTapeGo
namespace Go.Proofs.YtledipmimfphdaaDoor
open Go.RowKit
open Go.Tape

/-- All of package tape's contracts. -/
structure TapeAll (a : Nat → Addr) (Env : World → Prop) (D : Value → Tp → Fam) : Prop where
  go : TapeGo a Env D
  cut : ∀ v d n W, n ≤ 9223372036854775807 → Env W → Tri Tryd.prog 8 #[v, .int .i64 n] [D v d] (fun e L => e = .returned (errA a (d.cutE n)) ∧ L = [D v (d.set n)]) W
  on : ∀ v d W, Tri Tryd.prog 18 #[v] [D v d] (fun e L => e = .returned (.tuple #[]) ∧ L = [D v d.on]) W
  power : ∀ v d W, Tri Tryd.prog 12 #[v] [D v d] (fun e L => e = .returned (.bool (!d.off)) ∧ L = [D v d]) W
  read : ∀ s W, s.size ≤ 1048576 → Env W → Tri Tryd.prog 13 #[.string s] [] (fun e L => ∃ x, e = .returned (.tuple #[x, .int .i64 ((readT s.data.toList).2 : Nat)]) ∧ L = [RowF strV x (texts s)]) W
/-- A tape that is not too long, nor its cut. -/
def Fits (d : Tp) : Prop := d.b.size ≤ 1048576 ∧ d.cut ≤ 9223372036854775807
theorem Fits.app {d : Tp} (h : Fits d) (s : ByteArray) : Fits (d.app s) := by
  obtain ⟨h1, h2⟩ := h
  unfold Tp.app
  split
  · exact ⟨h1, h2⟩
  · rename_i hn
    simp only [not_or] at hn
    split
    · rename_i hc
      refine ⟨?_, h2⟩
      have : ((rec1 s).extract 0 d.cut.toNat).size ≤ (rec1 s).size := by
        rw [← lenL, ← lenL (rec1 s), extractL, List.length_take, List.length_drop]
        omega
      show (d.b ++ _).size ≤ _
      rw [ByteArray.size_append]
      omega
    · refine ⟨?_, ?_⟩
      · show (d.b ++ _).size ≤ _
        rw [ByteArray.size_append]
        omega
      · show (if 0 ≤ d.cut then d.cut - (rec1 s).size else d.cut) ≤ _
        split <;> omega
theorem Fits.set {d : Tp} (h : Fits d) {n : Int} (hn : n ≤ 9223372036854775807) : Fits (d.set n) := by
  unfold Tp.set
  split
  · exact h
  · exact ⟨h.1, hn⟩
theorem Fits.on {d : Tp} (h : Fits d) : Fits d.on := ⟨h.1, by show (-1 : Int) ≤ _; omega⟩
theorem Fits.back {d : Tp} (h : Fits d) : Fits d.back := by
  refine ⟨?_, by show (-1 : Int) ≤ _; omega⟩
  show (d.b.extract 0 _).size ≤ _
  have := h.1
  rw [← lenL] at this
  rw [← lenL, extractL, List.length_take, List.length_drop]
  omega
theorem appE_le (d : Tp) (s : ByteArray) : d.appE s ≤ 12 := by
  unfold Tp.appE
  repeat' split
  all_goals omega
theorem cutE_le (d : Tp) (n : Int) : d.cutE n ≤ 12 := by
  unfold Tp.cutE
  repeat' split
  all_goals omega
theorem texts_len (s : ByteArray) : 4 * (texts s).length ≤ s.size := by
  obtain ⟨r, h1, h2, _⟩ := readT_sound _ s.data.toList (Nat.le_refl _)
  unfold texts
  rw [List.length_map, ← lenL s, h1]
  have : ∀ l : List (List UInt8), 4 * l.length ≤ (recsB l).length := by
    intro l
    induction l with
    | nil => simp [recsB]
    | cons x l ih =>
      have e : recsB (x :: l) = recB x ++ recsB l := by simp [recsB]
      have := Go.Digits.digits_length_pos x.length
      rw [e, List.length_append, List.length_cons, recB_length]
      omega
  have := this (readT s.data.toList).1
  rw [List.length_append]
  rw [← h1]
  omega
end Go.Proofs.YtledipmimfphdaaDoor
