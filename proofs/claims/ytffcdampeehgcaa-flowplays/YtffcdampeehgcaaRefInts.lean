/-
  The document's SameInts on two slices that read as lists.
-/
import Derived.Test.YtffcdampeehgcaaSameInts
import Derived.Test.YtffcdampeehgcaaRowVal
namespace Go.Proofs.Ytffcdampeehgcaa
open Go.RowKit

theorem sameInts1 (u v : Value) (l m : List Int) (w : World) (hu : Row1 intV w u l) (hv : Row1 intV w v m) (hl : l.length ≤ 1000000) (hm : m.length ≤ 1000000) :
    Calls Try.prog 14 #[u, v] w fun r w' => r = .returned (.bool (decide (l = m))) ∧ Below w.heap.size w w' := by
  obtain ⟨a, c, rfl, ha⟩ := hu
  obtain ⟨a', c', rfl, ha'⟩ := hv
  have e1 : ∃ b o, (0 < l.length → a = some ⟨b, o, none⟩) ∧ ∀ j (h : j < l.length), w.cell? ⟨b, o + j, none⟩ = some (.int .i64 l[j]) := by
    by_cases h : 0 < l.length
    · obtain ⟨b, o, e, hc⟩ := ha h
      exact ⟨b, o, fun _ => e, hc⟩
    · exact ⟨0, 0, fun k => absurd k h, fun j hj => by omega⟩
  have e2 : ∃ b o, (0 < m.length → a' = some ⟨b, o, none⟩) ∧ ∀ j (h : j < m.length), w.cell? ⟨b, o + j, none⟩ = some (.int .i64 m[j]) := by
    by_cases h : 0 < m.length
    · obtain ⟨b, o, e, hc⟩ := ha' h
      exact ⟨b, o, fun _ => e, hc⟩
    · exact ⟨0, 0, fun k => absurd k h, fun j hj => by omega⟩
  obtain ⟨b, o, h1, h2⟩ := e1
  obtain ⟨b', o', h3, h4⟩ := e2
  exact sameInts_ok a b o c l a' b' o' c' m w h1 h3 h2 h4 hl hm
end Go.Proofs.Ytffcdampeehgcaa
