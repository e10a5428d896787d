/-
  Plain: marks of one name, taken by how many bytes, tell how far a file is right; a file's own marks, one behind the other. No program.
-/
import Derived.Test.YtogpjblikphpcaaGreatDoorBasisMath
namespace Go.Basis

/-- A mark of this name whose bytes there are. -/
def isHere (nm : ByteArray) (n : Nat) (m : Mk) : Bool := decide (m.name = nm) && (decide (0 ≤ m.n) && decide (m.n ≤ n))
def hereL (l : List Mk) (nm : ByteArray) (n : Nat) : List Mk := l.filter (isHere nm n)
theorem here_snoc {l : List Mk} {nm : ByteArray} {n i : Nat} (h : i < l.length) : hereL (l.take (i + 1)) nm n = hereL (l.take i) nm n ++ (if isHere nm n l[i] = true then [l[i]] else []) := by
  rw [List.take_succ_eq_append_getElem h, hereL, List.filter_append, ← hereL]
  congr 1
  simp only [List.filter_cons, List.filter_nil]
theorem here_mem {l : List Mk} {nm : ByteArray} {n : Nat} {m : Mk} : m ∈ hereL l nm n ↔ m ∈ l ∧ m.name = nm ∧ 0 ≤ m.n ∧ m.n ≤ n := by
  unfold hereL isHere
  simp [List.mem_filter]
/-- What may be held of k behind these marks. -/
structure FarG (data : ByteArray) (p : List Mk) (k : Nat) : Prop where
  has : k = 0 ∨ ∃ m ∈ p, m.n = k ∧ sumTo data k = m.c
  top : ∀ m ∈ p, ∀ j : Nat, m.n = j → sumTo data j = m.c → j ≤ k
theorem FarG.nil (data : ByteArray) : FarG data [] 0 := ⟨.inl rfl, fun _ h => by cases h⟩
theorem FarG.hit {data : ByteArray} {p : List Mk} {j : Nat} {m : Mk} (hm : m.n = j) (hs : sumTo data j = m.c) (hle : ∀ x ∈ p, x.n ≤ m.n) : FarG data (p ++ [m]) j := by
  refine ⟨.inr ⟨m, by simp, hm, hs⟩, fun x hx i hi _ => ?_⟩
  rcases List.mem_append.1 hx with hx | hx
  · have := hle x hx; omega
  · obtain rfl := List.mem_singleton.1 hx; omega
theorem FarG.miss {data : ByteArray} {p : List Mk} {k j : Nat} {m : Mk} (h : FarG data p k) (hm : m.n = j) (hs : sumTo data j ≠ m.c) : FarG data (p ++ [m]) k := by
  refine ⟨?_, fun x hx i hi hc => ?_⟩
  · rcases h.has with h | ⟨x, hx, h⟩
    · exact .inl h
    · exact .inr ⟨x, List.mem_append_left _ hx, h⟩
  · rcases List.mem_append.1 hx with hx | hx
    · exact h.top x hx i hi hc
    · obtain rfl := List.mem_singleton.1 hx
      obtain rfl : j = i := by omega
      exact absurd hc hs
theorem FarG.done {data nm : ByteArray} {p l : List Mk} {k : Nat} (h : FarG data p k) (hp : p.Perm (hereL l nm data.size)) : farL l nm data = k := by
  have hm : ∀ x, x ∈ p ↔ x ∈ l ∧ x.name = nm ∧ 0 ≤ x.n ∧ x.n ≤ data.size := fun x => by rw [hp.mem_iff, here_mem]
  have hk : k ≤ data.size := by
    rcases h.has with h | ⟨x, hx, h1, _⟩
    · omega
    · have := ((hm x).1 hx).2.2.2; omega
  refine farF_max hk (fun h1 => ?_) (fun j h1 h2 => ?_)
  · rcases h.has with h | ⟨x, hx, h3, h4⟩
    · omega
    · obtain ⟨g1, g2, _, _⟩ := (hm x).1 hx
      unfold hasM
      rw [List.any_eq_true]
      exact ⟨x, g1, by simp [g2, h3, h4]⟩
  · cases hh : hasM l nm data j with
    | false => rfl
    | true =>
      unfold hasM at hh
      rw [List.any_eq_true] at hh
      obtain ⟨x, hx, h3⟩ := hh
      simp only [Bool.and_eq_true, decide_eq_true_eq] at h3
      obtain ⟨g1, g2, g3⟩ := h3
      have := h.top x ((hm x).2 ⟨hx, g1, by omega, by omega⟩) j g2 g3
      omega
/-- A sum goes on from the front of a text. -/
theorem sum_on {data : ByteArray} {i j : Nat} (h : i ≤ j) : (Go.Crc.crc (Go.Crc.crc 0 (data.data.toList.take i)) ((data.data.toList.take j).drop i) : Nat) = Go.Crc.crc 0 (data.data.toList.take j) := by
  rw [Go.Crc.crc_append]
  congr 1
  have := List.take_append_drop i (data.data.toList.take j)
  rwa [List.take_take, Nat.min_eq_left h] at this
/-- The first of a file's own marks. -/
def marksP (nm data : ByteArray) (step k : Nat) : List Mk := (List.range k).map fun i => ⟨nm, ((step * (i + 1) : Nat) : Int), sumTo data (step * (i + 1))⟩
theorem marksP_succ (nm data : ByteArray) (step k : Nat) : marksP nm data step (k + 1) = marksP nm data step k ++ [⟨nm, ((step * (k + 1) : Nat) : Int), sumTo data (step * (k + 1))⟩] := by
  unfold marksP
  rw [List.range_succ, List.map_append]
  rfl
theorem marksP_all (nm data : ByteArray) (step : Nat) : marksP nm data step (data.size / step) = marksL nm data step := rfl
theorem marksP_length (nm data : ByteArray) (step k : Nat) : (marksP nm data step k).length = k := by simp [marksP]
theorem marks_go {size step k : Nat} (h : 1 ≤ step) : step * (k + 1) ≤ size ↔ k < size / step := by
  rw [Nat.lt_iff_add_one_le, Nat.le_div_iff_mul_le (by omega), Nat.mul_comm]
end Go.Basis
