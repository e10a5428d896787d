/-
  Plain facts on a file's own signature: it is well, each block is found.
-/
import Derived.Test.YtgogjncamjbajacDoorFind
import Derived.Test.YtgogjncamjbajacDoorWrong
namespace Go.Proofs.YtgogjncamjbajacDoor
open Go.Sign (Blk)

theorem many_lt {len size i : Nat} (h1 : 1 ≤ size) (h : i < many len size) : i * size < len := by
  unfold many at h
  have := (Nat.le_div_iff_mul_le (show 0 < size by omega)).1 (show i + 1 ≤ (len + size - 1) / size from h)
  rw [Nat.succ_mul] at this
  omega
theorem many_ge {len size : Nat} (h1 : 1 ≤ size) : len ≤ many len size * size := by
  unfold many
  have := Nat.lt_mul_div_succ (len + size - 1) (show 0 < size by omega)
  rw [Nat.mul_add, Nat.mul_one, Nat.mul_comm] at this
  omega
theorem sigL_length (l : List UInt8) (size : Nat) : (sigL l size).length = many l.length size := sigK_length ..
theorem sigL_get (l : List UInt8) (size i : Nat) (h : i < (sigL l size).length) : (sigL l size)[i] = blk ((l.drop (i * size)).take size) := by
  simp [sigL, sigK]
theorem sigL_n (l : List UInt8) (size i : Nat) (h : i < (sigL l size).length) : (sigL l size)[i].n = ((min size (l.length - i * size) : Nat) : Int) := by
  rw [sigL_get, blk]
  simp
theorem sigL_strong (l : List UInt8) (size : Nat) : ∀ b ∈ sigL l size, b.strong < 4294967296 := by
  intro b hb
  simp only [sigL, sigK, List.mem_map] at hb
  obtain ⟨j, _, rfl⟩ := hb
  exact Go.Crc.crc_lt 0 _ (by decide)

theorem sig_fits (l : List UInt8) (size k : Nat) (h1 : 1 ≤ size) (hk : k < (sigL l size).length) : Go.Sign.fits size (decide (k + 1 = (sigL l size).length)) (sigL l size)[k] = true ∧ (k * size : Nat) + (sigL l size)[k].n ≤ l.length ∧ (k + 1 < (sigL l size).length → (sigL l size)[k].n = size) := by
  have hm := hk
  rw [sigL_length] at hm
  have hlt := many_lt h1 hm
  have hn := sigL_n l size k hk
  have hw : 0 ≤ (sigL l size)[k].weak ∧ (sigL l size)[k].weak < 4294967296 := by
    rw [sigL_get]
    exact wk_bounds _
  have hfull : k + 1 < (sigL l size).length → (sigL l size)[k].n = size := by
    intro h
    rw [sigL_length] at h
    have := many_lt h1 h
    rw [Nat.succ_mul] at this
    rw [hn]
    omega
  refine ⟨?_, ?_, hfull⟩
  · simp only [Go.Sign.fits, Bool.and_eq_true, Bool.or_eq_true, beq_iff_eq, decide_eq_true_eq]
    refine ⟨?_, hw⟩
    by_cases hlast : k + 1 = (sigL l size).length
    · by_cases he : (sigL l size)[k].n = size
      · exact Or.inl he
      · refine Or.inr ⟨⟨hlast, ?_⟩, ?_⟩
        · rw [hn]; omega
        · rw [hn] at he ⊢; omega
    · exact Or.inl (hfull (by omega))
  · rw [hn]; omega

theorem scan_sig (l : List UInt8) (size : Nat) (h1 : 1 ≤ size) (hl : l.length ≤ 4000) : ∀ d k, k + d = (sigL l size).length → Go.Sign.scanW size ((sigL l size).drop k) k ((k * size : Nat) : Int) = none := by
  intro d
  induction d with
  | zero =>
    intro k hk
    rw [List.drop_eq_nil_of_le (by omega), Go.Sign.scanW]
  | succ d ih =>
    intro k hk
    have hkl : k < (sigL l size).length := by omega
    obtain ⟨hf, ha, hn⟩ := sig_fits l size k h1 hkl
    rw [scan_step size (sigL l size) k _ hkl, if_pos hf, if_neg (by omega)]
    by_cases hlast : k + 1 = (sigL l size).length
    · rw [List.drop_eq_nil_of_le (by omega), Go.Sign.scanW]
    · rw [hn (by omega)]
      have := ih (k + 1) (by omega)
      rw [Nat.succ_mul] at this
      exact this
theorem fault_sig (l : List UInt8) (size : Nat) (h1 : 1 ≤ size) (h2 : size ≤ 64) (hl : l.length ≤ 4000) : Go.Sign.fault (sigL l size) size = (0, -1) := by
  have := scan_sig l size h1 hl _ 0 (Nat.zero_add _)
  simp only [List.drop_zero, Nat.zero_mul] at this
  unfold Go.Sign.fault
  rw [if_pos (by omega)]
  have h0 : ((0 : Nat) : Int) = 0 := rfl
  rw [h0] at this
  rw [this]

theorem find_le (b : Blk) : ∀ (l : List Blk) (i k : Nat), l[i]? = some b → (k : Int) ≤ findFrom b l k ∧ findFrom b l k ≤ ((k + i : Nat) : Int)
  | [], i, k, h => by simp at h
  | x :: r, i, k, h => by
    rw [findFrom]
    split
    · omega
    · rename_i hx
      cases i with
      | zero => simp at h; exact absurd h hx
      | succ i =>
        have := find_le b r i (k + 1) (by simpa using h)
        omega
theorem find_sig (l : List Blk) (i : Nat) (h : i < l.length) : 0 ≤ findOut l l[i] ∧ findOut l l[i] ≤ i := by
  have := find_le l[i] l i 0 (List.getElem?_eq_getElem h)
  unfold findOut
  omega
end Go.Proofs.YtgogjncamjbajacDoor
