/-
  Plain mathematics of epochs: what was written is read; what was admitted is stale. No program, no walk.
-/
import Derived.Test.YtogpjblikphpcaaGreatDoorGtLine
import Derived.Test.YtogpjblikphpcaaGreatDoorGateRead
namespace Go.Gate
open Go.Files
open Go.Digits (numberOf digits)
open Go.Proofs.YtogpjblikphpcaaGreatDoor (str strL str_len lenL)

theorem ten_out {t : ByteArray} {n : Nat} (h : isNm t = true) : (10 : UInt8) ∉ t.data.toList ++ 32 :: digits n := by
  intro hm
  rcases List.mem_append.1 hm with hm | hm
  · unfold isNm at h
    simp only [Bool.and_eq_true, List.all_eq_true] at h
    exact absurd (h.1 _ hm) (by decide)
  · rcases List.mem_cons.1 hm with hm | hm
    · exact absurd hm (by decide)
    · have := List.all_eq_true.1 (Go.Digits.digits_all n) _ hm
      exact absurd this (by decide)
theorem lt_empty {t : ByteArray} (h : isNm t = true) : lt ⟨#[]⟩ t = true := by
  unfold isNm at h
  simp only [Bool.and_eq_true, decide_eq_true_eq] at h
  have hl := lenL t
  unfold lt
  rw [ByteArray.toList_eq, ByteArray.toList_eq]
  cases ht : t.data.toList with
  | nil => rw [ht] at hl; simp at hl; omega
  | cons b r => rfl
theorem upto_lt {g r : Toks} {ab : ByteArray} {p : ByteArray × Int} (hu : Upto g ab) (h : Fit (g ++ p :: r)) : lt ab p.1 = true := by
  rcases hu.last with ⟨rfl, rfl⟩ | ⟨g', n, rfl⟩
  · exact lt_empty (h.ok p (by simp)).1
  · have := h.rise
    unfold RiseT at this
    rw [List.append_assoc, List.pairwise_append] at this
    have h2 := this.2.1
    simp only [List.singleton_append, List.pairwise_cons] at h2
    exact h2.1 p (by simp)
theorem readD_text : ∀ (r g : Toks) (ab : ByteArray), Upto g ab → Fit (g ++ r) → readD (cutL (textB r)) g ab g.length = (g ++ r, 0, (g ++ r).length)
  | [], g, ab, _, _ => by
    rw [List.append_nil]
    rfl
  | p :: r, g, ab, hu, hf => by
    obtain ⟨hn, he⟩ := hf.ok p (by simp)
    have hlt := upto_lt hu hf
    have hb : brk 10 (textB (p :: r)) = some (p.1.data.toList ++ 32 :: digits p.2.toNat, textB r) := by
      have : textB (p :: r) = (p.1.data.toList ++ 32 :: digits p.2.toNat) ++ 10 :: textB r := by
        unfold textB
        rw [List.flatMap_cons]
        simp [lineB]
      rw [this]
      exact brk_of (ten_out hn)
    have hlen : g.length < 20 := by
      have := hf.len
      simp only [List.length_append, List.length_cons] at this
      omega
    obtain ⟨hu2, _, _⟩ := hu.more hlt hn he hlen
    have hln := lineN_lineB hn he hlt
    rw [cutL_some hb]
    cases hc : cutL (textB r) with
    | nil => exact absurd hc (cutL_ne _)
    | cons z t =>
      rw [readD, hln]
      simp only [if_true]
      rw [if_pos hlen, ← hc]
      have e : g ++ p :: r = (g ++ [(p.1, p.2)]) ++ r := by simp
      have := readD_text r (g ++ [(p.1, p.2)]) p.1 hu2 (by rw [← e]; exact hf)
      rw [List.length_append, List.length_singleton] at this
      rw [this, e]
/-- What was written is read. -/
theorem read_text {g : Toks} (h : Fit g) : readG (textB g) = (g, 0, g.length) := readD_text g [] ⟨#[]⟩ Upto.start h
/-- A new epoch. -/
theorem open_last {l : Toks} (h : Fit l) {t : ByteArray} (ho : openE l t = 0) : openN l t = lastT l t + 1 ∧ lastT (openT l t) t = lastT l t + 1 ∧ admE (openT l t) t (lastT l t + 1) = 0 ∧ (0 < lastT l t → admE (openT l t) t (lastT l t) = 11) := by
  have hb := last_bound h t
  have hl : lastT (openT l t) t = lastT l t + 1 := by
    unfold openT setT
    unfold openE at ho
    rw [if_pos ho, last_ins h.rise, if_pos rfl]
    omega
  refine ⟨by unfold openN; rw [if_pos ho], hl, ?_, fun h0 => ?_⟩
  · rw [adm_last (h.open t), hl, if_neg (by omega), if_neg (by simp)]
  · rw [adm_last (h.open t), hl, if_neg (by omega), if_pos (by omega)]
theorem open_not {l : Toks} {t : ByteArray} (ho : openE l t ≠ 0) : openT l t = l := by
  unfold openT setT
  unfold openE at ho
  rw [if_neg ho]
theorem openE_code (l : Toks) (t : ByteArray) : openE l t ≤ 12 := by
  have := code_cases l t (lastT l t + 1)
  unfold openE
  omega
theorem admE_code (l : Toks) (t : ByteArray) (n : Int) : admE l t n ≤ 12 := by
  unfold admE
  split
  · omega
  · split <;> omega
end Go.Gate
