/-
  What Get and GetText answer, held against the document's answer: the contracts that the law NumTells leans on.
-/
import Derived.Test.YtgcpljgdeoeppaaDoorTexts
import Derived.Test.YtgcpljgdeoeppaaDoorRefText
import Derived.Test.YtgcpljgdeoeppaaDoorCode
import Derived.Test.YtgcpljgdeoeppaaDoorPutErr
import Derived.Test.YtgcpljgdeoeppaaDoorBackWalk
namespace Go.Proofs.YtgcpljgdeoeppaaDoor
open Go.RowKit

theorem Sents.errs {w : World} {a : Nat → Addr} (h : Sents w a) : Errs w 55 (.pointer (some (a 0))) 55 (.pointer (some (a 1))) := ⟨h.cell 0 (by omega), h.cell 1 (by omega)⟩

/-- An answer of the program (a value, what is left, an error) beside the document's (a value, the place behind it, an error's number). -/
def Tells (s : ByteArray) (a : Nat → Addr) (R : ByteArray) (E : Value) (k c : Nat) : Prop :=
  (c = 0 ∧ E = .nilIface ∧ R = s.extract k s.size) ∨ (∃ i, i < 2 ∧ c = i + 1 ∧ E = .iface 55 (.pointer (some (a i))) ∧ R = ByteArray.empty)

theorem numOf_zero (s : ByteArray) (w : World) (hs : s.size ≤ 1000000) :
    Calls Tryd.prog 17 #[.string s, .int .i64 0] w fun r w' => r = .returned (.tuple #[.int .i64 (numOfOut s 0).1, .int .i64 (numOfOut s 0).2.1, .int .i64 (numOfOut s 0).2.2]) ∧ w' = w :=
  numOf_ok s 0 w hs (Nat.zero_le _)
theorem textOf_zero (s : ByteArray) (w : World) (hs : s.size ≤ 1000000) :
    Calls Tryd.prog 19 #[.string s, .int .i64 0] w fun r w' => r = .returned (.tuple #[.string (textOfOut s 0).1, .int .i64 (textOfOut s 0).2.1, .int .i64 (textOfOut s 0).2.2]) ∧ w' = w :=
  textOf_ok s 0 w hs (Nat.zero_le _)

/-- Read, against NumOf's answer. -/
theorem read_num {s : ByteArray} {a : Nat → Addr} {n : Nat} {r1 : ByteArray} {e : Value} (h : Read s 55 (.pointer (some (a 0))) 55 (.pointer (some (a 1))) n r1 e) :
    (numOfOut s 0).1 = n ∧ Tells s a r1 e (numOfOut s 0).2.1 (numOfOut s 0).2.2 := by
  unfold numOfOut
  rw [List.drop_zero]
  rcases h with ⟨k, hd, rfl, rfl⟩ | ⟨hd, rfl, rfl, rfl⟩ | ⟨⟨c, hc, hd⟩, rfl, rfl, rfl⟩
  · rw [hd]
    exact ⟨rfl, Or.inl ⟨rfl, rfl, by simp⟩⟩
  · rw [hd]
    exact ⟨rfl, Or.inr ⟨0, by omega, rfl, rfl, rfl⟩⟩
  · have : c = 2 := by have := dec_err _ _ hd; omega
    subst this
    rw [hd]
    exact ⟨rfl, Or.inr ⟨1, by omega, rfl, rfl, rfl⟩⟩

theorem getRes_read {s : ByteArray} {tT : TypeId} {xT : Value} {tB : TypeId} {xB : Value} {r : Ending} (h : GetRes s tT xT tB xB r) : ∃ n r1 e, r = .returned (.tuple #[.int .i64 (n : Nat), .string r1, e]) ∧ Read s tT xT tB xB n r1 e := by
  unfold GetRes at h
  split at h
  · rename_i n k hd
    exact ⟨n, _, _, h, Or.inl ⟨k, hd, rfl, rfl⟩⟩
  · rename_i hd
    exact ⟨0, _, _, h, Or.inr (Or.inl ⟨hd, rfl, rfl, rfl⟩)⟩
  · rename_i c hc hd
    exact ⟨0, _, _, h, Or.inr (Or.inr ⟨⟨c, fun e => hc (by rw [e]), hd⟩, rfl, rfl, rfl⟩)⟩

theorem get_tells (s : ByteArray) (a : Nat → Addr) (w : World) (hs : s.size ≤ 1000000) (h : Sents w a) :
    Calls Tryd.prog 16 #[.string s] w fun r w' => (∃ R E, r = .returned (.tuple #[.int .i64 (numOfOut s 0).1, .string R, E]) ∧ Tells s a R E (numOfOut s 0).2.1 (numOfOut s 0).2.2) ∧ Below w.heap.size w w' := by
  refine (get_any s _ _ _ _ w hs h.errs.text h.errs.bound).mono ?_
  rintro r w' ⟨hr, hb⟩
  obtain ⟨n, r1, e, rfl, hrd⟩ := getRes_read hr
  obtain ⟨h1, h2⟩ := read_num hrd
  exact ⟨⟨r1, e, by rw [h1], h2⟩, hb⟩

theorem extract_part (s : ByteArray) (k n : Nat) : (s.extract k s.size).extract 0 n = s.extract k (k + n) ∨ s.size < k + n := by
  by_cases h : s.size < k + n
  · exact Or.inr h
  · left
    apply ByteArray.ext
    apply Array.ext'
    rw [ByteArray.data_extract, Array.toList_extract, ByteArray.data_extract, Array.toList_extract, ByteArray.data_extract, Array.toList_extract]
    simp only [List.extract_eq_take_drop, List.drop_zero, Nat.sub_zero]
    rw [List.take_take, Nat.min_eq_left (by omega), show k + n - k = n by omega]

theorem extract_rest (s : ByteArray) (k n : Nat) (h : k + n ≤ s.size) : (s.extract k s.size).extract n (s.extract k s.size).size = s.extract (k + n) s.size := by
  apply ByteArray.ext
  apply Array.ext'
  rw [ByteArray.size_extract, ByteArray.data_extract, Array.toList_extract, ByteArray.data_extract, Array.toList_extract, ByteArray.data_extract, Array.toList_extract]
  simp only [List.extract_eq_take_drop, Nat.min_self]
  rw [List.drop_take, List.drop_drop, List.take_take]
  congr 1
  omega

theorem getText_tells (s : ByteArray) (a : Nat → Addr) (w : World) (hs : s.size ≤ 1000000) (h : Sents w a) :
    Calls Tryd.prog 18 #[.string s] w fun r w' => (∃ R E, r = .returned (.tuple #[.string (textOfOut s 0).1, .string R, E]) ∧ Tells s a R E (textOfOut s 0).2.1 (textOfOut s 0).2.2) ∧ Below w.heap.size w w' := by
  refine (getText_any s _ _ _ _ w hs h.errs.text h.errs.bound).mono ?_
  rintro r w' ⟨⟨n, r1, e, hrd, rfl⟩, hb⟩
  refine ⟨?_, hb⟩
  obtain ⟨h1, h2⟩ := read_num hrd
  have hbd := numOfOut_bd s 0 (Nat.zero_le _)
  unfold textOfOut
  generalize numOfOut s 0 = x at *
  obtain ⟨m, k, c⟩ := x
  simp only at h1 h2 hbd ⊢
  subst h1
  rcases h2 with ⟨rfl, rfl, rfl⟩ | ⟨i, hi, rfl, rfl, rfl⟩
  · rw [if_neg (by omega)]
    unfold TextOut
    have hsz : (s.extract k s.size).size = s.size - k := by rw [ByteArray.size_extract]; omega
    rw [hsz]
    by_cases h3 : 20000 < m
    · rw [if_pos h3, if_pos h3]
      exact ⟨_, _, rfl, Or.inr ⟨1, by omega, rfl, rfl, rfl⟩⟩
    · rw [if_neg h3, if_neg h3]
      by_cases h4 : s.size - k < m
      · rw [if_pos h4, if_pos h4]
        exact ⟨_, _, rfl, Or.inr ⟨0, by omega, rfl, rfl, rfl⟩⟩
      · rw [if_neg h4, if_neg h4]
        refine ⟨(s.extract k s.size).extract m (s.size - k), .nilIface, ?_, Or.inl ⟨rfl, rfl, ?_⟩⟩
        · exact congrArg (fun t => Ending.returned (.tuple #[.string t, .string ((s.extract k s.size).extract m (s.size - k)), .nilIface])) ((extract_part s k m).resolve_right (by omega))
        · have := extract_rest s k m (by omega)
          rw [hsz] at this
          exact this
  · rw [if_pos (by omega)]
    have hm : m = 0 := by
      rcases hrd with ⟨k', hd, _, he⟩ | ⟨_, h0, _⟩ | ⟨_, h0, _⟩
      · cases he
      · exact h0
      · exact h0
    subst hm
    unfold TextOut
    rw [if_neg (by omega), if_neg (by omega)]
    exact ⟨_, _, rfl, Or.inr ⟨i, hi, rfl, rfl, rfl⟩⟩
end Go.Proofs.YtgcpljgdeoeppaaDoor
