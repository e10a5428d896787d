/-
  Numbers as digits, by the library's contracts; contract of strconv.Itoa.
-/
import Derived.Test.YtogpjblikphpcaaGreatDoorBase
import Derived.Test.YtogpjblikphpcaaGreatDoorDigits
import Derived.Test.YtogpjblikphpcaaGreatDoorLib
import Derived.Deep.RegionHeld3
import Derived.WalkSmall
namespace Go.Digits
theorem dec_digits (n : Nat) : Lib.decDigits n = digits n := by
  induction n using Nat.strongRecOn with
  | _ n ih =>
    rw [Lib.decDigits, digits]
    split
    · rfl
    · rw [ih (n / 10) (by omega)]
theorem itoa_digits {n : Int} (h : 0 ≤ n) : Lib.itoa n = digits n.toNat := by
  unfold Lib.itoa
  rw [if_neg (by omega), dec_digits]
theorem digitVal_ofNat (k : Nat) (h : k < 10) : Lib.digitVal (UInt8.ofNat (48 + k)) = some k := by
  have : ∀ k : Fin 10, Lib.digitVal (UInt8.ofNat (48 + k.val)) = some k.val := by decide
  exact this ⟨k, h⟩
theorem decFrom_snoc : ∀ (l : List UInt8) (acc n d : Nat) (b : UInt8), Lib.decFrom acc l = some n → Lib.digitVal b = some d → Lib.decFrom acc (l ++ [b]) = some (n * 10 + d)
  | [], acc, n, d, b, h, hb => by simp [Lib.decFrom] at h ⊢; subst h; simp [hb]
  | a :: l, acc, n, d, b, h, hb => by
    simp only [List.cons_append, Lib.decFrom] at h ⊢
    cases ha : Lib.digitVal a with
    | none => rw [ha] at h; cases h
    | some x =>
      rw [ha] at h
      exact decFrom_snoc l _ n d b h hb
theorem decFrom_digits (n : Nat) : Lib.decFrom 0 (digits n) = some n := by
  induction n using Nat.strongRecOn with
  | _ n ih =>
    by_cases h : n < 10
    · rw [digits_small h]
      simp only [Lib.decFrom, digitVal_ofNat n h]
      simp
    · rw [digits_big (by omega), decFrom_snoc _ _ _ _ _ (ih (n / 10) (by omega)) (digitVal_ofNat _ (Nat.mod_lt _ (by decide)))]
      congr 1
      omega
theorem digits_cons (n : Nat) : ∃ b r, digits n = b :: r ∧ b ≠ 45 ∧ b ≠ 43 := by
  cases h : digits n with
  | nil => exact absurd h (digits_ne n)
  | cons b r =>
    have := digits_all n
    rw [h] at this
    simp only [List.all_cons, Bool.and_eq_true, isDigit, decide_eq_true_eq] at this
    refine ⟨b, r, rfl, fun e => ?_, fun e => ?_⟩ <;> subst e <;> exact absurd this.1 (by decide)
theorem atoi_digits (n : Nat) : Lib.atoi (digits n) = some (n : Int) := by
  obtain ⟨b, r, h, h1, h2⟩ := digits_cons n
  have hd := decFrom_digits n
  rw [h] at hd ⊢
  unfold Lib.atoi
  simp only [beq_iff_eq, h1, h2, if_false]
  simp [Lib.decNat, hd]
end Go.Digits
namespace Go.Proofs.YtogpjblikphpcaaGreatDoor
open Go.RowKit
open Go.Digits (digits)

theorem var_below {P : Program} {w w' : World} {n : String} {cs : Array Value} (h : w.var? P n = some cs) (hb : Below w.heap.size w w') : w'.var? P n = some cs := by
  unfold World.var? at *
  cases hg : P.globalNamed n with
  | none => simp [hg] at h
  | some g =>
    simp only [hg, Option.bind_some] at h ⊢
    have hlt : g < w.heap.size := by
      rcases Nat.lt_or_ge g w.heap.size with h' | h'
      · exact h'
      · rw [Array.getElem?_eq_none h'] at h; simp at h
    rw [hb.block g hlt]
    exact h
theorem below_grow (w : World) (k : Nat) (os : Array Obj) : Below w.heap.size w (Sort.grow (w.drewN k) os) := by
  refine (below_drewN (Below.refl w.heap.size w) k).trans ⟨rfl, rfl, rfl, by simp, fun j hj => ?_⟩
  show ((w.drewN k).heap ++ os)[j]? = _
  rw [Array.getElem?_append_left (by simpa using hj)]
theorem itoa_ok (n : Int) (W : World) (h0 : 0 ≤ n) (h1 : n ≤ 9223372036854775807) (hT : Lib.TabIs Tryz.prog W "internal/strconv.uint64pow10" .u64 Lib.pow10Tab) :
    Calls Tryz.prog 69 #[.int .i64 n] W fun r w' => r = .returned (.string (str (digits n.toNat))) ∧ Below W.heap.size W w' := by
  refine (Tryz.strconv_Itoa n (by omega) (by omega) W hT).mono ?_
  rintro r w' ⟨rfl, k, os, rfl⟩
  refine ⟨?_, below_grow W k os⟩
  rw [Go.Digits.itoa_digits h0]
  rfl
theorem digits_ten {n : Nat} (h : n ≤ 99999999999) : (digits n).length ≤ 11 := Go.Digits.digits_length n 10 (by omega)
end Go.Proofs.YtogpjblikphpcaaGreatDoor
