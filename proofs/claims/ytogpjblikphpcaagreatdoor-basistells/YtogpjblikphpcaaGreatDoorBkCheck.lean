/-
  Contracts of package basis's check, wordsOf.
-/
import Derived.Test.YtogpjblikphpcaaGreatDoorBasisAll
import Derived.Test.YtogpjblikphpcaaGreatDoorBkErr
import Derived.Test.YtogpjblikphpcaaGreatDoorFName
import Derived.Test.YtogpjblikphpcaaGreatDoorFmtUint
import Derived.Test.YtogpjblikphpcaaGreatDoorSep
namespace Go.Proofs.YtogpjblikphpcaaGreatDoor
open Go.RowKit
open Go.Basis
open Go.Digits (digits)

/-- What check finds. -/
def chkE (nm : ByteArray) (n : Int) : Nat := if Go.Files.isNm nm = false then 5 else if n < 0 ∨ 4000 < n then 2 else 0
theorem chkE_mark (m : Mk) : chkE m.name m.n = markE m := rfl

set_option maxHeartbeats 1000000 in
set_option maxRecDepth 100000 in
theorem bkCheck_ok {a : Nat → Addr} (nm : ByteArray) (n : Int) (W : World) (hE : BkErrs W a) (hs : nm.size ≤ 1000000) : Calls Tryz.prog 50 #[.string nm, .int .i64 n] W fun r w' => r = .returned (errA a (chkE nm n)) ∧ w' = W := by
  have HN := hide (name_ok nm W hs)
  have g1 := hE.c1
  have g4 := hE.c4
  clear hE
  cases h : Go.Files.isNm nm with
  | false =>
    have e : chkE nm n = 5 := by unfold chkE; rw [if_pos h]
    rw [e]
    rw [h] at HN
    simp only [errA]
    clear e h hs
    go_enter Tryz.func50, Tryz.ntmps50
    go_wp2_with fail
    refine HN.out.mono ?_
    rintro r w1 ⟨rfl, rfl⟩
    go_wp2_with fail
    go_ret
    exact ⟨rfl, rfl⟩
  | true =>
    rw [h] at HN
    have e : chkE nm n = if n < 0 ∨ 4000 < n then 2 else 0 := by unfold chkE; rw [if_neg (by rw [h]; simp)]
    rw [e]
    clear e h hs
    by_cases h0 : n < 0
    · rw [if_pos (.inl h0)]
      simp only [errA]
      go_enter Tryz.func50, Tryz.ntmps50
      go_wp2_with fail
      refine HN.out.mono ?_
      rintro r w1 ⟨rfl, rfl⟩
      go_wp2_with fail
      go_ret
      exact ⟨rfl, rfl⟩
    · have h0' : 0 ≤ n := by omega
      by_cases h1 : 4000 < n
      · rw [if_pos (.inr h1)]
        simp only [errA]
        go_enter Tryz.func50, Tryz.ntmps50
        go_wp2_with fail
        refine HN.out.mono ?_
        rintro r w1 ⟨rfl, rfl⟩
        go_wp2_with fail
        go_ret
        exact ⟨rfl, rfl⟩
      · have h1' : n ≤ 4000 := by omega
        rw [if_neg (by omega)]
        simp only [errA]
        go_enter Tryz.func50, Tryz.ntmps50
        go_wp2_with fail
        refine HN.out.mono ?_
        rintro r w1 ⟨rfl, rfl⟩
        go_wp2_with fail
        go_ret
        exact ⟨rfl, rfl⟩

set_option maxHeartbeats 2000000 in
set_option maxRecDepth 100000 in
theorem bkWordsOf_ok (m : Mk) (W : World) (hT : Lib.TabIs Tryz.prog W "internal/strconv.uint64pow10" .u64 Lib.pow10Tab) (hs : m.name.size ≤ 1000000) (h0 : 0 ≤ m.n) (h1 : m.n ≤ 4000) (h2 : 0 ≤ m.c) (h3 : m.c ≤ 4294967295) :
    Calls Tryz.prog 51 #[mkV m] W fun r w' => r = .returned (.string (str (lineM m))) ∧ Below W.heap.size W w' := by
  obtain ⟨nm, n, c⟩ := m
  simp only at hs h0 h1 h2 h3
  obtain ⟨u, rfl⟩ := Int.eq_ofNat_of_zero_le h2
  have HI := hide (fun W' (q : Below W.heap.size W W') => itoa_ok n W' h0 (by omega) (var_below hT q))
  have HU := hide (fun W' (q : Below W.heap.size W W') => fmtUint_ok u W' (by omega) (var_below hT q))
  have hdn : (str (digits n.toNat)).size ≤ 11 := by rw [str_len]; exact digits_ten (by omega)
  have hdu : (str (digits u)).size ≤ 11 := by rw [str_len]; exact digits_ten (by omega)
  have HR : Hid (nm ++ ⟨#[32]⟩ ++ str (digits n.toNat) ++ ⟨#[32]⟩ ++ str (digits u) = str (lineM ⟨nm, n, u⟩)) := by
    refine ext_of_list ?_
    rw [appendL, appendL, appendL, appendL, strL, strL, strL]
    simp [lineM]
  generalize str (lineM ⟨nm, n, u⟩) = R at *
  generalize str (digits n.toNat) = A at *
  generalize str (digits u) = B at *
  have p1 := fun W => run_string_add_sum (P := Tryz.prog) W nm ⟨#[32]⟩ (by rw [show (ByteArray.mk #[32]).size = 1 from rfl]; omega)
  have p2 := fun W => run_string_add_sum (P := Tryz.prog) W (nm ++ ⟨#[32]⟩) A (by rw [ByteArray.size_append, show (ByteArray.mk #[32]).size = 1 from rfl]; omega)
  have p3 := fun W => run_string_add_sum (P := Tryz.prog) W (nm ++ ⟨#[32]⟩ ++ A) ⟨#[32]⟩ (by rw [ByteArray.size_append, ByteArray.size_append, show (ByteArray.mk #[32]).size = 1 from rfl]; omega)
  have p4 := fun W => run_string_add_sum (P := Tryz.prog) W (nm ++ ⟨#[32]⟩ ++ A ++ ⟨#[32]⟩) B (by rw [ByteArray.size_append, ByteArray.size_append, ByteArray.size_append, show (ByteArray.mk #[32]).size = 1 from rfl]; omega)
  have hwu : IntKind.u64.wrap (u : Int) = u := by simp [IntKind.wrap, IntKind.bits, IntKind.signed]; omega
  have c0 : (W.alloc (.cells #[.string nm, .int .i64 n, .int .u32 u] 60)).cell? ⟨W.heap.size, 0, none⟩ = some (.string nm) := by simp
  have c1 : (W.alloc (.cells #[.string nm, .int .i64 n, .int .u32 u] 60)).cell? ⟨W.heap.size, 1, none⟩ = some (.int .i64 n) := by simp
  have c2 : (W.alloc (.cells #[.string nm, .int .i64 n, .int .u32 u] 60)).cell? ⟨W.heap.size, 2, none⟩ = some (.int .u32 u) := by simp
  have HP : Hid (W.heap.size ≤ (W.alloc (.cells #[.string nm, .int .i64 n, .int .u32 u] 60)).heap.size) := by simp [Hid]
  have Hb : Hid (Below W.heap.size W (W.alloc (.cells #[.string nm, .int .i64 n, .int .u32 u] 60))) := (Below.refl _ _).alloc (Nat.le_refl _) _
  clear hT hdn hdu hs
  simp only [mkV]
  go_enter Tryz.func51, Tryz.ntmps51
  go_wp2_with fail
  generalize W.alloc (.cells #[.string nm, .int .i64 n, .int .u32 u] 60) = W1 at *
  generalize hp : W.heap.size = p at *
  have HPe := hide hp
  clear hp
  go_region_held3 (fun w' => Hid (Below p W w') ∧ w'.cell? ⟨p, 0, none⟩ = some (.string nm) ∧ w'.cell? ⟨p, 1, none⟩ = some (.int .i64 n) ∧ w'.cell? ⟨p, 2, none⟩ = some (.int .u32 u)) (first | exact ⟨Hb.out.drew, c0, c1, c2⟩ | exact ⟨Hb4.out, e0, e1, e2⟩ | exact ⟨Hb5.out, f0, f1, f2⟩)
    (first
      | (go_at_call 69; refine (HI.out _ Hb.out.drew).mono ?_; rintro r w4 ⟨rfl, hb4⟩; have e0 : w4.cell? ⟨p, 0, none⟩ = some (.string nm) := (hb4.cell (World.block_lt_of_cell? W1 _ c0)).trans c0; have e1 : w4.cell? ⟨p, 1, none⟩ = some (.int .i64 n) := (hb4.cell (World.block_lt_of_cell? W1 _ c1)).trans c1; have e2 : w4.cell? ⟨p, 2, none⟩ = some (.int .u32 u) := (hb4.cell (World.block_lt_of_cell? W1 _ c2)).trans c2; have Hp4 : Hid (p ≤ w4.heap.size) := Nat.le_trans HP.out hb4.size; have Hb4 : Hid (Below p W w4) := hide (Hb.out.drew.trans (hb4.mono (HP.out))); clear hb4)
      | (go_at_call 72; refine (HU.out _ Hb4.out).mono ?_; rintro r w5 ⟨rfl, hb5⟩; have f0 : w5.cell? ⟨p, 0, none⟩ = some (.string nm) := (hb5.cell (World.block_lt_of_cell? w4 _ e0)).trans e0; have f1 : w5.cell? ⟨p, 1, none⟩ = some (.int .i64 n) := (hb5.cell (World.block_lt_of_cell? w4 _ e1)).trans e1; have f2 : w5.cell? ⟨p, 2, none⟩ = some (.int .u32 u) := (hb5.cell (World.block_lt_of_cell? w4 _ e2)).trans e2; have Hb5 : Hid (Below p W w5) := hide (Hb4.out.trans (hb5.mono Hp4.out)); clear hb5))
  all_goals
    go_wp2_with fail
    go_ret
    exact ⟨by rw [← HR.out]; rfl, by have h := Hb5.out; rw [← HPe.out] at h; exact h⟩
end Go.Proofs.YtogpjblikphpcaaGreatDoor
