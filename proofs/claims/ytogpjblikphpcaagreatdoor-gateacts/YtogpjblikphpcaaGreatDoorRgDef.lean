/-
  The document's gate at a block; contracts of its Find, may, Last over this dump.
-/
import Derived.Test.YtogpjblikphpcaaGreatDoorGateMath
import Derived.Test.YtogpjblikphpcaaGreatDoorSep
import Derived.Test.YtogpjblikphpcaaGreatDoorRows23
import Derived.Test.YtogpjblikphpcaaGreatDoorRefNames
import Derived.Test.YtogpjblikphpcaaGreatDoorSameB
import Derived.Deep.QuietTactic
import Derived.BigQuiet
import Derived.WalkSmall
namespace Go.Proofs.YtogpjblikphpcaaGreatDoor
open Go.RowKit
open Go.Gate
open Go.Files (isNm)

def tokS (p : ByteArray × Int) : Value := .string p.1
def tokN (p : ByteArray × Int) : Value := .int .i64 p.2
/-- The document's gate's objects. -/
abbrev rgtL (p : Nat) (l : Toks) (v : Value) : List Fam := [CellsF p 41 [v], OwnF 100 2 v l.length (cs2 tokS tokN l)]
/-- The document's gate at a block. -/
def RGt (p : Nat) (l : Toks) : Fam := Pack (rgtL p l)
theorem RGt.open {M0 : Foot} {w0 w : World} {p : Nat} {l : Toks} {L : List Fam} (h : Sep M0 w0 (RGt p l :: L) w) : ∃ v, Sep M0 w0 (CellsF p 41 [v] :: OwnF 100 2 v l.length (cs2 tokS tokN l) :: L) w := h.unpack
theorem RGt.shut {M0 : Foot} {w0 w : World} {p : Nat} {v : Value} {l : Toks} {L : List Fam} (h : Sep M0 w0 (CellsF p 41 [v] :: OwnF 100 2 v l.length (cs2 tokS tokN l) :: L) w) : Sep M0 w0 (RGt p l :: L) w := Sep.pack (f := rgtL p l) v h
/-- A new one. -/
theorem Sep.rgate {M0 : Foot} {w0 w : World} {L : List Fam} (h : Sep M0 w0 L w) : Sep M0 w0 (RGt w.heap.size [] :: L) (w.alloc (.cells #[.slice none 0 0] 41)) :=
  RGt.shut ((h.nil 100 2).fresh 41 [.slice none 0 0])
/-- What a gate's cells say. -/
theorem RGt.cells {M0 : Foot} {w0 w : World} {p : Nat} {l : Toks} {L : List Fam} (h : Sep M0 w0 (RGt p l :: L) w) : ∃ a c, w.cell? ⟨p, 0, none⟩ = some (.slice a l.length c) ∧
    (0 < l.length → ∃ b, a = some ⟨b, 0, none⟩ ∧ ∀ j (hj : j < l.length), w.cell? ⟨b, j * 2, none⟩ = some (.string l[j].1) ∧ w.cell? ⟨b, j * 2 + 1, none⟩ = some (.int .i64 l[j].2)) := by
  obtain ⟨v, hS⟩ := RGt.open h
  obtain ⟨a, c, rfl, hr⟩ := Row2.of_own hS.sw.own
  have c0 := (hS.cell 0).1
  simp only [List.getElem?_cons_zero] at c0
  refine ⟨a, c, c0, fun hp => ?_⟩
  obtain ⟨b, o, rfl, hc⟩ := hr hp
  have ho := hS.sw.own
  rcases ho.2 with ⟨e, e0⟩ | ⟨g', c', cur, e, _, _, _⟩
  · omega
  · cases e
    refine ⟨_, rfl, fun j hj => ?_⟩
    have := hc j hj
    simpa [tokS, tokN] using this
theorem getT_step {l : Toks} {t : ByteArray} {j : Nat} (h : j < l.length) (hn : getT (l.take j) t = none) : getT (l.take (j + 1)) t = if l[j].1 = t then some l[j].2 else none := by
  rw [List.take_succ_eq_append_getElem h]
  have hap : ∀ (x : Toks) (q : ByteArray × Int), getT x t = none → getT (x ++ [q]) t = getT [q] t := by
    intro x
    induction x with
    | nil => intro q _; rfl
    | cons p r ih =>
      intro q hx
      rw [getT] at hx
      split at hx
      · cases hx
      · rename_i e
        rw [List.cons_append, getT, if_neg e, ih q hx]
  rw [hap _ _ hn, getT, getT]
theorem getT_found {l : Toks} {t : ByteArray} {j : Nat} (h : j < l.length) (hn : getT (l.take j) t = none) (he : l[j].1 = t) : getT l t = some l[j].2 := by
  have h1 := getT_step h hn
  rw [if_pos he] at h1
  have hap : ∀ (x y : Toks) (n : Int), getT x t = some n → getT (x ++ y) t = some n := by
    intro x
    induction x with
    | nil => intro y n hx; cases hx
    | cons p r ih =>
      intro y n hx
      rw [getT] at hx
      rw [List.cons_append, getT]
      split at hx
      · rename_i e; rw [if_pos e]; exact hx
      · rename_i e; rw [if_neg e]; exact ih y n hx
  have := hap _ (l.drop (j + 1)) _ h1
  rwa [List.take_append_drop] at this

set_option maxHeartbeats 1000000 in
set_option maxRecDepth 100000 in
theorem rfind_ok {M0 : Foot} {w0 W : World} {L : List Fam} {p : Nat} {l : Toks} (h0 : Sep M0 w0 (RGt p l :: L) W) (t : ByteArray) (hl : l.length ≤ 1000) :
    Calls Tryz.prog 45 #[.pointer (some ⟨p, 0, none⟩), .string t] W fun e w' => ((e = .returned (.int .i64 (-1)) ∧ getT l t = none) ∨ ∃ (j : Nat) (hj : j < l.length), e = .returned (.int .i64 j) ∧ getT l t = some l[j].2) ∧ w' = W := by
  obtain ⟨a, c, c0, hc⟩ := RGt.cells h0
  have HC := hide hc
  have HF := hide (fun j (h : j < l.length) (hn : getT (l.take j) t = none) (he : l[j].1 = t) => getT_found h hn he)
  have HG := hide (fun j (h : j < l.length) (hn : getT (l.take j) t = none) => getT_step h hn)
  have HZ : Hid (l.take l.length = l) := List.take_length
  have hl' : (l.length : Int) ≤ 1000 := by omega
  clear h0 hc
  go_enter Tryz.func45, Tryz.ntmps45
  go_wp2_with fail
  go_loop [5] (fun t5 => ∃ j : Nat, t5 = .int .i64 j ∧ j ≤ l.length ∧ Hid (getT (l.take j) t = none)) (fun t5 => l.length - (intOf t5).toNat)
  case atStart => exact ⟨0, rfl, Nat.zero_le _, rfl⟩
  case round =>
    obtain ⟨j, rfl, hj, Hj⟩ := hrel
    by_cases hlt : j < l.length
    · have hlt' : (j : Int) < l.length := by omega
      obtain ⟨b, rfl, hcc⟩ := HC.out (by omega)
      obtain ⟨d0, _⟩ := hcc j hlt
      have hF := HF.out j hlt Hj.out
      have hG := HG.out j hlt Hj.out
      have HFj : Hid (∃ (hj : j < l.length), l[j].1 = t → getT l t = some l[j].2) := ⟨hlt, hF⟩
      clear hcc HC HF HG HZ hF
      by_cases hx : l[j].1 = t
      · have e2 := same_bytes hx
        have hgt := HFj.out
        have HGt : Hid (∃ (hj : j < l.length), getT l t = some l[j].2) := ⟨hlt, hgt.2 hx⟩
        clear hgt HFj hG hx
        generalize l[j].1 = x at *
        go_wp2_with fail
        go_ret
        obtain ⟨h1, h2⟩ := HGt.out
        exact ⟨.inr ⟨j, rfl, h1, h2⟩, rfl⟩
      · have e2 := other_bytes hx
        rw [if_neg hx] at hG
        have HG := hide hG
        clear hG HFj hx
        generalize l[j].1 = x at *
        go_wp2_with fail
        go_round
        case rel => exact ⟨j + 1, by go_num, by omega, HG.out⟩
        case measure => simp [intOf]; omega
    · have hle : (l.length : Int) ≤ (j : Int) := by omega
      obtain rfl : j = l.length := by omega
      have hz := HZ.out ▸ Hj.out
      have Hz := hide hz
      clear hz HC HF HG HZ Hj
      go_wp2_with fail
      go_ret
      exact ⟨.inl ⟨rfl, Hz.out⟩, rfl⟩

set_option maxHeartbeats 1000000 in
set_option maxRecDepth 100000 in
theorem rlast_ok {M0 : Foot} {w0 W : World} {L : List Fam} {p : Nat} {l : Toks} (h0 : Sep M0 w0 (RGt p l :: L) W) (t : ByteArray) (hl : l.length ≤ 1000) :
    Calls Tryz.prog 18 #[.pointer (some ⟨p, 0, none⟩), .string t] W fun e w' => e = .returned (.int .i64 (lastT l t)) ∧ w' = W := by
  have HF := hide (rfind_ok h0 t hl)
  obtain ⟨a, c, c0, hc⟩ := RGt.cells h0
  have HC := hide hc
  have hl' : (l.length : Int) ≤ 1000 := by omega
  have Hn : Hid (getT l t = none → lastT l t = 0) := fun h => by unfold lastT; rw [h]; rfl
  have Hs : Hid (∀ n, getT l t = some n → lastT l t = n) := fun n h => by unfold lastT; rw [h]; rfl
  clear h0 hc
  generalize lastT l t = x at *
  go_enter Tryz.func18, Tryz.ntmps18
  go_wp2_with fail
  refine HF.out.mono ?_
  rintro r w1 ⟨⟨rfl, hg⟩ | ⟨j, hj, rfl, hg⟩, rfl⟩
  · obtain rfl := Hn.out hg
    clear HF HC Hn Hs hg
    go_wp2_with fail
    go_ret
    exact ⟨rfl, rfl⟩
  · have hx := Hs.out _ hg
    obtain ⟨b, rfl, hcc⟩ := HC.out (by omega)
    obtain ⟨_, d1⟩ := hcc j hj
    have hj' : (j : Int) < l.length := by omega
    rw [← hx] at d1
    clear HF HC Hn Hs hg hcc hx
    go_wp2_with fail
    go_ret
    exact ⟨rfl, rfl⟩

set_option maxHeartbeats 1000000 in
set_option maxRecDepth 100000 in
theorem rmay_ok {M0 : Foot} {w0 W : World} {L : List Fam} {p : Nat} {l : Toks} (h0 : Sep M0 w0 (RGt p l :: L) W) (t : ByteArray) (hl : l.length ≤ 1000) (ht : t.size ≤ 1000000) :
    Calls Tryz.prog 41 #[.pointer (some ⟨p, 0, none⟩), .string t] W fun e w' => e = .returned (.int .i64 (mayT l t)) ∧ w' = W := by
  have HF := hide (rfind_ok h0 t hl)
  have HN := hide (isName_ok t W ht)
  obtain ⟨a, c, c0, _⟩ := RGt.cells h0
  have hl' : (l.length : Int) ≤ 1000 := by omega
  have H1 : Hid (isNm t = false → mayT l t = 5) := fun h => by unfold mayT; rw [if_pos h]
  have H2 : Hid (isNm t = true → getT l t = none → 20 ≤ l.length → mayT l t = 8) := fun h h1 h2 => by unfold mayT; rw [if_neg (by rw [h]; simp), if_pos ⟨by rw [h1]; rfl, h2⟩]
  have H3 : Hid (isNm t = true → getT l t = none → ¬ 20 ≤ l.length → mayT l t = 0) := fun h h1 h2 => by unfold mayT; rw [if_neg (by rw [h]; simp), if_neg (fun k => h2 k.2)]
  have H4 : Hid (isNm t = true → ∀ n, getT l t = some n → mayT l t = 0) := fun h n h1 => by unfold mayT; rw [if_neg (by rw [h]; simp), if_neg (fun k => by rw [h1] at k; simp at k)]
  clear h0
  generalize mayT l t = x at *
  go_enter Tryz.func41, Tryz.ntmps41
  go_wp2_with fail
  refine HN.out.mono ?_
  rintro r w1 ⟨rfl, rfl⟩
  clear HN
  cases hn : isNm t with
  | false =>
    obtain rfl := H1.out hn
    clear HF H1 H2 H3 H4 hn
    go_wp2_with fail
    go_ret
    exact ⟨rfl, rfl⟩
  | true =>
    go_wp2_with fail
    refine HF.out.mono ?_
    rintro r w1 ⟨⟨rfl, hg⟩ | ⟨j, hj, rfl, hg⟩, rfl⟩
    · by_cases h20 : 20 ≤ l.length
      · obtain rfl := H2.out hn hg h20
        have h20' : (20 : Int) ≤ l.length := by omega
        clear HF H1 H2 H3 H4 hn hg
        go_wp2_with fail
        go_ret
        exact ⟨rfl, rfl⟩
      · obtain rfl := H3.out hn hg h20
        have h20' : (l.length : Int) < 20 := by omega
        clear HF H1 H2 H3 H4 hn hg
        go_wp2_with fail
        go_ret
        exact ⟨rfl, rfl⟩
    · obtain rfl := H4.out hn _ hg
      clear HF H1 H2 H3 H4 hn hg
      go_wp2_with fail
      go_ret
      exact ⟨rfl, rfl⟩
end Go.Proofs.YtogpjblikphpcaaGreatDoor
