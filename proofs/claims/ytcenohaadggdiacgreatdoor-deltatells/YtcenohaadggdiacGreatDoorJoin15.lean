/-
  Contracts of the reader's methods over this dump.
  Contracts of the reader's Num and Text, of Get and GetText, over this dump: every text.
  Contracts of the reader's Num, End in whatever state it is, over this dump.
  Contracts of the reader's Text in whatever state it is, of delta.readOp, read, Read over this dump.
  Contracts of delta.readOp, read, Read over this dump: every text.
-/
import Derived.Test.YtcenohaadggdiacGreatDoorJoin14
import Derived.Test.YtcenohaadggdiacGreatDoorJoin05
import Derived.Test.YtcenohaadggdiacGreatDoorJoin06
import Derived.Test.YtcenohaadggdiacGreatDoorJoin07
namespace Go.Proofs.YtcenohaadggdiacGreatDoor
open Go.RowKit

/-- The reader at block p, with no error, has the text s left. -/
structure RdAt (p : Nat) (w : World) (s : ByteArray) (e : Value) : Prop where
  c0 : w.cell? ⟨p, 0, none⟩ = some (.string s)
  c1 : w.cell? ⟨p, 1, none⟩ = some e
  f0 : w.frozen? ⟨p, 0, none⟩ = false
  f1 : w.frozen? ⟨p, 1, none⟩ = false
  lt : p < w.heap.size

theorem newR_ok (s : ByteArray) (w : World) : Calls Tryz.prog 51 #[.string s] w fun e w' => e = .returned (.pointer (some ⟨w.heap.size, 0, none⟩)) ∧ w.alloc (.cells #[.string s, .nilIface] 130) = w' := by
  go_enter Tryz.func51, Tryz.ntmps51
  go_wp2
  go_ret
  exact ⟨rfl, rfl⟩

theorem RdAt.fresh (w : World) (s : ByteArray) : RdAt w.heap.size (w.alloc (.cells #[.string s, .nilIface] 130)) s .nilIface :=
  ⟨by simp, by simp, by simp, by simp, by simp⟩

theorem err_ok (p : Nat) (s : ByteArray) (e : Value) (w : World) (h : RdAt p w s e) : Calls Tryz.prog 53 #[.pointer (some ⟨p, 0, none⟩)] w fun r w' => r = .returned e ∧ w' = w := by
  obtain ⟨c0, c1, f0, f1, lt⟩ := h
  go_enter Tryz.func53, Tryz.ntmps53
  go_wp2
  go_ret
  exact ⟨rfl, rfl⟩

/-- Of what was there only block p has changed. -/
theorem grow_set {p i : Nat} {w w1 : World} (h : w.grownBy w1 (some p)) (v : Value) : w.grownBy (w1.setCell ⟨p, i, none⟩ v) (some p) :=
  ⟨h.os, h.tape, h.output, by rw [World.size_setCell]; exact h.size, fun k hk hn => (Below.heap_setCell _ _ _ _ (fun e => hn (by rw [e]))).trans (h.block k hk hn)⟩
theorem grow_trans {p : Nat} {w w1 w2 : World} (h : w.grownBy w1 (some p)) (k : w1.grownBy w2 (some p)) : w.grownBy w2 (some p) :=
  ⟨k.os.trans h.os, k.tape.trans h.tape, k.output.trans h.output, Nat.le_trans h.size k.size, fun i hi hn => (k.block i (Nat.lt_of_lt_of_le hi h.size) hn).trans (h.block i hi hn)⟩
theorem grow_below {p : Nat} {w w' : World} (h : w.grownBy w' (some p)) (hp : p < w.heap.size) : Below p w w' :=
  ⟨h.os, h.tape, h.output, h.size, fun k hk => h.block k (by omega) (fun e => by cases e; omega)⟩

theorem failR4 (p : Nat) (s : ByteArray) (t : TypeId) (x : Value) (w : World) (h : RdAt p w s .nilIface) :
    Calls Tryz.prog 79 #[.pointer (some ⟨p, 0, none⟩), .iface t x] w fun r w' => r = .returned (.tuple #[]) ∧ RdAt p w' ByteArray.empty (.iface t x) ∧ w.grownBy w' (some p) := by
  have H := hide h
  obtain ⟨c0, c1, f0, f1, lt⟩ := h
  go_enter Tryz.func79, Tryz.ntmps79
  go_wp2
  go_end0
  refine ⟨rfl, ⟨?_, ?_, by simpa using f0, by simpa using f1, by simpa using lt⟩, grow_set (grow_set (World.grownBy.refl _ _) _) _⟩
  · rw [World.cell?_setCell_other _ _ _ _ (by simp)]; exact World.cell?_setCell_same _ _ _ c0
  · exact World.cell?_setCell_same _ _ _ (by rw [World.cell?_setCell_other _ _ _ _ (by simp)]; exact c1)

set_option maxHeartbeats 400000 in
set_option maxRecDepth 100000 in
theorem whole_ok (p : Nat) (s : ByteArray) (n i : Nat) (w : World) (h : RdAt p w s .nilIface) (hn : n ≤ 1099511627776) (hi : i < s.size) (hs : s.size ≤ 1000000) (hz : 0 < i → (s[i]).toNat ≠ 0) :
    Calls Tryz.prog 78 #[.pointer (some ⟨p, 0, none⟩), .int .i64 n, .int .i64 i] w fun r w' => r = .returned (.int .i64 n) ∧ RdAt p w' (s.extract (i + 1) s.size) .nilIface ∧ w.grownBy w' (some p) := by
  obtain ⟨c0, c1, f0, f1, lt⟩ := h
  have hn' : (n : Int) ≤ 1099511627776 := by omega
  have hi' : (i : Int) < s.size := by omega
  have hs' : (s.size : Int) ≤ 1000000 := by omega
  by_cases h0 : 0 < i
  · have h0' : decide ((0 : Int) < i) = true := by simp; omega
    have hz' := hz h0
    clear hz
    go_enter Tryz.func78, Tryz.ntmps78
    go_wp2_with fail
    go_ret
    refine ⟨rfl, ⟨World.cell?_setCell_same _ _ _ c0, ?_, by simpa using f0, by simpa using f1, by simpa using lt⟩, grow_set (World.grownBy.refl _ _) _⟩
    rw [World.cell?_setCell_other _ _ _ _ (by simp)]; exact c1
  · have h0' : decide ((0 : Int) < i) = false := by simp; omega
    clear hz
    go_enter Tryz.func78, Tryz.ntmps78
    go_wp2_with fail
    go_ret
    refine ⟨rfl, ⟨World.cell?_setCell_same _ _ _ c0, ?_, by simpa using f0, by simpa using f1, by simpa using lt⟩, grow_set (World.grownBy.refl _ _) _⟩
    rw [World.cell?_setCell_other _ _ _ _ (by simp)]; exact c1

set_option maxHeartbeats 400000 in
set_option maxRecDepth 100000 in
/-- The last byte is 0, and not the only one. -/
theorem whole_zero (p : Nat) (s : ByteArray) (n : Int) (i : Nat) (t : TypeId) (x : Value) (w : World) (h : RdAt p w s .nilIface) (hT : w.cell? ⟨1, 0, none⟩ = some (.iface t x)) (hi : i < s.size) (hs : s.size ≤ 1000000) (h0 : 0 < i) (hz : (s[i]).toNat = 0) :
    Calls Tryz.prog 78 #[.pointer (some ⟨p, 0, none⟩), .int .i64 n, .int .i64 i] w fun r w' => r = .returned (.int .i64 0) ∧ RdAt p w' ByteArray.empty (.iface t x) ∧ w.grownBy w' (some p) := by
  have H := hide h
  obtain ⟨c0, c1, f0, f1, lt⟩ := h
  have hi' : (i : Int) < s.size := by omega
  have hs' : (s.size : Int) ≤ 1000000 := by omega
  have h0' : decide ((0 : Int) < i) = true := by simp; omega
  have hz' : ((s[i].toNat : Int) == 0) = true := by simp [hz]
  clear hz
  go_enter Tryz.func78, Tryz.ntmps78
  go_wp2_with fail
  refine (failR4 _ _ _ _ _ H.out).mono ?_
  rintro e w1 ⟨rfl, h1, hb1⟩
  have H1 := hide h1
  have Hb1 := hide hb1
  clear h1 hb1
  go_wp2
  go_ret
  exact ⟨rfl, H1.out, Hb1.out⟩

set_option maxHeartbeats 400000 in
set_option maxRecDepth 100000 in
/-- Above MaxNum. -/
theorem whole_big (p : Nat) (s : ByteArray) (n i : Nat) (t : TypeId) (x : Value) (w : World) (h : RdAt p w s .nilIface) (hT : w.cell? ⟨0, 0, none⟩ = some (.iface t x)) (hi : i < s.size) (hs : s.size ≤ 1000000) (hn : 1099511627776 < n) (hz : 0 < i → (s[i]).toNat ≠ 0) :
    Calls Tryz.prog 78 #[.pointer (some ⟨p, 0, none⟩), .int .i64 n, .int .i64 i] w fun r w' => r = .returned (.int .i64 0) ∧ RdAt p w' ByteArray.empty (.iface t x) ∧ w.grownBy w' (some p) := by
  have H := hide h
  obtain ⟨c0, c1, f0, f1, lt⟩ := h
  have hn' : (1099511627776 : Int) < n := by omega
  have hi' : (i : Int) < s.size := by omega
  have hs' : (s.size : Int) ≤ 1000000 := by omega
  by_cases h0 : 0 < i
  · have h0' : decide ((0 : Int) < i) = true := by simp; omega
    have hz' := hz h0
    clear hz
    go_enter Tryz.func78, Tryz.ntmps78
    go_wp2_with fail
    refine (failR4 _ _ _ _ _ H.out).mono ?_
    rintro e w1 ⟨rfl, h1, hb1⟩
    have H1 := hide h1
    have Hb1 := hide hb1
    clear h1 hb1
    go_wp2
    go_ret
    exact ⟨rfl, H1.out, Hb1.out⟩
  · have h0' : decide ((0 : Int) < i) = false := by simp; omega
    clear hz
    go_enter Tryz.func78, Tryz.ntmps78
    go_wp2_with fail
    refine (failR4 _ _ _ _ _ H.out).mono ?_
    rintro e w1 ⟨rfl, h1, hb1⟩
    have H1 := hide h1
    have Hb1 := hide hb1
    clear h1 hb1
    go_wp2
    go_ret
    exact ⟨rfl, H1.out, Hb1.out⟩

theorem failR_ok (p : Nat) (s : ByteArray) (t : TypeId) (x : Value) (w : World) (h : RdAt p w s .nilIface) :
    Calls Tryz.prog 79 #[.pointer (some ⟨p, 0, none⟩), .iface t x] w fun r w' => r = .returned (.tuple #[]) ∧ RdAt p w' ByteArray.empty (.iface t x) ∧ Below p w w' :=
  (failR4 p s t x w h).mono fun _ _ ⟨h1, h2, h3⟩ => ⟨h1, h2, grow_below h3 h.lt⟩
end Go.Proofs.YtcenohaadggdiacGreatDoor

namespace Go.Proofs.YtcenohaadggdiacGreatDoor
open Go.RowKit

/-- What the reader's Num leaves, by the plain function. -/
def NumRes (p : Nat) (s : ByteArray) (tT : TypeId) (xT : Value) (tB : TypeId) (xB : Value) (r : Ending) (w' : World) : Prop :=
  match Go.Num.dec s.data.toList with
  | .ok (n, k) => r = .returned (.int .i64 n) ∧ RdAt p w' (s.extract k s.size) .nilIface
  | .error 1 => r = .returned (.int .i64 0) ∧ RdAt p w' ByteArray.empty (.iface tT xT)
  | .error _ => r = .returned (.int .i64 0) ∧ RdAt p w' ByteArray.empty (.iface tB xB)

theorem byte_wrap (b : UInt8) : wrap64 (b.toNat : Int) = (b.toNat : Int) := by
  have := b.toNat_lt
  unfold wrap64
  omega

/-- One byte more: no bit is lost. -/
theorem step_val (acc j : Nat) (b : UInt8) (hj : j < 6) (ha : acc < 128 ^ j) : wrap64 ((acc : Int) + wrap64 ((b.toNat : Int) % 128 * 2 ^ (7 * j))) = ((acc + b.toNat % 128 * 128 ^ j : Nat) : Int) := by
  have hb := b.toNat_lt
  have ht : (b.toNat : Int) % 128 = ((b.toNat % 128 : Nat) : Int) := by omega
  rw [ht]
  generalize hm : b.toNat % 128 = m
  have hm' : m < 128 := by omega
  unfold wrap64
  match j, hj with
  | 0, _ => simp at ha ⊢; omega
  | 1, _ => simp at ha ⊢; omega
  | 2, _ => simp at ha ⊢; omega
  | 3, _ => simp at ha ⊢; omega
  | 4, _ => simp at ha ⊢; omega
  | 5, _ => simp at ha ⊢; omega

theorem step_lt (acc j m : Nat) (ha : acc < 128 ^ j) (hm : m < 128) : acc + m * 128 ^ j < 128 ^ (j + 1) := by
  rw [Nat.pow_succ, Nat.mul_comm (128 ^ j) 128]
  have : m * 128 ^ j ≤ 127 * 128 ^ j := Nat.mul_le_mul_right _ (by omega)
  omega

/-- The loop's end by a byte below 128. -/
theorem dec_of_scan (L : List UInt8) (n i : Nat) (h : Go.Num.scan 6 L 0 0 = some (n, i)) : Go.Num.dec L = if 0 < i ∧ L[i]? = some 0 then .error 1 else if 1099511627776 < n then .error 2 else .ok (n, i + 1) := by
  unfold Go.Num.dec; rw [h]
theorem dec_of_none (L : List UInt8) (h : Go.Num.scan 6 L 0 0 = none) : Go.Num.dec L = .error 1 := by
  unfold Go.Num.dec; rw [h]

theorem scan_end (k : Nat) (b : UInt8) (r : List UInt8) (acc i : Nat) (hb : b.toNat < 128) : Go.Num.scan (k + 1) (b :: r) acc i = some (acc + b.toNat % 128 * 128 ^ i, i) := by
  rw [Go.Num.scan, if_pos hb]
theorem scan_next (k : Nat) (b : UInt8) (r : List UInt8) (acc i : Nat) (hb : ¬ b.toNat < 128) : Go.Num.scan (k + 1) (b :: r) acc i = Go.Num.scan k r (acc + b.toNat % 128 * 128 ^ i) (i + 1) := by
  rw [Go.Num.scan, if_neg hb]

set_option maxHeartbeats 400000 in
set_option maxRecDepth 100000 in
theorem numR4 (p : Nat) (s : ByteArray) (tT : TypeId) (xT : Value) (tB : TypeId) (xB : Value) (w : World) (h : RdAt p w s .nilIface) (hs : s.size ≤ 1000000)
    (hT : w.cell? ⟨1, 0, none⟩ = some (.iface tT xT)) (hB : w.cell? ⟨0, 0, none⟩ = some (.iface tB xB)) :
    Calls Tryz.prog 52 #[.pointer (some ⟨p, 0, none⟩)] w fun r w' => NumRes p s tT xT tB xB r w' ∧ w.grownBy w' (some p) := by
  have H := hide h
  obtain ⟨c0, c1, f0, f1, lt⟩ := h
  have hs' : (s.size : Int) ≤ 1000000 := by omega
  go_enter Tryz.func52, Tryz.ntmps52
  go_wp2_with fail
  go_loop [3, 4] (fun a b => ∃ j acc : Nat, a = .int .i64 acc ∧ b = .int .i64 j ∧ j ≤ 6 ∧ j ≤ s.size ∧ acc < 128 ^ j ∧ Hid (Go.Num.scan 6 s.data.toList 0 0 = Go.Num.scan (6 - j) (s.data.toList.drop j) acc j)) (fun _ b => 6 - (intOf b).toNat)
  case atStart => exact ⟨0, 0, rfl, rfl, by omega, by omega, by simp, rfl⟩
  case round =>
    obtain ⟨j, acc, rfl, rfl, hj6, hjs, hacc, He⟩ := hrel
    by_cases hlt : j < s.size
    · have hlt' : decide ((j : Int) < s.size) = true := by simp; omega
      have hlt'' : (j : Int) < s.size := by omega
      by_cases h6 : j < 6
      · have h6' : (j : Int) < 6 := by omega
        have hw := byte_wrap s[j]
        have hsv := hide (step_val acc j s[j] h6 hacc)
        have he := He.out
        rw [dropL s j hlt, show 6 - j = (5 - j) + 1 by omega] at he
        by_cases hb : (s[j]).toNat < 128
        · have hb' : ((s[j]).toNat : Int) < 128 := by omega
          rw [scan_end _ _ _ _ _ hb] at he
          have hdec := dec_of_scan _ _ _ he
          rw [getL s j hlt] at hdec
          have Hdec := hide hdec
          clear he hdec He
          go_wp2_with fail
          rw [hsv.out]
          have HN := hide hacc
          clear hacc hw hsv
          generalize acc + (s[j]).toNat % 128 * 128 ^ j = N at *
          by_cases hz : 0 < j ∧ (s[j]).toNat = 0
          · refine (whole_zero p s _ j tT xT w H.out hT hlt hs hz.1 hz.2).mono ?_
            rintro e w1 ⟨rfl, h1, hb1⟩
            have H1 := hide h1
            have Hb1 := hide hb1
            clear h1 hb1
            have hfin : Go.Num.dec s.data.toList = .error 1 := by
              rw [Hdec.out, if_pos ⟨hz.1, congrArg some (UInt8.toNat_inj.1 (by simpa using hz.2))⟩]
            have Hfin := hide hfin
            clear hfin
            go_wp2
            go_ret
            refine ⟨?_, Hb1.out⟩
            unfold NumRes
            rw [Hfin.out]
            exact ⟨rfl, H1.out⟩
          · have hz' : ¬ (0 < j ∧ (some s[j]) = some (0 : UInt8)) := by
              rintro ⟨a1, a2⟩
              refine hz ⟨a1, ?_⟩
              rw [Option.some.inj a2]; rfl
            have hz2 : 0 < j → (s[j]).toNat ≠ 0 := fun a b => hz ⟨a, b⟩
            have hd := Hdec.out
            rw [if_neg hz'] at hd
            by_cases hN : 1099511627776 < N
            · rw [if_pos hN] at hd
              have Hfin := hide hd
              refine (whole_big p s N j tB xB w H.out hB hlt hs hN hz2).mono ?_
              rintro e w1 ⟨rfl, h1, hb1⟩
              have H1 := hide h1
              have Hb1 := hide hb1
              clear h1 hb1 hz hz' hz2 hd
              go_wp2
              go_ret
              refine ⟨?_, Hb1.out⟩
              unfold NumRes
              rw [Hfin.out]
              exact ⟨rfl, H1.out⟩
            · rw [if_neg hN] at hd
              have Hfin := hide hd
              refine (whole_ok p s N j w H.out (by omega) hlt hs hz2).mono ?_
              rintro e w1 ⟨rfl, h1, hb1⟩
              have H1 := hide h1
              have Hb1 := hide hb1
              clear h1 hb1 hz hz' hz2 hd
              go_wp2
              go_ret
              refine ⟨?_, Hb1.out⟩
              unfold NumRes
              rw [Hfin.out]
              exact ⟨rfl, H1.out⟩
        · have hb' : (128 : Int) ≤ ((s[j]).toNat : Int) := by omega
          rw [scan_next _ _ _ _ _ hb] at he
          have Hn := hide he
          have hl := step_lt acc j ((s[j]).toNat % 128) hacc (by omega)
          have Hl := hide hl
          clear he hl He
          go_wp2_with fail
          go_round
          case rel =>
            refine ⟨j + 1, acc + (s[j]).toNat % 128 * 128 ^ j, ?_, by go_num, by omega, by omega, Hl.out, ?_⟩
            · rw [hsv.out]
            · rw [show 6 - (j + 1) = 5 - j by omega]; exact Hn.out
          case measure => simp [intOf]; omega
      · have h6' : (6 : Int) ≤ j := by omega
        have hj : j = 6 := by omega
        have he := He.out
        rw [show 6 - j = 0 by omega, Go.Num.scan] at he
        have Hfin := hide (dec_of_none _ he)
        clear he He hj
        go_wp2_with fail
        refine (failR4 _ _ _ _ _ H.out).mono ?_
        rintro e w1 ⟨rfl, h1, hb1⟩
        have H1 := hide h1
        have Hb1 := hide hb1
        clear h1 hb1
        go_wp2
        go_ret
        refine ⟨?_, Hb1.out⟩
        unfold NumRes
        rw [Hfin.out]
        exact ⟨rfl, H1.out⟩
    · have hlt' : decide ((j : Int) < s.size) = false := by simp; omega
      have hlt'' : (s.size : Int) ≤ (j : Int) := by omega
      have he := He.out
      have hj : s.data.toList.drop j = [] := by rw [List.drop_eq_nil_iff, lenL]; omega
      have hk : Go.Num.scan (6 - j) [] acc j = none := by cases 6 - j <;> rfl
      rw [hj, hk] at he
      have Hfin := hide (dec_of_none _ he)
      clear he He hj hk
      go_wp2_with fail
      refine (failR4 _ _ _ _ _ H.out).mono ?_
      rintro e w1 ⟨rfl, h1, hb1⟩
      have H1 := hide h1
      have Hb1 := hide hb1
      clear h1 hb1
      go_wp2
      go_ret
      refine ⟨?_, Hb1.out⟩
      unfold NumRes
      rw [Hfin.out]
      exact ⟨rfl, H1.out⟩

theorem numR (p : Nat) (s : ByteArray) (tT : TypeId) (xT : Value) (tB : TypeId) (xB : Value) (w : World) (h : RdAt p w s .nilIface) (hs : s.size ≤ 1000000)
    (hT : w.cell? ⟨1, 0, none⟩ = some (.iface tT xT)) (hB : w.cell? ⟨0, 0, none⟩ = some (.iface tB xB)) :
    Calls Tryz.prog 52 #[.pointer (some ⟨p, 0, none⟩)] w fun r w' => NumRes p s tT xT tB xB r w' ∧ Below p w w' :=
  (numR4 p s tT xT tB xB w h hs hT hB).mono fun _ _ ⟨h1, h2⟩ => ⟨h1, grow_below h2 h.lt⟩
end Go.Proofs.YtcenohaadggdiacGreatDoor

namespace Go.Proofs.YtcenohaadggdiacGreatDoor
open Go.RowKit
open Go.Sign (Blk)

theorem dec_code {s : List UInt8} {c : Nat} (h : Go.Num.dec s = .error c) : c = 1 ∨ c = 2 := by
  unfold Go.Num.dec at h
  split at h
  · cases h; exact Or.inl rfl
  · split at h
    · cases h; exact Or.inl rfl
    · split at h
      · cases h; exact Or.inr rfl
      · cases h
theorem dec_num {s : List UInt8} {n k : Nat} (h : Go.Num.dec s = .ok (n, k)) : n ≤ 1099511627776 ∧ 1 ≤ k ∧ k ≤ s.length := by
  have hs : ∀ (f : Nat) (l : List UInt8) (acc i n j : Nat), Go.Num.scan f l acc i = some (n, j) → j < i + l.length := by
    intro f
    induction f with
    | zero => intro l acc i n j h; cases h
    | succ f ih =>
      intro l acc i n j h
      cases l with
      | nil => cases h
      | cons b r =>
        rw [Go.Num.scan] at h
        split at h
        · cases h; simp
        · have := ih _ _ _ _ _ h; simp; omega
  unfold Go.Num.dec at h
  split at h
  · cases h
  · rename_i n' i hsc
    split at h
    · cases h
    · split at h
      · cases h
      · cases h
        have := hs _ _ _ _ _ _ hsc
        omega

/-- A reader: what is left, or the number of its error. -/
abbrev St := Except Nat (List UInt8)
def RdSt (e : EV) (p : Nat) (w : World) : St → Prop
  | .ok l => ∃ s : ByteArray, s.data.toList = l ∧ RdAt p w s .nilIface
  | .error c => (c = 1 ∨ c = 2) ∧ RdAt p w ByteArray.empty (errV e c)
def numS : St → Nat × St
  | .error c => (0, .error c)
  | .ok l => match Go.Num.dec l with
    | .ok (n, k) => (n, .ok (l.drop k))
    | .error c => (0, .error c)
def lenS : St → Nat
  | .ok l => l.length
  | .error _ => 0
theorem numS_len (st : St) : lenS (numS st).2 ≤ lenS st := by
  cases st with
  | error c => exact Nat.le_refl _
  | ok l =>
    unfold numS
    simp only
    split
    · simp [lenS]
    · simp [lenS]
theorem numS_le (st : St) : (numS st).1 ≤ 1099511627776 := by
  cases st with
  | error c => simp [numS]
  | ok l =>
    unfold numS
    simp only
    split
    · rename_i n k h; exact (dec_num h).1
    · simp

theorem RdAt.below' {p : Nat} {w w' : World} {s : ByteArray} {x : Value} (h : RdAt p w s x) (hb : Below (p + 1) w w') : RdAt p w' s x :=
  ⟨(hb.cell (p := ⟨p, 0, none⟩) (by simp)).trans h.c0, (hb.cell (p := ⟨p, 1, none⟩) (by simp)).trans h.c1, (hb.frozen (p := ⟨p, 0, none⟩) (by simp)).trans h.f0, (hb.frozen (p := ⟨p, 1, none⟩) (by simp)).trans h.f1, Nat.lt_of_lt_of_le h.lt hb.size⟩
theorem RdSt.below' {e : EV} {p : Nat} {w w' : World} {st : St} (h : RdSt e p w st) (hb : Below (p + 1) w w') : RdSt e p w' st := by
  cases st with
  | ok l => obtain ⟨s, hs, h⟩ := h; exact ⟨s, hs, h.below' hb⟩
  | error c => exact ⟨h.1, h.2.below' hb⟩
theorem RdSt.lt {e : EV} {p : Nat} {w : World} {st : St} (h : RdSt e p w st) : p < w.heap.size := by
  cases st with
  | ok l => obtain ⟨s, hs, h⟩ := h; exact h.lt
  | error c => exact h.2.lt

/-- What only changes block p keeps the errors' variables. -/
theorem Er.grown {e : EV} {p : Nat} {w0 w w' : World} (h0 : Er e w0) (hp : w0.heap.size ≤ p) (h : Er e w) (hg : w.grownBy w' (some p)) : Er e w' := by
  have aux : ∀ (g : Nat) (v : Value), w0.cell? ⟨g, 0, none⟩ = some v → some (⟨g, 0, none⟩ : Addr).block ≠ some p := by
    intro g v hv q
    have hlt : g < w0.heap.size := World.block_lt_of_cell? _ _ hv
    have q' : g = p := Option.some.inj q
    omega
  exact ⟨hg.cell h.text (aux _ _ h0.text), hg.cell h.bound (aux _ _ h0.bound), hg.cell h.full (aux _ _ h0.full)⟩
theorem grow_alloc {p : Nat} {w w1 : World} (h : w.grownBy w1 (some p)) (o : Obj) : w.grownBy (w1.alloc o) (some p) :=
  ⟨h.os, h.tape, h.output, by have := h.size; simp; omega, fun k hk hn => (Below.heap_alloc _ _ _ (Nat.lt_of_lt_of_le hk h.size)).trans (h.block k hk hn)⟩
theorem grow_setNew {p q i : Nat} {w w1 : World} (h : w.grownBy w1 (some p)) (hq : w.heap.size ≤ q) (v : Value) : w.grownBy (w1.setCell ⟨q, i, none⟩ v) (some p) :=
  ⟨h.os, h.tape, h.output, by rw [World.size_setCell]; exact h.size, fun k hk hn => (Below.heap_setCell _ _ _ _ (by simp; omega)).trans (h.block k hk hn)⟩
theorem BkAt.grown {p q : Nat} {w w' : World} {b : Blk} (h : BkAt q w b) (hg : w.grownBy w' (some p)) (hq : q ≠ p) : BkAt q w' b := by
  have hb : w'.heap[q]? = w.heap[q]? := hg.block q h.lt (fun e => hq (by cases e; rfl))
  exact ⟨(World.cell?_of_block (a := ⟨q, 0, none⟩) hb).trans h.c0, (World.cell?_of_block (a := ⟨q, 1, none⟩) hb).trans h.c1, (World.cell?_of_block (a := ⟨q, 2, none⟩) hb).trans h.c2, (World.frozen?_of_block (a := ⟨q, 0, none⟩) hb).trans h.f0, (World.frozen?_of_block (a := ⟨q, 1, none⟩) hb).trans h.f1, (World.frozen?_of_block (a := ⟨q, 2, none⟩) hb).trans h.f2, Nat.lt_of_lt_of_le h.lt hg.size⟩
theorem own_grown {p n : Nat} {w w' : World} {e : TypeId} {size : Nat} {v : Value} {xs : List Value} (h : w.ownsRow (p + 1) e size v n xs) (hg : w.grownBy w' (some p)) : w'.ownsRow (p + 1) e size v n xs := by
  rcases h with ⟨h1, h2 | ⟨g, c, cur, e1, e2, e3, e4⟩⟩
  · exact ⟨h1, Or.inl h2⟩
  · refine ⟨h1, Or.inr ⟨g, c, cur, e1, e2, (hg.block g (Array.getElem?_eq_some_iff.1 e3).1 (fun q => by cases q; omega)).trans e3, e4⟩⟩

theorem failR_err (p : Nat) (s : ByteArray) (t t' : TypeId) (x x' : Value) (w : World) (h : RdAt p w s (.iface t x)) :
    Calls Tryz.prog 79 #[.pointer (some ⟨p, 0, none⟩), .iface t' x'] w fun r w' => r = .returned (.tuple #[]) ∧ w' = w := by
  obtain ⟨c0, c1, f0, f1, lt⟩ := h
  go_enter Tryz.func79, Tryz.ntmps79
  go_wp2
  go_end0
  exact ⟨rfl, rfl⟩

set_option maxHeartbeats 1000000 in
set_option maxRecDepth 100000 in
theorem numR_err (p : Nat) (t : TypeId) (x : Value) (tT : TypeId) (xT : Value) (w : World) (h : RdAt p w ByteArray.empty (.iface t x)) (hT : w.cell? ⟨1, 0, none⟩ = some (.iface tT xT)) :
    Calls Tryz.prog 52 #[.pointer (some ⟨p, 0, none⟩)] w fun r w' => r = .returned (.int .i64 0) ∧ w' = w := by
  have H := hide h
  obtain ⟨c0, c1, f0, f1, lt⟩ := h
  go_enter Tryz.func52, Tryz.ntmps52
  go_wp2_with fail
  go_loop [3, 4] (fun a b => a = .int .i64 0 ∧ b = .int .i64 0) (fun _ _ => 0)
  case atStart => exact ⟨rfl, rfl⟩
  case round =>
    obtain ⟨rfl, rfl⟩ := hrel
    go_wp2_with fail
    refine (failR_err _ _ _ _ _ _ _ H.out).mono ?_
    rintro e w1 ⟨rfl, rfl⟩
    go_wp2
    go_ret
    exact ⟨rfl, rfl⟩

theorem numSt (e : EV) (p : Nat) (st : St) (w : World) (h : RdSt e p w st) (hs : lenS st ≤ 1000000) (he : Er e w) :
    Calls Tryz.prog 52 #[.pointer (some ⟨p, 0, none⟩)] w fun r w' => r = .returned (.int .i64 (numS st).1) ∧ RdSt e p w' (numS st).2 ∧ w.grownBy w' (some p) := by
  cases st with
  | error c =>
    obtain ⟨hc, h⟩ := h
    obtain ⟨t, x, ev⟩ := errV_form e c (by omega)
    have h' := h
    rw [ev] at h'
    refine (numR_err p t x _ _ w h' he.text).mono ?_
    rintro r w' ⟨rfl, rfl⟩
    exact ⟨rfl, ⟨hc, h⟩, World.grownBy.refl _ _⟩
  | ok l =>
    obtain ⟨s, rfl, h⟩ := h
    refine (numR4 p s _ _ _ _ w h (by rw [← lenL]; exact hs) he.text he.bound).mono ?_
    rintro r w' ⟨hr, hg⟩
    unfold NumRes at hr
    unfold numS
    simp only
    split at hr
    · rename_i n k hd
      rw [hd]
      obtain ⟨rfl, hr⟩ := hr
      refine ⟨rfl, ⟨_, ?_, hr⟩, hg⟩
      rw [extractL]
      exact List.take_of_length_le (by rw [List.length_drop, lenL]; omega)
    · rename_i hd
      rw [hd]
      obtain ⟨rfl, hr⟩ := hr
      exact ⟨rfl, ⟨Or.inl rfl, hr⟩, hg⟩
    · rename_i c hc hd
      rw [hd]
      obtain ⟨rfl, hr⟩ := hr
      rcases dec_code hd with rfl | rfl
      · exact absurd rfl hc
      · exact ⟨rfl, ⟨Or.inr rfl, hr⟩, hg⟩

def endC : St → Nat
  | .error c => c
  | .ok l => if l = [] then 0 else 1

set_option maxHeartbeats 1000000 in
set_option maxRecDepth 100000 in
theorem endR_err (p : Nat) (t : TypeId) (x : Value) (w : World) (h : RdAt p w ByteArray.empty (.iface t x)) :
    Calls Tryz.prog 55 #[.pointer (some ⟨p, 0, none⟩)] w fun r w' => r = .returned (.iface t x) ∧ w' = w := by
  obtain ⟨c0, c1, f0, f1, lt⟩ := h
  go_enter Tryz.func55, Tryz.ntmps55
  go_wp2
  go_ret
  exact ⟨rfl, rfl⟩

set_option maxHeartbeats 1000000 in
set_option maxRecDepth 100000 in
theorem endR_ok (p : Nat) (w : World) (h : RdAt p w ByteArray.empty .nilIface) :
    Calls Tryz.prog 55 #[.pointer (some ⟨p, 0, none⟩)] w fun r w' => r = .returned .nilIface ∧ w' = w := by
  obtain ⟨c0, c1, f0, f1, lt⟩ := h
  go_enter Tryz.func55, Tryz.ntmps55
  go_wp2
  go_ret
  exact ⟨rfl, rfl⟩

set_option maxHeartbeats 1000000 in
set_option maxRecDepth 100000 in
theorem endR_left (p : Nat) (s : ByteArray) (t : TypeId) (x : Value) (w : World) (h : RdAt p w s .nilIface) (hs : s.data.toList ≠ []) (hT : w.cell? ⟨1, 0, none⟩ = some (.iface t x)) :
    Calls Tryz.prog 55 #[.pointer (some ⟨p, 0, none⟩)] w fun r w' => r = .returned (.iface t x) ∧ w.grownBy w' (some p) := by
  have H := hide h
  obtain ⟨c0, c1, f0, f1, lt⟩ := h
  have hne : s.toList.isEmpty = false := by
    rw [ByteArray.toList_eq]
    simpa using hs
  clear hs
  go_enter Tryz.func55, Tryz.ntmps55
  go_wp2_with fail
  refine (failR4 _ _ _ _ _ H.out).mono ?_
  rintro e w1 ⟨rfl, h1, hg1⟩
  have Hg1 := hide hg1
  clear hg1 c0 c1 f0 f1 lt
  obtain ⟨c0, c1, f0, f1, lt⟩ := h1
  go_wp2
  go_ret
  exact ⟨rfl, Hg1.out⟩

theorem endSt (e : EV) (p : Nat) (st : St) (w : World) (h : RdSt e p w st) (he : Er e w) :
    Calls Tryz.prog 55 #[.pointer (some ⟨p, 0, none⟩)] w fun r w' => r = .returned (errV e (endC st)) ∧ w.grownBy w' (some p) := by
  cases st with
  | error c =>
    obtain ⟨hc, h⟩ := h
    obtain ⟨t, x, ev⟩ := errV_form e c (by omega)
    rw [ev] at h
    refine (endR_err p t x w h).mono ?_
    rintro r w' ⟨rfl, rfl⟩
    exact ⟨by rw [endC, ev], World.grownBy.refl _ _⟩
  | ok l =>
    obtain ⟨s, rfl, h⟩ := h
    by_cases hl : s.data.toList = []
    · have hs : s = ByteArray.empty := ext_of_list (by rw [hl]; rfl)
      subst hs
      refine (endR_ok p w h).mono ?_
      rintro r w' ⟨rfl, rfl⟩
      exact ⟨by rw [endC, if_pos hl]; rfl, World.grownBy.refl _ _⟩
    · refine (endR_left p s _ _ w h hl he.text).mono ?_
      rintro r w' ⟨rfl, hg⟩
      exact ⟨by rw [endC, if_neg hl]; rfl, hg⟩

end Go.Proofs.YtcenohaadggdiacGreatDoor

namespace Go.Proofs.YtcenohaadggdiacGreatDoor
open Go.RowKit
open Go.Delta (Opx copyOp dataOp rdO rdOs rdA rdD txt aheadO kCopy kData)

theorem numS_numD (s : List UInt8) : numS (.ok s) = match Go.Sign.num s with | .ok (n, r) => (n, .ok r) | .error c => (0, .error c) := by
  simp only [numS, Go.Sign.num]
  cases Go.Num.dec s with
  | error c => rfl
  | ok x => rfl
theorem numS_zero {st : St} {c : Nat} (h : (numS st).2 = .error c) : (numS st).1 = 0 := by
  cases st with
  | error c' => rfl
  | ok l =>
    rw [numS_numD] at h ⊢
    split at h
    · cases h
    · rfl

/-- What Text makes of the reader. -/
def textS (st : St) : List UInt8 × St :=
  match (numS st).2 with
  | .error c => ([], .error c)
  | .ok l => if 20000 < (numS st).1 then ([], .error 2) else if l.length < (numS st).1 then ([], .error 1) else (l.take (numS st).1, .ok (l.drop (numS st).1))
theorem textS_len (st : St) : lenS (textS st).2 ≤ lenS st := by
  have := numS_len st
  unfold textS
  split
  · simp [lenS]
  · rename_i l h
    rw [h] at this
    split
    · simp [lenS]
    · split
      · simp [lenS]
      · simp only [lenS, List.length_drop] at this ⊢; omega
theorem textS_txt (s : List UInt8) : textS (.ok s) = match txt s with | .ok (d, r) => (d, .ok r) | .error c => ([], .error c) := by
  unfold textS txt
  rw [numS_numD]
  cases Go.Sign.num s with
  | error c => rfl
  | ok x =>
    obtain ⟨n, r⟩ := x
    simp only
    split
    · rfl
    · split <;> rfl

set_option maxHeartbeats 1000000 in
set_option maxRecDepth 100000 in
theorem textSt (e : EV) (p : Nat) (st : St) (w0 w : World) (h0 : Er e w0) (hp : w0.heap.size ≤ p) (h : RdSt e p w st) (hs : lenS st ≤ 1000000) (he : Er e w) :
    Calls Tryz.prog 80 #[.pointer (some ⟨p, 0, none⟩)] w fun r w' => r = .returned (.string (str (textS st).1)) ∧ RdSt e p w' (textS st).2 ∧ w.grownBy w' (some p) := by
  have HA := hide (numSt e p st w h hs he)
  have hl := numS_len st
  have hn := numS_le st
  have HZ := hide (fun c => numS_zero (st := st) (c := c))
  have HE0 := hide (fun W (b : w.grownBy W (some p)) => Er.grown h0 hp he b)
  have hT : textS st = match (numS st).2 with | .error c => ([], .error c) | .ok l => if 20000 < (numS st).1 then ([], .error 2) else if l.length < (numS st).1 then ([], .error 1) else (l.take (numS st).1, .ok (l.drop (numS st).1)) := rfl
  generalize textS st = T at *
  generalize numS st = x at *
  obtain ⟨n, st1⟩ := x
  simp only at HA hl hn HZ hT
  have hn' : (n : Int) ≤ 1099511627776 := by omega
  clear h he h0 hp
  cases st1 with
  | error c =>
    have hz := HZ.out c rfl
    subst hz
    simp only at hT
    subst hT
    clear HZ HE0
    go_enter Tryz.func80, Tryz.ntmps80
    go_wp2_with fail
    refine HA.out.mono ?_
    rintro r w1 ⟨rfl, h1, hg1⟩
    obtain ⟨hc, hr1⟩ := h1
    have Hr1 := hide hr1
    have Hc := hide hc
    have Hg1 := hide hg1
    clear hg1 hc
    obtain ⟨c0, c1, f0, f1, lt⟩ := hr1
    go_wp2
    go_ret
    refine ⟨rfl, ⟨Hc.out, ?_⟩, grow_set Hg1.out _⟩
    refine ⟨World.cell?_setCell_same _ _ _ c0, ?_, by simpa using f0, by simpa using f1, by simpa using lt⟩
    rw [World.cell?_setCell_other _ _ _ _ (by simp)]; exact c1
  | ok l =>
    simp only at hT
    clear HZ
    by_cases h2 : 20000 < n
    · rw [if_pos h2] at hT
      subst hT
      have h2' : (20000 : Int) < n := by omega
      clear h2
      go_enter Tryz.func80, Tryz.ntmps80
      go_wp2_with fail
      refine HA.out.mono ?_
      rintro r w1 ⟨rfl, ⟨s1, hs1, hr1⟩, hg1⟩
      have Hr1 := hide hr1
      have Hg1 := hide hg1
      have hB := (HE0.out _ hg1).bound
      clear hg1 hs1 hr1
      go_wp2_with fail
      refine (failR4 _ _ _ _ _ Hr1.out).mono ?_
      rintro r w2 ⟨rfl, h3, hg3⟩
      have H3 := hide h3
      have Hg3 := hide hg3
      clear h3 hg3
      go_wp2
      go_ret
      exact ⟨rfl, ⟨Or.inr rfl, H3.out⟩, grow_trans Hg1.out Hg3.out⟩
    · rw [if_neg h2] at hT
      have h2' : (n : Int) ≤ 20000 := by omega
      clear h2
      by_cases h3 : l.length < n
      · rw [if_pos h3] at hT
        subst hT
        have HL := hide h3
        clear h3
        go_enter Tryz.func80, Tryz.ntmps80
        go_wp2_with fail
        refine HA.out.mono ?_
        rintro r w1 ⟨rfl, ⟨s1, hs1, hr1⟩, hg1⟩
        have hsz : (s1.size : Int) < n := by have := HL.out; rw [← hs1, lenL] at this; omega
        have Hr1 := hide hr1
        have Hg1 := hide hg1
        have hT := (HE0.out _ hg1).text
        clear hg1 hs1
        obtain ⟨c0, c1, f0, f1, lt⟩ := hr1
        go_wp2_with fail
        refine (failR4 _ _ _ _ _ Hr1.out).mono ?_
        rintro r w2 ⟨rfl, h3, hg3⟩
        have H3 := hide h3
        have Hg3 := hide hg3
        clear h3 hg3
        go_wp2
        go_ret
        exact ⟨rfl, ⟨Or.inl rfl, H3.out⟩, grow_trans Hg1.out Hg3.out⟩
      · rw [if_neg h3] at hT
        subst hT
        have HL := hide h3
        clear h3
        go_enter Tryz.func80, Tryz.ntmps80
        go_wp2_with fail
        refine HA.out.mono ?_
        rintro r w1 ⟨rfl, ⟨s1, hs1, hr1⟩, hg1⟩
        have hsz : (n : Int) ≤ s1.size := by have := HL.out; rw [← hs1, lenL] at this; omega
        have Hg1 := hide hg1
        have Hs1 := hide hs1
        clear hg1 hs1
        obtain ⟨c0, c1, f0, f1, lt⟩ := hr1
        have et : str (l.take n) = s1.extract 0 n := ext_of_list (by rw [strL, extractL, ← Hs1.out]; simp)
        have Het := hide et
        clear et
        go_wp2
        go_ret
        refine ⟨by rw [Het.out]; rfl, ⟨s1.extract n s1.size, ?_, ?_⟩, grow_set Hg1.out _⟩
        · rw [extractL, ← Hs1.out]
          exact List.take_of_length_le (by rw [List.length_drop, lenL]; omega)
        · refine ⟨World.cell?_setCell_same _ _ _ c0, ?_, by simpa using f0, by simpa using f1, by simpa using lt⟩
          rw [World.cell?_setCell_other _ _ _ _ (by simp)]; exact c1
end Go.Proofs.YtcenohaadggdiacGreatDoor

namespace Go.Proofs.YtcenohaadggdiacGreatDoor
open Go.RowKit
open Go.Delta (Opx copyOp dataOp rdO rdOs rdA rdD txt aheadO kCopy kData)

def zeroOp : Opx := ⟨⟨#[]⟩, 0, 0, ⟨#[]⟩⟩
/-- What readOp makes of the reader. -/
def rdOpS (st : St) : Opx × St :=
  if (numS st).1 = 0 then (copyOp (numS (numS st).2).1 (numS (numS (numS st).2).2).1, (numS (numS (numS st).2).2).2)
  else if (numS st).1 = 1 then (dataOp (textS (numS st).2).1, (textS (numS st).2).2)
  else (zeroOp, .error 1)
theorem rdOpS_ok {s s' : List UInt8} {o : Opx} (h : rdO s = .ok (o, s')) : rdOpS (.ok s) = (o, .ok s') := by
  unfold rdO at h
  have e1 := numS_numD s
  split at h
  · cases h
  · rename_i k s1 h1
    rw [h1] at e1
    simp only at e1
    unfold rdOpS
    rw [e1]
    simp only
    split at h
    · rename_i hk
      subst hk
      have e2 := textS_txt s1
      split at h
      · cases h
      · rename_i d s2 h2
        rw [h2] at e2
        cases h
        rw [if_neg (by decide), if_pos rfl, e2]
    · rename_i hk
      split at h
      · rename_i hk0
        subst hk0
        have e2 := numS_numD s1
        split at h
        · cases h
        · rename_i a s2 h2
          rw [h2] at e2
          have e3 := numS_numD s2
          split at h
          · cases h
          · rename_i n s3 h3
            rw [h3] at e3
            cases h
            simp only at e2 e3
            rw [if_pos rfl, e2]
            simp only
            rw [e3]
      · cases h
theorem rdOpS_error {s : List UInt8} {c : Nat} (h : rdO s = .error c) : (rdOpS (.ok s)).2 = .error c := by
  unfold rdO at h
  have e1 := numS_numD s
  split at h
  · rename_i c' h1
    rw [h1] at e1
    cases h
    unfold rdOpS
    rw [e1]
    rfl
  · rename_i k s1 h1
    rw [h1] at e1
    simp only at e1
    unfold rdOpS
    rw [e1]
    simp only
    split at h
    · rename_i hk
      subst hk
      have e2 := textS_txt s1
      split at h
      · rename_i c' h2
        rw [h2] at e2
        cases h
        rw [if_neg (by decide), if_pos rfl, e2]
      · cases h
    · rename_i hk
      split at h
      · rename_i hk0
        subst hk0
        have e2 := numS_numD s1
        split at h
        · rename_i c' h2
          rw [h2] at e2
          cases h
          rw [if_pos rfl, e2]
          rfl
        · rename_i a s2 h2
          rw [h2] at e2
          have e3 := numS_numD s2
          split at h
          · rename_i c' h3
            rw [h3] at e3
            cases h
            simp only at e2 e3
            rw [if_pos rfl, e2]
            simp only
            rw [e3]
          · cases h
      · rename_i hk0
        cases h
        rw [if_neg hk0, if_neg hk]

theorem num_ok_st {st : St} (h : (numS st).1 ≠ 0) : ∃ l, (numS st).2 = .ok l := by
  cases hx : (numS st).2 with
  | error c => exact absurd (numS_zero hx) h
  | ok l => exact ⟨l, rfl⟩

theorem OpAt.set {p : Nat} {w : World} {o : Opx} (h : OpAt p w o) (c : Opx) : OpAt p ((((w.setCell ⟨p, 0, none⟩ (.string c.kind)).setCell ⟨p, 1, none⟩ (.int .i64 c.at_)).setCell ⟨p, 2, none⟩ (.int .i64 c.n)).setCell ⟨p, 3, none⟩ (.string c.data)) c := by
  obtain ⟨c0, c1, c2, c3, f0, f1, f2, f3, lt⟩ := h
  refine ⟨?_, ?_, ?_, ?_, by simpa using f0, by simpa using f1, by simpa using f2, by simpa using f3, by simpa using lt⟩
  · rw [World.cell?_setCell_other _ _ _ _ (by simp), World.cell?_setCell_other _ _ _ _ (by simp), World.cell?_setCell_other _ _ _ _ (by simp)]; exact World.cell?_setCell_same _ _ _ c0
  · rw [World.cell?_setCell_other _ _ _ _ (by simp), World.cell?_setCell_other _ _ _ _ (by simp)]; exact World.cell?_setCell_same _ _ _ (by rw [World.cell?_setCell_other _ _ _ _ (by simp)]; exact c1)
  · rw [World.cell?_setCell_other _ _ _ _ (by simp)]; exact World.cell?_setCell_same _ _ _ (by rw [World.cell?_setCell_other _ _ _ _ (by simp), World.cell?_setCell_other _ _ _ _ (by simp)]; exact c2)
  · exact World.cell?_setCell_same _ _ _ (by rw [World.cell?_setCell_other _ _ _ _ (by simp), World.cell?_setCell_other _ _ _ _ (by simp), World.cell?_setCell_other _ _ _ _ (by simp)]; exact c3)

theorem opat_grown {p q : Nat} {w w' : World} {o : Opx} (h : OpAt q w o) (hg : w.grownBy w' (some p)) (hq : q ≠ p) : OpAt q w' o := by
  have hb : w'.heap[q]? = w.heap[q]? := hg.block q h.lt (fun e => hq (by cases e; rfl))
  exact ⟨(World.cell?_of_block (a := ⟨q, 0, none⟩) hb).trans h.c0, (World.cell?_of_block (a := ⟨q, 1, none⟩) hb).trans h.c1, (World.cell?_of_block (a := ⟨q, 2, none⟩) hb).trans h.c2, (World.cell?_of_block (a := ⟨q, 3, none⟩) hb).trans h.c3, (World.frozen?_of_block (a := ⟨q, 0, none⟩) hb).trans h.f0, (World.frozen?_of_block (a := ⟨q, 1, none⟩) hb).trans h.f1, (World.frozen?_of_block (a := ⟨q, 2, none⟩) hb).trans h.f2, (World.frozen?_of_block (a := ⟨q, 3, none⟩) hb).trans h.f3, Nat.lt_of_lt_of_le h.lt hg.size⟩

set_option maxHeartbeats 2000000 in
set_option maxRecDepth 100000 in
theorem readOp_ok (e : EV) (p : Nat) (st : St) (w0 w : World) (h0 : Er e w0) (hp : w0.heap.size ≤ p) (h : RdSt e p w st) (hs : lenS st ≤ 1000000) (he : Er e w) :
    Calls Tryz.prog 54 #[.pointer (some ⟨p, 0, none⟩)] w fun r w' => r = .returned (oval (rdOpS st).1) ∧ RdSt e p w' (rdOpS st).2 ∧ w.grownBy w' (some p) := by
  have hpl := h.lt
  have hqp : w.heap.size ≠ p := by omega
  have HA := hide (fun W (a : RdSt e p W st) (b : Er e W) => numSt e p st W a hs b)
  have HB := hide (fun W (a : RdSt e p W (numS st).2) (b : Er e W) => numSt e p (numS st).2 W a (Nat.le_trans (numS_len _) hs) b)
  have HC := hide (fun W (a : RdSt e p W (numS (numS st).2).2) (b : Er e W) => numSt e p (numS (numS st).2).2 W a (Nat.le_trans (numS_len _) (Nat.le_trans (numS_len _) hs)) b)
  have HT := hide (fun W (a : RdSt e p W (numS st).2) (b : Er e W) => textSt e p (numS st).2 w0 W h0 hp a (Nat.le_trans (numS_len _) hs) b)
  have HN := hide (num_ok_st (st := st))
  have l1 := numS_le st
  have l2 := numS_le (numS st).2
  have l3 := numS_le (numS (numS st).2).2
  have HE0 := hide (fun W W' (a : Er e W) (b : W.grownBy W' (some p)) => Er.grown h0 hp a b)
  have hf : OpAt w.heap.size (w.alloc (.cells #[.string ⟨#[]⟩, .int .i64 0, .int .i64 0, .string ⟨#[]⟩] 44)) zeroOp := OpAt.fresh w zeroOp 44
  have hg0 : w.grownBy (w.alloc (.cells #[.string ⟨#[]⟩, .int .i64 0, .int .i64 0, .string ⟨#[]⟩] 44)) (some p) := grow_alloc (World.grownBy.refl _ _) _
  have Hf := hide hf
  have Hg0 := hide hg0
  have Hst := hide (h.below' (((Below.refl (p + 1) w).alloc (by omega) (.cells #[.string ⟨#[]⟩, .int .i64 0, .int .i64 0, .string ⟨#[]⟩] 44))))
  have HE := hide (he.below ((Below.refl w.heap.size w).alloc (Nat.le_refl _) (.cells #[.string ⟨#[]⟩, .int .i64 0, .int .i64 0, .string ⟨#[]⟩] 44)))
  unfold rdOpS oval
  generalize textS (numS st).2 = y at *
  generalize numS (numS (numS st).2).2 = x3 at *
  generalize numS (numS st).2 = x2 at *
  generalize numS st = x1 at *
  obtain ⟨k, s1⟩ := x1
  obtain ⟨a, s2⟩ := x2
  obtain ⟨n, s3⟩ := x3
  obtain ⟨d, s4⟩ := y
  simp only at l1 l2 l3 HA HB HC HT HN ⊢
  clear h he h0 hp hf hg0
  by_cases hk0 : k = 0
  · subst hk0
    rw [if_pos rfl]
    simp only [copyOp, kCopy, Go.Delta.noBytes]
    clear HT HN
    go_enter Tryz.func54, Tryz.ntmps54
    go_wp2_with fail
    refine (HA.out _ Hst.out HE.out).mono ?_
    rintro r w1 ⟨rfl, h1, hg1⟩
    have H1 := hide h1
    have HE1 := hide (HE0.out _ _ HE.out hg1)
    have Hg1 := hide (grow_trans Hg0.out hg1)
    have Hf1 := hide (opat_grown Hf.out hg1 hqp)
    clear h1 hg1 Hst HE Hg0 Hf HA
    go_wp2_with fail
    refine (HB.out _ H1.out HE1.out).mono ?_
    rintro r w2 ⟨rfl, h2, hg2⟩
    have H2 := hide h2
    have HE2 := hide (HE0.out _ _ HE1.out hg2)
    have Hg2 := hide (grow_trans Hg1.out hg2)
    have Hf2 := hide (opat_grown Hf1.out hg2 hqp)
    clear h2 hg2 H1 HE1 Hg1 Hf1 HB
    go_wp2_with fail
    refine (HC.out _ H2.out HE2.out).mono ?_
    rintro r w3 ⟨rfl, h3, hg3⟩
    have H3 := hide h3
    have Hg3 := hide (grow_trans Hg2.out hg3)
    have hf3 := opat_grown Hf2.out hg3 hqp
    have Hf3 := hide hf3
    clear h3 hg3 H2 HE2 Hg2 Hf2 HC
    obtain ⟨c0, c1, c2, c3, f0, f1, f2, f3, lt⟩ := hf3
    go_wp2_with fail
    (try simp only [Exit.inBlock, Exit.then])
    refine bodyPost_ret (v := .agg #[.string ⟨#[99, 111, 112, 121]⟩, .int .i64 a, .int .i64 n, .string ⟨#[]⟩]) ?_ rfl ⟨rfl, ?_, ?_⟩
    · simp only [results, show Tryz.f54.results = #[.cell 2 44] from rfl]
      obtain ⟨s0, s1', s2', s3', _, _, _, _, _⟩ := Hf3.out.set ⟨⟨#[99, 111, 112, 121]⟩, a, n, ⟨#[]⟩⟩
      go_simp
    · exact H3.out.below' (((((Below.refl (p + 1) w3).setCell (by simp; omega) _).setCell (by simp; omega) _).setCell (by simp; omega) _).setCell (by simp; omega) _)
    · exact grow_setNew (grow_setNew (grow_setNew (grow_setNew Hg3.out (Nat.le_refl _) _) (Nat.le_refl _) _) (Nat.le_refl _) _) (Nat.le_refl _) _
  · rw [if_neg hk0]
    obtain ⟨l, rfl⟩ := HN.out hk0
    have hk0' : ((k : Int) == 0) = false := by simp; omega
    by_cases hk1 : k = 1
    · subst hk1
      rw [if_pos rfl]
      simp only [dataOp, kData]
      generalize str d = D at *
      clear HB HC HN hk0
      go_enter Tryz.func54, Tryz.ntmps54
      go_wp2_with fail
      refine (HA.out _ Hst.out HE.out).mono ?_
      rintro r w1 ⟨rfl, h1, hg1⟩
      have H1 := hide h1
      have HE1 := hide (HE0.out _ _ HE.out hg1)
      have Hg1 := hide (grow_trans Hg0.out hg1)
      have Hf1 := hide (opat_grown Hf.out hg1 hqp)
      clear h1 hg1 Hst HE Hg0 Hf HA
      go_wp2_with fail
      refine (HT.out _ H1.out HE1.out).mono ?_
      rintro r w3 ⟨rfl, h3, hg3⟩
      have H3 := hide h3
      have Hg3 := hide (grow_trans Hg1.out hg3)
      have hf3 := opat_grown Hf1.out hg3 hqp
      have Hf3 := hide hf3
      clear h3 hg3 H1 HE1 Hg1 Hf1 HT
      obtain ⟨c0, c1, c2, c3, f0, f1, f2, f3, lt⟩ := hf3
      go_wp2_with fail
      (try simp only [Exit.inBlock, Exit.then])
      refine bodyPost_ret (v := .agg #[.string ⟨#[100, 97, 116, 97]⟩, .int .i64 0, .int .i64 0, .string D]) ?_ rfl ⟨rfl, ?_, ?_⟩
      · simp only [results, show Tryz.f54.results = #[.cell 2 44] from rfl]
        obtain ⟨s0, s1', s2', s3', _, _, _, _, _⟩ := Hf3.out.set ⟨⟨#[100, 97, 116, 97]⟩, 0, 0, D⟩
        go_simp
      · exact H3.out.below' (((((Below.refl (p + 1) w3).setCell (by simp; omega) _).setCell (by simp; omega) _).setCell (by simp; omega) _).setCell (by simp; omega) _)
      · exact grow_setNew (grow_setNew (grow_setNew (grow_setNew Hg3.out (Nat.le_refl _) _) (Nat.le_refl _) _) (Nat.le_refl _) _) (Nat.le_refl _) _
    · rw [if_neg hk1]
      have hk1' : ((k : Int) == 1) = false := by simp; omega
      simp only [zeroOp]
      clear HB HC HN HT hk0 hk1
      go_enter Tryz.func54, Tryz.ntmps54
      go_wp2_with fail
      refine (HA.out _ Hst.out HE.out).mono ?_
      rintro r w1 ⟨rfl, ⟨sl, hsl, h1⟩, hg1⟩
      have H1 := hide h1
      have hT := (HE0.out _ _ HE.out hg1).text
      have Hg1 := hide (grow_trans Hg0.out hg1)
      have Hf1 := hide (opat_grown Hf.out hg1 hqp)
      clear h1 hg1 Hst HE Hg0 Hf HA hsl
      go_wp2_with fail
      refine (failR4 _ _ _ _ _ H1.out).mono ?_
      rintro r w3 ⟨rfl, h3, hg3⟩
      have H3 := hide h3
      have Hg3 := hide (grow_trans Hg1.out hg3)
      have hf3 := opat_grown Hf1.out hg3 hqp
      have Hf3 := hide hf3
      clear h3 hg3 H1 Hg1 Hf1
      obtain ⟨c0, c1, c2, c3, f0, f1, f2, f3, lt⟩ := hf3
      go_wp2_with fail
      (try simp only [Exit.inBlock, Exit.then])
      refine bodyPost_ret (v := .agg #[.string ⟨#[]⟩, .int .i64 0, .int .i64 0, .string ⟨#[]⟩]) ?_ rfl ⟨rfl, ?_, ?_⟩
      · simp only [results, show Tryz.f54.results = #[.cell 2 44] from rfl]
        obtain ⟨s0, s1', s2', s3', _, _, _, _, _⟩ := Hf3.out.set ⟨⟨#[]⟩, 0, 0, ⟨#[]⟩⟩
        go_simp
      · exact ⟨Or.inl rfl, H3.out.below' (((((Below.refl (p + 1) w3).setCell (by simp; omega) _).setCell (by simp; omega) _).setCell (by simp; omega) _).setCell (by simp; omega) _)⟩
      · exact grow_setNew (grow_setNew (grow_setNew (grow_setNew Hg3.out (Nat.le_refl _) _) (Nat.le_refl _) _) (Nat.le_refl _) _) (Nat.le_refl _) _
end Go.Proofs.YtcenohaadggdiacGreatDoor
