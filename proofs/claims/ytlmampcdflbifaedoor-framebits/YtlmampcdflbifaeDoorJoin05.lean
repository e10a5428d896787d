/-
  Contracts of Done, NewWriter over this dump.
  Contracts of the reader's methods over this dump.
  Contracts of the reader's Num and Text, of Get and GetText, over this dump: every text.
  What a number that is read may be. No function of the program.
  From what is shown of package frame (FrameGo) to what FrameTells and FrameBits ask.
-/
import Derived.Test.YtlmampcdflbifaeDoorJoin04
import Derived.Test.YtlmampcdflbifaeDoorJoin01
namespace Go.Proofs.YtlmampcdflbifaeDoor
open Go.RowKit

theorem strOfNums_str (bs : List UInt8) : strOfNums (bs.map fun b => (b.toNat : Int)) = str bs := by
  have : (bs.map fun b => (b.toNat : Int)).map (fun n => UInt8.ofNat n.toNat) = bs := by
    rw [List.map_map]
    conv => rhs; rw [← List.map_id bs]
    apply List.map_congr_left
    intro b _
    simp
  unfold strOfNums
  rw [this]
  rfl

theorem WrAt.conv {p : Nat} {w : World} {bs : List UInt8} {v : Value} (h : WrAt p w bs v) : (convert 32 9 v).run Tryd.prog w = .ok (.string (str bs)) w := by
  rcases h.own.2 with ⟨rfl, hl⟩ | ⟨g, cap, cur, rfl, _, hg, hn, _, hs, ht⟩
  · have hb : bs = [] := List.length_eq_zero_iff.1 hl
    subst hb
    exact run_convert_bytes_nil w 32 5 Tryd.underlying32 Tryd.underlying5 0 0 9 Tryd.underlying9
  · have := run_convert_bytes_arg (P := Tryd.prog) w 32 5 Tryd.underlying32 Tryd.underlying5 g 0 bs.length cap (bs.map fun b => (b.toNat : Int)) (by simp) (fun i hi => by
      have := h.own.cells (g := g) rfl i (.int .u8 (bs[i]).toNat) (by simp [cellOf, hi])
      rw [Addr.add_lit] at this
      simpa [List.getD, hi] using this) 9 Tryd.underlying9
    rw [this, strOfNums_str]

set_option maxHeartbeats 400000 in
theorem done_ok (p : Nat) (bs : List UInt8) (v : Value) (w : World) (h : WrAt p w bs v) :
    Calls Tryd.prog 19 #[.pointer (some ⟨p, 0, none⟩)] w fun e w' => e = .returned (.tuple #[.string (str bs), .nilIface]) ∧ w' = w := by
  have hcv := h.conv
  obtain ⟨c0, c1, f0, f1, lt, own⟩ := h
  clear own
  go_enter Tryd.func19, Tryd.ntmps19
  go_wp2
  go_ret2
  exact ⟨rfl, rfl⟩

theorem new_ok (w : World) : Calls Tryd.prog 15 #[] w fun e w' => e = .returned (.pointer (some ⟨w.heap.size, 0, none⟩)) ∧ w.alloc (.cells #[.slice none 0 0, .nilIface] 64) = w' := by
  go_enter Tryd.func15, Tryd.ntmps15
  go_wp2
  go_ret
  exact ⟨rfl, rfl⟩

theorem WrAt.fresh (w : World) : WrAt w.heap.size (w.alloc (.cells #[.slice none 0 0, .nilIface] 64)) [] (.slice none 0 0) :=
  ⟨by simp, by simp, by simp, by simp, by simp, by simpa using World.ownsRow_nil _ _ _ _⟩
end Go.Proofs.YtlmampcdflbifaeDoor

namespace Go.Proofs.YtlmampcdflbifaeDoor
open Go.RowKit

/-- The reader at block p, with no error, has the text s left. -/
structure RdAt (p : Nat) (w : World) (s : ByteArray) (e : Value) : Prop where
  c0 : w.cell? ⟨p, 0, none⟩ = some (.string s)
  c1 : w.cell? ⟨p, 1, none⟩ = some e
  f0 : w.frozen? ⟨p, 0, none⟩ = false
  f1 : w.frozen? ⟨p, 1, none⟩ = false
  lt : p < w.heap.size

theorem newR_ok (s : ByteArray) (w : World) : Calls Tryd.prog 21 #[.string s] w fun e w' => e = .returned (.pointer (some ⟨w.heap.size, 0, none⟩)) ∧ w.alloc (.cells #[.string s, .nilIface] 68) = w' := by
  go_enter Tryd.func21, Tryd.ntmps21
  go_wp2
  go_ret
  exact ⟨rfl, rfl⟩

theorem RdAt.fresh (w : World) (s : ByteArray) : RdAt w.heap.size (w.alloc (.cells #[.string s, .nilIface] 68)) s .nilIface :=
  ⟨by simp, by simp, by simp, by simp, by simp⟩

/-- Of what was there only block p has changed. -/
theorem grow_set {p i : Nat} {w w1 : World} (h : w.grownBy w1 (some p)) (v : Value) : w.grownBy (w1.setCell ⟨p, i, none⟩ v) (some p) :=
  ⟨h.os, h.tape, h.output, by rw [World.size_setCell]; exact h.size, fun k hk hn => (Below.heap_setCell _ _ _ _ (fun e => hn (by rw [e]))).trans (h.block k hk hn)⟩
theorem grow_trans {p : Nat} {w w1 w2 : World} (h : w.grownBy w1 (some p)) (k : w1.grownBy w2 (some p)) : w.grownBy w2 (some p) :=
  ⟨k.os.trans h.os, k.tape.trans h.tape, k.output.trans h.output, Nat.le_trans h.size k.size, fun i hi hn => (k.block i (Nat.lt_of_lt_of_le hi h.size) hn).trans (h.block i hi hn)⟩
theorem grow_below {p : Nat} {w w' : World} (h : w.grownBy w' (some p)) (hp : p < w.heap.size) : Below p w w' :=
  ⟨h.os, h.tape, h.output, h.size, fun k hk => h.block k (by omega) (fun e => by cases e; omega)⟩

theorem failR4 (p : Nat) (s : ByteArray) (t : TypeId) (x : Value) (w : World) (h : RdAt p w s .nilIface) :
    Calls Tryd.prog 30 #[.pointer (some ⟨p, 0, none⟩), .iface t x] w fun r w' => r = .returned (.tuple #[]) ∧ RdAt p w' ByteArray.empty (.iface t x) ∧ w.grownBy w' (some p) := by
  have H := hide h
  obtain ⟨c0, c1, f0, f1, lt⟩ := h
  go_enter Tryd.func30, Tryd.ntmps30
  go_wp2
  go_end0
  refine ⟨rfl, ⟨?_, ?_, by simpa using f0, by simpa using f1, by simpa using lt⟩, grow_set (grow_set (World.grownBy.refl _ _) _) _⟩
  · rw [World.cell?_setCell_other _ _ _ _ (by simp)]; exact World.cell?_setCell_same _ _ _ c0
  · exact World.cell?_setCell_same _ _ _ (by rw [World.cell?_setCell_other _ _ _ _ (by simp)]; exact c1)

set_option maxHeartbeats 400000 in
set_option maxRecDepth 100000 in
theorem whole_ok (p : Nat) (s : ByteArray) (n i : Nat) (w : World) (h : RdAt p w s .nilIface) (hn : n ≤ 1099511627776) (hi : i < s.size) (hs : s.size ≤ 1000000) (hz : 0 < i → (s[i]).toNat ≠ 0) :
    Calls Tryd.prog 31 #[.pointer (some ⟨p, 0, none⟩), .int .i64 n, .int .i64 i] w fun r w' => r = .returned (.int .i64 n) ∧ RdAt p w' (s.extract (i + 1) s.size) .nilIface ∧ w.grownBy w' (some p) := by
  obtain ⟨c0, c1, f0, f1, lt⟩ := h
  have hn' : (n : Int) ≤ 1099511627776 := by omega
  have hi' : (i : Int) < s.size := by omega
  have hs' : (s.size : Int) ≤ 1000000 := by omega
  by_cases h0 : 0 < i
  · have h0' : decide ((0 : Int) < i) = true := by simp; omega
    have hz' := hz h0
    clear hz
    go_enter Tryd.func31, Tryd.ntmps31
    go_wp2_with fail
    go_ret
    refine ⟨rfl, ⟨World.cell?_setCell_same _ _ _ c0, ?_, by simpa using f0, by simpa using f1, by simpa using lt⟩, grow_set (World.grownBy.refl _ _) _⟩
    rw [World.cell?_setCell_other _ _ _ _ (by simp)]; exact c1
  · have h0' : decide ((0 : Int) < i) = false := by simp; omega
    clear hz
    go_enter Tryd.func31, Tryd.ntmps31
    go_wp2_with fail
    go_ret
    refine ⟨rfl, ⟨World.cell?_setCell_same _ _ _ c0, ?_, by simpa using f0, by simpa using f1, by simpa using lt⟩, grow_set (World.grownBy.refl _ _) _⟩
    rw [World.cell?_setCell_other _ _ _ _ (by simp)]; exact c1

set_option maxHeartbeats 400000 in
set_option maxRecDepth 100000 in
/-- The last byte is 0, and not the only one. -/
theorem whole_zero (p : Nat) (s : ByteArray) (n : Int) (i : Nat) (t : TypeId) (x : Value) (w : World) (h : RdAt p w s .nilIface) (hT : w.cell? ⟨2, 0, none⟩ = some (.iface t x)) (hi : i < s.size) (hs : s.size ≤ 1000000) (h0 : 0 < i) (hz : (s[i]).toNat = 0) :
    Calls Tryd.prog 31 #[.pointer (some ⟨p, 0, none⟩), .int .i64 n, .int .i64 i] w fun r w' => r = .returned (.int .i64 0) ∧ RdAt p w' ByteArray.empty (.iface t x) ∧ w.grownBy w' (some p) := by
  have H := hide h
  obtain ⟨c0, c1, f0, f1, lt⟩ := h
  have hi' : (i : Int) < s.size := by omega
  have hs' : (s.size : Int) ≤ 1000000 := by omega
  have h0' : decide ((0 : Int) < i) = true := by simp; omega
  have hz' : ((s[i].toNat : Int) == 0) = true := by simp [hz]
  clear hz
  go_enter Tryd.func31, Tryd.ntmps31
  go_wp2_with fail
  refine (failR4 _ _ _ _ _ H.out).mono ?_
  rintro e w1 ⟨rfl, h1, hb1⟩
  have H1 := hide h1
  have Hb1 := hide hb1
  clear h1 hb1
  go_wp2
  go_ret
  exact ⟨rfl, H1.out, Hb1.out⟩

set_option maxHeartbeats 400000 in
set_option maxRecDepth 100000 in
/-- Above MaxNum. -/
theorem whole_big (p : Nat) (s : ByteArray) (n i : Nat) (t : TypeId) (x : Value) (w : World) (h : RdAt p w s .nilIface) (hT : w.cell? ⟨1, 0, none⟩ = some (.iface t x)) (hi : i < s.size) (hs : s.size ≤ 1000000) (hn : 1099511627776 < n) (hz : 0 < i → (s[i]).toNat ≠ 0) :
    Calls Tryd.prog 31 #[.pointer (some ⟨p, 0, none⟩), .int .i64 n, .int .i64 i] w fun r w' => r = .returned (.int .i64 0) ∧ RdAt p w' ByteArray.empty (.iface t x) ∧ w.grownBy w' (some p) := by
  have H := hide h
  obtain ⟨c0, c1, f0, f1, lt⟩ := h
  have hn' : (1099511627776 : Int) < n := by omega
  have hi' : (i : Int) < s.size := by omega
  have hs' : (s.size : Int) ≤ 1000000 := by omega
  by_cases h0 : 0 < i
  · have h0' : decide ((0 : Int) < i) = true := by simp; omega
    have hz' := hz h0
    clear hz
    go_enter Tryd.func31, Tryd.ntmps31
    go_wp2_with fail
    refine (failR4 _ _ _ _ _ H.out).mono ?_
    rintro e w1 ⟨rfl, h1, hb1⟩
    have H1 := hide h1
    have Hb1 := hide hb1
    clear h1 hb1
    go_wp2
    go_ret
    exact ⟨rfl, H1.out, Hb1.out⟩
  · have h0' : decide ((0 : Int) < i) = false := by simp; omega
    clear hz
    go_enter Tryd.func31, Tryd.ntmps31
    go_wp2_with fail
    refine (failR4 _ _ _ _ _ H.out).mono ?_
    rintro e w1 ⟨rfl, h1, hb1⟩
    have H1 := hide h1
    have Hb1 := hide hb1
    clear h1 hb1
    go_wp2
    go_ret
    exact ⟨rfl, H1.out, Hb1.out⟩

theorem failR_ok (p : Nat) (s : ByteArray) (t : TypeId) (x : Value) (w : World) (h : RdAt p w s .nilIface) :
    Calls Tryd.prog 30 #[.pointer (some ⟨p, 0, none⟩), .iface t x] w fun r w' => r = .returned (.tuple #[]) ∧ RdAt p w' ByteArray.empty (.iface t x) ∧ Below p w w' :=
  (failR4 p s t x w h).mono fun _ _ ⟨h1, h2, h3⟩ => ⟨h1, h2, grow_below h3 h.lt⟩
end Go.Proofs.YtlmampcdflbifaeDoor

namespace Go.Proofs.YtlmampcdflbifaeDoor
open Go.RowKit

/-- What the reader's Num leaves, by the plain function. -/
def NumRes (p : Nat) (s : ByteArray) (tT : TypeId) (xT : Value) (tB : TypeId) (xB : Value) (r : Ending) (w' : World) : Prop :=
  match Go.Num.dec s.data.toList with
  | .ok (n, k) => r = .returned (.int .i64 n) ∧ RdAt p w' (s.extract k s.size) .nilIface
  | .error 1 => r = .returned (.int .i64 0) ∧ RdAt p w' ByteArray.empty (.iface tT xT)
  | .error _ => r = .returned (.int .i64 0) ∧ RdAt p w' ByteArray.empty (.iface tB xB)

theorem byte_wrap (b : UInt8) : wrap64 (b.toNat : Int) = (b.toNat : Int) := by
  have := b.toNat_lt
  unfold wrap64
  omega

/-- One byte more: no bit is lost. -/
theorem step_val (acc j : Nat) (b : UInt8) (hj : j < 6) (ha : acc < 128 ^ j) : wrap64 ((acc : Int) + wrap64 ((b.toNat : Int) % 128 * 2 ^ (7 * j))) = ((acc + b.toNat % 128 * 128 ^ j : Nat) : Int) := by
  have hb := b.toNat_lt
  have ht : (b.toNat : Int) % 128 = ((b.toNat % 128 : Nat) : Int) := by omega
  rw [ht]
  generalize hm : b.toNat % 128 = m
  have hm' : m < 128 := by omega
  unfold wrap64
  match j, hj with
  | 0, _ => simp at ha ⊢; omega
  | 1, _ => simp at ha ⊢; omega
  | 2, _ => simp at ha ⊢; omega
  | 3, _ => simp at ha ⊢; omega
  | 4, _ => simp at ha ⊢; omega
  | 5, _ => simp at ha ⊢; omega

theorem step_lt (acc j m : Nat) (ha : acc < 128 ^ j) (hm : m < 128) : acc + m * 128 ^ j < 128 ^ (j + 1) := by
  rw [Nat.pow_succ, Nat.mul_comm (128 ^ j) 128]
  have : m * 128 ^ j ≤ 127 * 128 ^ j := Nat.mul_le_mul_right _ (by omega)
  omega

/-- The loop's end by a byte below 128. -/
theorem dec_of_scan (L : List UInt8) (n i : Nat) (h : Go.Num.scan 6 L 0 0 = some (n, i)) : Go.Num.dec L = if 0 < i ∧ L[i]? = some 0 then .error 1 else if 1099511627776 < n then .error 2 else .ok (n, i + 1) := by
  unfold Go.Num.dec; rw [h]
theorem dec_of_none (L : List UInt8) (h : Go.Num.scan 6 L 0 0 = none) : Go.Num.dec L = .error 1 := by
  unfold Go.Num.dec; rw [h]

theorem scan_end (k : Nat) (b : UInt8) (r : List UInt8) (acc i : Nat) (hb : b.toNat < 128) : Go.Num.scan (k + 1) (b :: r) acc i = some (acc + b.toNat % 128 * 128 ^ i, i) := by
  rw [Go.Num.scan, if_pos hb]
theorem scan_next (k : Nat) (b : UInt8) (r : List UInt8) (acc i : Nat) (hb : ¬ b.toNat < 128) : Go.Num.scan (k + 1) (b :: r) acc i = Go.Num.scan k r (acc + b.toNat % 128 * 128 ^ i) (i + 1) := by
  rw [Go.Num.scan, if_neg hb]

set_option maxHeartbeats 400000 in
set_option maxRecDepth 100000 in
theorem numR4 (p : Nat) (s : ByteArray) (tT : TypeId) (xT : Value) (tB : TypeId) (xB : Value) (w : World) (h : RdAt p w s .nilIface) (hs : s.size ≤ 1000000)
    (hT : w.cell? ⟨2, 0, none⟩ = some (.iface tT xT)) (hB : w.cell? ⟨1, 0, none⟩ = some (.iface tB xB)) :
    Calls Tryd.prog 23 #[.pointer (some ⟨p, 0, none⟩)] w fun r w' => NumRes p s tT xT tB xB r w' ∧ w.grownBy w' (some p) := by
  have H := hide h
  obtain ⟨c0, c1, f0, f1, lt⟩ := h
  have hs' : (s.size : Int) ≤ 1000000 := by omega
  go_enter Tryd.func23, Tryd.ntmps23
  go_wp2_with fail
  go_loop [3, 4] (fun a b => ∃ j acc : Nat, a = .int .i64 acc ∧ b = .int .i64 j ∧ j ≤ 6 ∧ j ≤ s.size ∧ acc < 128 ^ j ∧ Hid (Go.Num.scan 6 s.data.toList 0 0 = Go.Num.scan (6 - j) (s.data.toList.drop j) acc j)) (fun _ b => 6 - (intOf b).toNat)
  case atStart => exact ⟨0, 0, rfl, rfl, by omega, by omega, by simp, rfl⟩
  case round =>
    obtain ⟨j, acc, rfl, rfl, hj6, hjs, hacc, He⟩ := hrel
    by_cases hlt : j < s.size
    · have hlt' : decide ((j : Int) < s.size) = true := by simp; omega
      have hlt'' : (j : Int) < s.size := by omega
      by_cases h6 : j < 6
      · have h6' : (j : Int) < 6 := by omega
        have hw := byte_wrap s[j]
        have hsv := hide (step_val acc j s[j] h6 hacc)
        have he := He.out
        rw [dropL s j hlt, show 6 - j = (5 - j) + 1 by omega] at he
        by_cases hb : (s[j]).toNat < 128
        · have hb' : ((s[j]).toNat : Int) < 128 := by omega
          rw [scan_end _ _ _ _ _ hb] at he
          have hdec := dec_of_scan _ _ _ he
          rw [getL s j hlt] at hdec
          have Hdec := hide hdec
          clear he hdec He
          go_wp2_with fail
          rw [hsv.out]
          have HN := hide hacc
          clear hacc hw hsv
          generalize acc + (s[j]).toNat % 128 * 128 ^ j = N at *
          by_cases hz : 0 < j ∧ (s[j]).toNat = 0
          · refine (whole_zero p s _ j tT xT w H.out hT hlt hs hz.1 hz.2).mono ?_
            rintro e w1 ⟨rfl, h1, hb1⟩
            have H1 := hide h1
            have Hb1 := hide hb1
            clear h1 hb1
            have hfin : Go.Num.dec s.data.toList = .error 1 := by
              rw [Hdec.out, if_pos ⟨hz.1, congrArg some (UInt8.toNat_inj.1 (by simpa using hz.2))⟩]
            have Hfin := hide hfin
            clear hfin
            go_wp2
            go_ret
            refine ⟨?_, Hb1.out⟩
            unfold NumRes
            rw [Hfin.out]
            exact ⟨rfl, H1.out⟩
          · have hz' : ¬ (0 < j ∧ (some s[j]) = some (0 : UInt8)) := by
              rintro ⟨a1, a2⟩
              refine hz ⟨a1, ?_⟩
              rw [Option.some.inj a2]; rfl
            have hz2 : 0 < j → (s[j]).toNat ≠ 0 := fun a b => hz ⟨a, b⟩
            have hd := Hdec.out
            rw [if_neg hz'] at hd
            by_cases hN : 1099511627776 < N
            · rw [if_pos hN] at hd
              have Hfin := hide hd
              refine (whole_big p s N j tB xB w H.out hB hlt hs hN hz2).mono ?_
              rintro e w1 ⟨rfl, h1, hb1⟩
              have H1 := hide h1
              have Hb1 := hide hb1
              clear h1 hb1 hz hz' hz2 hd
              go_wp2
              go_ret
              refine ⟨?_, Hb1.out⟩
              unfold NumRes
              rw [Hfin.out]
              exact ⟨rfl, H1.out⟩
            · rw [if_neg hN] at hd
              have Hfin := hide hd
              refine (whole_ok p s N j w H.out (by omega) hlt hs hz2).mono ?_
              rintro e w1 ⟨rfl, h1, hb1⟩
              have H1 := hide h1
              have Hb1 := hide hb1
              clear h1 hb1 hz hz' hz2 hd
              go_wp2
              go_ret
              refine ⟨?_, Hb1.out⟩
              unfold NumRes
              rw [Hfin.out]
              exact ⟨rfl, H1.out⟩
        · have hb' : (128 : Int) ≤ ((s[j]).toNat : Int) := by omega
          rw [scan_next _ _ _ _ _ hb] at he
          have Hn := hide he
          have hl := step_lt acc j ((s[j]).toNat % 128) hacc (by omega)
          have Hl := hide hl
          clear he hl He
          go_wp2_with fail
          go_round
          case rel =>
            refine ⟨j + 1, acc + (s[j]).toNat % 128 * 128 ^ j, ?_, by go_num, by omega, by omega, Hl.out, ?_⟩
            · rw [hsv.out]
            · rw [show 6 - (j + 1) = 5 - j by omega]; exact Hn.out
          case measure => simp [intOf]; omega
      · have h6' : (6 : Int) ≤ j := by omega
        have hj : j = 6 := by omega
        have he := He.out
        rw [show 6 - j = 0 by omega, Go.Num.scan] at he
        have Hfin := hide (dec_of_none _ he)
        clear he He hj
        go_wp2_with fail
        refine (failR4 _ _ _ _ _ H.out).mono ?_
        rintro e w1 ⟨rfl, h1, hb1⟩
        have H1 := hide h1
        have Hb1 := hide hb1
        clear h1 hb1
        go_wp2
        go_ret
        refine ⟨?_, Hb1.out⟩
        unfold NumRes
        rw [Hfin.out]
        exact ⟨rfl, H1.out⟩
    · have hlt' : decide ((j : Int) < s.size) = false := by simp; omega
      have hlt'' : (s.size : Int) ≤ (j : Int) := by omega
      have he := He.out
      have hj : s.data.toList.drop j = [] := by rw [List.drop_eq_nil_iff, lenL]; omega
      have hk : Go.Num.scan (6 - j) [] acc j = none := by cases 6 - j <;> rfl
      rw [hj, hk] at he
      have Hfin := hide (dec_of_none _ he)
      clear he He hj hk
      go_wp2_with fail
      refine (failR4 _ _ _ _ _ H.out).mono ?_
      rintro e w1 ⟨rfl, h1, hb1⟩
      have H1 := hide h1
      have Hb1 := hide hb1
      clear h1 hb1
      go_wp2
      go_ret
      refine ⟨?_, Hb1.out⟩
      unfold NumRes
      rw [Hfin.out]
      exact ⟨rfl, H1.out⟩

theorem numR (p : Nat) (s : ByteArray) (tT : TypeId) (xT : Value) (tB : TypeId) (xB : Value) (w : World) (h : RdAt p w s .nilIface) (hs : s.size ≤ 1000000)
    (hT : w.cell? ⟨2, 0, none⟩ = some (.iface tT xT)) (hB : w.cell? ⟨1, 0, none⟩ = some (.iface tB xB)) :
    Calls Tryd.prog 23 #[.pointer (some ⟨p, 0, none⟩)] w fun r w' => NumRes p s tT xT tB xB r w' ∧ Below p w w' :=
  (numR4 p s tT xT tB xB w h hs hT hB).mono fun _ _ ⟨h1, h2⟩ => ⟨h1, grow_below h2 h.lt⟩
end Go.Proofs.YtlmampcdflbifaeDoor

namespace Go.Proofs.YtlmampcdflbifaeDoor
open Go.RowKit

theorem scan_some (f : Nat) : ∀ (L : List UInt8) (acc i0 n i : Nat), Go.Num.scan f L acc i0 = some (n, i) → i0 ≤ i ∧ i - i0 < L.length := by
  induction f with
  | zero => intro L acc i0 n i h; simp [Go.Num.scan] at h
  | succ f ih =>
    intro L acc i0 n i h
    cases L with
    | nil => simp [Go.Num.scan] at h
    | cons b r =>
      by_cases hb : b.toNat < 128
      · rw [scan_end _ _ _ _ _ hb] at h
        simp at h
        obtain ⟨_, rfl⟩ := h
        exact ⟨Nat.le_refl _, by simp⟩
      · rw [scan_next _ _ _ _ _ hb] at h
        have := ih _ _ _ _ _ h
        simp only [List.length_cons]
        omega

theorem dec_ok (L : List UInt8) (n k : Nat) (h : Go.Num.dec L = .ok (n, k)) : n ≤ 1099511627776 ∧ k ≤ L.length := by
  cases hs : Go.Num.scan 6 L 0 0 with
  | none => rw [dec_of_none _ hs] at h; cases h
  | some x =>
    obtain ⟨m, i⟩ := x
    rw [dec_of_scan _ _ _ hs] at h
    have := scan_some _ _ _ _ _ _ hs
    split at h
    · cases h
    · split at h
      · cases h
      · cases h
        omega

theorem dec_err (L : List UInt8) (c : Nat) (h : Go.Num.dec L = .error c) : c = 1 ∨ c = 2 := by
  cases hs : Go.Num.scan 6 L 0 0 with
  | none => rw [dec_of_none _ hs] at h; cases h; exact Or.inl rfl
  | some x =>
    obtain ⟨m, i⟩ := x
    rw [dec_of_scan _ _ _ hs] at h
    split at h
    · cases h; exact Or.inl rfl
    · split at h
      · cases h; exact Or.inr rfl
      · cases h
end Go.Proofs.YtlmampcdflbifaeDoor

namespace Go.Proofs.YtlmampcdflbifaeDoor
open Go.RowKit
open Go.Frame (Fr frErr encF encOut rdOut rdF rdB)

def sentsE (a : Nat → Addr) : FrVs := ⟨99, .pointer (some (a 0)), 99, .pointer (some (a 1)), 99, .pointer (some (a 3)), 99, .pointer (some (a 9))⟩
theorem sents_frEr {a : Nat → Addr} {w : World} (h : Sents w a) : FrEr (sentsE a) w := ⟨h.cell 0 (by decide), h.cell 1 (by decide), h.cell 3 (by decide), h.cell 9 (by decide)⟩
theorem codes_errG (a : Nat → Addr) (w : World) (h : Sents w a) (c : Nat) (hc : c = 0 ∨ c = 1 ∨ c = 2 ∨ c = 4 ∨ c = 10) : Codes w (errG (sentsE a) c) c := by
  rcases hc with rfl | rfl | rfl | rfl | rfl
  · exact codes_nil w
  · exact codes_bare w a h 0 (by decide)
  · exact codes_bare w a h 1 (by decide)
  · exact codes_bare w a h 3 (by decide)
  · exact codes_bare w a h 9 (by decide)
theorem frErr_codes (f : Fr) : frErr f = 0 ∨ frErr f = 1 ∨ frErr f = 2 ∨ frErr f = 4 ∨ frErr f = 10 := by
  rcases Go.Frame.frErr_code f with h | h | h <;> simp [h]
theorem num_codeT {s : List UInt8} {c : Nat} (h : Go.Sign.num s = .error c) : c = 1 ∨ c = 2 := by
  unfold Go.Sign.num at h
  split at h
  · cases h
  · rename_i e hd
    cases h
    exact dec_err _ _ hd
theorem txt_codeT {s : List UInt8} {c : Nat} (h : Go.Delta.txt s = .error c) : c = 1 ∨ c = 2 := by
  unfold Go.Delta.txt at h
  split at h
  · rename_i e hd
    cases h
    exact num_codeT hd
  · split at h
    · cases h; simp
    · split at h
      · cases h; simp
      · cases h
theorem rdB_code {s : List UInt8} {c : Nat} (h : rdB s = .error c) : c = 1 ∨ c = 2 ∨ c = 4 := by
  unfold rdB at h
  split at h
  · cases h; simp
  · split at h
    · rename_i e hd
      cases h
      rcases num_codeT hd with h | h <;> simp [h]
    · split at h
      · rename_i e hd
        cases h
        rcases num_codeT hd with h | h <;> simp [h]
      · split at h
        · rename_i e hd
          cases h
          rcases txt_codeT hd with h | h <;> simp [h]
        · split at h
          · split at h
            · cases h
            · rename_i hne
              cases h
              rcases Go.Frame.frErr_code _ with h | h | h
              · exact absurd h hne
              · simp [h]
              · simp [h]
          · cases h; simp
theorem rdOut_code (s : List UInt8) : (rdOut s).2 = 0 ∨ (rdOut s).2 = 1 ∨ (rdOut s).2 = 2 ∨ (rdOut s).2 = 4 ∨ (rdOut s).2 = 10 := by
  cases h : rdF s with
  | ok f => rw [rdOut_ok h]; simp
  | error c =>
    rw [rdOut_err h]
    unfold rdF at h
    split at h
    · cases h; simp
    · split at h
      · rcases rdB_code h with h | h | h <;> simp [h]
      · cases h; simp
theorem frameTell (a : Nat → Addr) (h : FrameGo (sentsE a)) : FrameTell a where
  check := fun f W hf hS => (h.check f W hf (sents_frEr hS)).mono fun _ _ ⟨h1, hb⟩ => ⟨⟨_, h1, codes_errG a _ (hS.below hb) _ (frErr_codes f)⟩, hb⟩
  encode := fun f W hf hS => (h.encode f W hf (sents_frEr hS)).mono fun _ _ ⟨h1, hb⟩ => ⟨⟨_, h1, errG_nilOr _ _, codes_errG a _ (hS.below hb) _ (frErr_codes f)⟩, hb⟩
  decode := fun s W hs hS => (h.decode s W hs (sents_frEr hS)).mono fun _ _ ⟨h1, hb⟩ => ⟨⟨_, h1, errG_nilOr _ _, codes_errG a _ (hS.below hb) _ (rdOut_code _)⟩, hb⟩
theorem rdOut_none {s : List UInt8} (h : (rdOut s).2 ≠ 0) : (rdOut s).1 = zeroF := by
  cases h' : rdF s with
  | ok f => rw [rdOut_ok h'] at h; exact absurd rfl h
  | error c => rw [rdOut_err h']
theorem frameSum (a : Nat → Addr) (h : FrameGo (sentsE a)) : FrameSum a := fun s W hs hS hc => (h.decode s W hs (sents_frEr hS)).mono fun _ _ ⟨h1, hb⟩ => ⟨by rw [h1, hc, rdOut_none (by rw [hc]; decide)]; rfl, hb⟩
end Go.Proofs.YtlmampcdflbifaeDoor
