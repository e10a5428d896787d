/-
  Plain mathematics of frames: their bytes, how they are read; a frame is read as it was written; what is read was written so; one bit turned: none. No program, no walk.
  Frames as values and at a block; what a text makes of them; parts of a text. No function of the program.
  An argument of type packhorseref2.Frame, by value, reads as a frame.
  An error that is nil where there is none.
  What the laws of stage 8 ask of package frame, as contracts (to be shown over the program's own text); the closed fact of stage 8.
-/
import Derived.Test.YtlmampcdflbifaeDoorJoin02
import Derived.Lib.SmallJoins
import Derived.Test.YtlmampcdflbifaeDoorJoin01
namespace Go.Num
/-- What is read as a number was written so. -/
theorem scan_canon : ∀ (k : Nat) (L : List UInt8) (acc i n j : Nat), scan (k + 1) L acc i = some (n, j) →
    i ≤ j ∧ j - i < L.length ∧ ∃ m, n = acc + m * 128 ^ i ∧ (j = i → m < 128) ∧ (L[j - i]? ≠ some 0 → 1 ≤ m) ∧ (i < j → L[j - i]? ≠ some 0 → 128 ≤ m) ∧ ((j = i ∨ L[j - i]? ≠ some 0) → L = encF k m ++ L.drop (j - i + 1)) := by
  intro k
  induction k with
  | zero =>
    intro L acc i n j h
    cases L with
    | nil => simp [scan] at h
    | cons b r =>
      rw [scan] at h
      split at h
      · rename_i hb
        cases h
        refine ⟨Nat.le_refl _, by simp, b.toNat, by rw [Nat.mod_eq_of_lt hb], fun _ => hb, fun h => ?_, fun h => by omega, fun _ => ?_⟩
        · simp only [Nat.sub_self, List.getElem?_cons_zero] at h
          rcases Nat.eq_zero_or_pos b.toNat with e | e
          · exact absurd (congrArg some (UInt8.toNat_inj.1 (by simpa using e))) h
          · exact e
        · simp [encF]
      · simp [scan] at h
  | succ k ih =>
    intro L acc i n j h
    cases L with
    | nil => simp [scan] at h
    | cons b r =>
      rw [scan] at h
      split at h
      · rename_i hb
        cases h
        refine ⟨Nat.le_refl _, by simp, b.toNat, by rw [Nat.mod_eq_of_lt hb], fun _ => hb, fun h => ?_, fun h => by omega, fun _ => ?_⟩
        · simp only [Nat.sub_self, List.getElem?_cons_zero] at h
          rcases Nat.eq_zero_or_pos b.toNat with e | e
          · exact absurd (congrArg some (UInt8.toNat_inj.1 (by simpa using e))) h
          · exact e
        · rw [encF_small _ _ hb]; simp
      · rename_i hb
        obtain ⟨h1, h2, m, h3, h4, h5, h6, h7⟩ := ih r _ _ n j h
        have hbl := b.toNat_lt
        have e : ∀ t, (b :: r)[j - i]? = t ↔ r[j - (i + 1)]? = t := fun t => by
          rw [show j - i = (j - (i + 1)) + 1 by omega, List.getElem?_cons_succ]
        refine ⟨by omega, by simp; omega, b.toNat % 128 + 128 * m, ?_, fun hji => by omega, fun hz => ?_, fun _ hz => ?_, fun hor => ?_⟩
        · rw [h3, Nat.pow_succ, Nat.add_mul, Nat.add_assoc]
          congr 1
          rw [Nat.mul_comm 128 m, Nat.mul_assoc, Nat.mul_comm 128]
        · have hz' : r[j - (i + 1)]? ≠ some 0 := fun h => hz ((e _).2 h)
          have := h5 hz'
          omega
        · have hz' : r[j - (i + 1)]? ≠ some 0 := fun h => hz ((e _).2 h)
          have := h5 hz'
          omega
        · have hz : (b :: r)[j - i]? ≠ some 0 := hor.resolve_left (by omega)
          have hz' : r[j - (i + 1)]? ≠ some 0 := fun h => hz ((e _).2 h)
          have hm := h5 hz'
          rw [encF_big _ _ (by omega)]
          have h8 := h7 (Or.inr hz')
          rw [show (b.toNat % 128 + 128 * m) % 128 = b.toNat % 128 by omega, show (b.toNat % 128 + 128 * m) / 128 = m by omega]
          rw [show b.toNat % 128 + 128 = b.toNat by omega, show j - i + 1 = (j - (i + 1) + 1) + 1 by omega, List.drop_succ_cons, List.cons_append, ← h8]
          simp
theorem dec_canon {s : List UInt8} {n k : Nat} (h : dec s = .ok (n, k)) : s = enc n ++ s.drop k ∧ n ≤ 1099511627776 := by
  unfold dec at h
  split at h
  · cases h
  · rename_i n' i hs
    split at h
    · cases h
    · rename_i hz
      split at h
      · cases h
      · rename_i hn
        cases h
        obtain ⟨_, _, m, h3, _, _, _, h7⟩ := scan_canon 5 s 0 0 n i hs
        simp only [Nat.zero_add, Nat.pow_zero, Nat.mul_one, Nat.sub_zero] at h3 h7
        subst h3
        refine ⟨h7 ?_, by omega⟩
        rcases Nat.eq_zero_or_pos i with e | e
        · exact Or.inl e
        · exact Or.inr fun hq => hz ⟨e, hq⟩
end Go.Num
namespace Go.Sign
theorem num_canon {s r : List UInt8} {n : Nat} (h : num s = .ok (n, r)) : s = Go.Num.enc n ++ r ∧ n ≤ 1099511627776 := by
  unfold num at h
  split at h
  · rename_i n' k hd
    cases h
    exact Go.Num.dec_canon hd
  · cases h
end Go.Sign
namespace Go.Frame
open Go.Proofs.YtlmampcdflbifaeDoor (lenL str strL str_len ext_of_list)
open Go.Sign (num num_enc num_canon)
open Go.Delta (txt txt_enc)
open Go.Crc (crc crc_lt)

theorem txt_canon {s r d : List UInt8} (h : txt s = .ok (d, r)) : s = Go.Num.enc d.length ++ (d ++ r) ∧ d.length ≤ 20000 := by
  unfold txt at h
  split at h
  · cases h
  · rename_i n s1 h1
    obtain ⟨e1, _⟩ := num_canon h1
    split at h
    · cases h
    · split at h
      · cases h
      · rename_i h2 h3
        cases h
        have hl : (s1.take n).length = n := by rw [List.length_take]; omega
        rw [hl, List.take_append_drop]
        exact ⟨e1, by omega⟩

/-- A frame. -/
structure Fr where
  kind : UInt8
  epoch : Int
  seq : Int
  data : ByteArray
deriving DecidableEq, Inhabited
/-- An error's number. -/
def frErr (f : Fr) : Nat :=
  if f.kind.toNat < 97 ∨ 122 < f.kind.toNat then 4 else if f.epoch < 0 ∨ 2147483648 < f.epoch ∨ f.seq < 0 ∨ 65536 ≤ f.seq ∨ 20000 < f.data.size then 2 else 0
theorem frErr_code (f : Fr) : frErr f = 0 ∨ frErr f = 4 ∨ frErr f = 2 := by
  unfold frErr
  split
  · simp
  · split <;> simp
theorem frErr_zero {f : Fr} (h : frErr f = 0) : (97 ≤ f.kind.toNat ∧ f.kind.toNat ≤ 122) ∧ (0 ≤ f.epoch ∧ f.epoch ≤ 2147483648) ∧ (0 ≤ f.seq ∧ f.seq < 65536) ∧ f.data.size ≤ 20000 := by
  unfold frErr at h
  split at h
  · cases h
  · split at h
    · cases h
    · omega
/-- A sum's four bytes, the lowest first. -/
def low4 (n : Nat) : List UInt8 := [UInt8.ofNat (n % 256), UInt8.ofNat (n / 256 % 256), UInt8.ofNat (n / 65536 % 256), UInt8.ofNat (n / 16777216)]
theorem low4_length (n : Nat) : (low4 n).length = 4 := rfl
theorem low4_inj {n m : Nat} (hn : n < 4294967296) (hm : m < 4294967296) (h : low4 n = low4 m) : n = m := by
  simp only [low4, List.cons.injEq, and_true] at h
  obtain ⟨h0, h1, h2, h3⟩ := h
  have t : ∀ a b, a < 256 → b < 256 → UInt8.ofNat a = UInt8.ofNat b → a = b := fun a b ha hb e => by
    have := congrArg UInt8.toNat e
    rwa [Go.Num.toNat_ofNat _ ha, Go.Num.toNat_ofNat _ hb] at this
  have k0 := t _ _ (by omega) (by omega) h0
  have k1 := t _ _ (by omega) (by omega) h1
  have k2 := t _ _ (by omega) (by omega) h2
  have k3 := t _ _ (by omega) (by omega) h3
  omega
/-- A frame's bytes but its sum; with its sum. -/
def bodyF (f : Fr) : List UInt8 := f.kind :: (Go.Num.enc f.epoch.toNat ++ (Go.Num.enc f.seq.toNat ++ (Go.Num.enc f.data.size ++ f.data.data.toList)))
def encF (f : Fr) : List UInt8 := bodyF f ++ low4 (crc 0 (bodyF f))
/-- What stands ahead of the sum. -/
def rdB (s : List UInt8) : Except Nat Fr :=
  match s with
  | [] => .error 1
  | k :: r =>
    match num r with
    | .error c => .error c
    | .ok (e, r1) =>
      match num r1 with
      | .error c => .error c
      | .ok (q, r2) =>
        match txt r2 with
        | .error c => .error c
        | .ok (d, r3) => if r3 = [] then (if frErr ⟨k, (e : Int), (q : Int), str d⟩ = 0 then .ok ⟨k, (e : Int), (q : Int), str d⟩ else .error (frErr ⟨k, (e : Int), (q : Int), str d⟩)) else .error 1
def rdF (s : List UInt8) : Except Nat Fr :=
  if s.length < 4 then .error 1 else if low4 (crc 0 (s.take (s.length - 4))) = s.drop (s.length - 4) then rdB (s.take (s.length - 4)) else .error 10
theorem rdB_body {f : Fr} (h : frErr f = 0) : rdB (bodyF f) = .ok f := by
  obtain ⟨_, h1, h2, h3⟩ := frErr_zero h
  obtain ⟨k, e, q, d⟩ := f
  simp only at h1 h2 h3
  obtain ⟨e, rfl⟩ := Int.eq_ofNat_of_zero_le h1.1
  obtain ⟨q, rfl⟩ := Int.eq_ofNat_of_zero_le h2.1
  unfold bodyF rdB
  simp only [Int.toNat_natCast]
  rw [num_enc _ (by omega)]
  simp only []
  rw [num_enc _ (by omega)]
  simp only []
  have ht := txt_enc d.data.toList [] (by rw [lenL]; exact h3)
  rw [List.append_nil, lenL] at ht
  rw [ht]
  simp only [if_true]
  have hs : str d.data.toList = d := ext_of_list (strL _)
  rw [hs, if_pos h]
theorem encF_parts (f : Fr) : (encF f).take ((encF f).length - 4) = bodyF f ∧ (encF f).drop ((encF f).length - 4) = low4 (crc 0 (bodyF f)) ∧ 4 ≤ (encF f).length := by
  have hl : (encF f).length - 4 = (bodyF f).length := by rw [encF, List.length_append, low4_length]; omega
  rw [hl]
  refine ⟨by rw [encF, List.take_left'  rfl], by rw [encF, List.drop_left' rfl], ?_⟩
  rw [encF, List.length_append, low4_length]
  omega
/-- A frame is read as it was written. -/
theorem rdF_enc {f : Fr} (h : frErr f = 0) : rdF (encF f) = .ok f := by
  obtain ⟨h1, h2, h3⟩ := encF_parts f
  rw [rdF, if_neg (by omega), h1, h2, if_pos rfl, rdB_body h]
theorem rdB_canon {s : List UInt8} {f : Fr} (h : rdB s = .ok f) : s = bodyF f ∧ frErr f = 0 := by
  unfold rdB at h
  split at h
  · cases h
  · rename_i k r
    split at h
    · cases h
    · rename_i e r1 h1
      split at h
      · cases h
      · rename_i q r2 h2
        split at h
        · cases h
        · rename_i d r3 h3
          split at h
          · rename_i hr
            subst hr
            split at h
            · rename_i hz
              cases h
              obtain ⟨e1, _⟩ := num_canon h1
              obtain ⟨e2, _⟩ := num_canon h2
              obtain ⟨e3, _⟩ := txt_canon h3
              refine ⟨?_, hz⟩
              rw [bodyF, e1, e2, e3]
              simp only [Int.toNat_natCast, str_len, strL, List.append_nil]
            · cases h
          · cases h
/-- What is read was written so. -/
theorem rdF_canon {s : List UInt8} {f : Fr} (h : rdF s = .ok f) : s = encF f ∧ frErr f = 0 := by
  unfold rdF at h
  split at h
  · cases h
  · split at h
    · rename_i hl hs
      obtain ⟨hb, hz⟩ := rdB_canon h
      refine ⟨?_, hz⟩
      rw [encF, ← hb, hs, List.take_append_drop]
    · cases h
/-- Two frames that are one text are one. -/
theorem encF_inj {f g : Fr} (hf : frErr f = 0) (hg : frErr g = 0) : encF f = encF g ↔ f = g := by
  constructor
  · intro h
    have h1 := rdF_enc hf
    rw [h, rdF_enc hg] at h1
    cases h1
    rfl
  · intro h; rw [h]
/-- What Encode answers: its text. -/
def encOut (f : Fr) : List UInt8 := if frErr f = 0 then encF f else []
/-- A text's error's number. -/
def rdOut (s : List UInt8) : Fr × Nat := match rdF s with | .ok f => (f, 0) | .error c => (⟨0, 0, 0, ⟨#[]⟩⟩, c)
/-- One bit turned: none. -/
theorem rdF_turned {f : Fr} {i : Nat} {d : UInt8} (hi : i < (encF f).length) (hd : (encF f)[i] ≠ d)
    (hc : ∀ (l : List UInt8) (j : Nat) (hj : j < l.length), l[j] ≠ d → crc 0 l ≠ crc 0 (l.set j d)) : rdF ((encF f).set i d) = .error 10 := by
  obtain ⟨h1, h2, h3⟩ := encF_parts f
  have hlb : (encF f).length - 4 = (bodyF f).length := by rw [encF, List.length_append, low4_length]; omega
  rw [rdF, List.length_set, if_neg (by omega), if_neg ?_]
  by_cases hb : i < (bodyF f).length
  · have e1 : ((encF f).set i d).take ((encF f).length - 4) = (bodyF f).set i d := by rw [List.take_set, h1]
    have e2 : ((encF f).set i d).drop ((encF f).length - 4) = low4 (crc 0 (bodyF f)) := by rw [List.drop_set_of_lt (by omega), h2]
    rw [e1, e2]
    intro e
    have hne : (bodyF f)[i] ≠ d := by
      have : (encF f)[i] = (bodyF f)[i] := by simp only [encF]; rw [List.getElem_append_left hb]
      rw [← this]; exact hd
    exact hc (bodyF f) i hb hne (low4_inj (crc_lt _ _ (by decide)) (crc_lt _ _ (by decide)) e).symm
  · have e1 : ((encF f).set i d).take ((encF f).length - 4) = bodyF f := by rw [List.take_set_of_le (by omega), h1]
    rw [e1, ← h2]
    intro e
    apply hd
    have hk : i - ((encF f).length - 4) < ((encF f).drop ((encF f).length - 4)).length := by rw [List.length_drop]; omega
    have e2 : ((encF f).drop ((encF f).length - 4))[i - ((encF f).length - 4)]? = (((encF f).set i d).drop ((encF f).length - 4))[i - ((encF f).length - 4)]? := by rw [e]
    rw [List.getElem?_drop, List.getElem?_drop, show (encF f).length - 4 + (i - ((encF f).length - 4)) = i by omega, List.getElem?_set_self hi, List.getElem?_eq_getElem hi] at e2
    exact Option.some.inj e2
end Go.Frame

namespace Go.Proofs.YtlmampcdflbifaeDoor
open Go.RowKit
open Go.Frame (Fr frErr low4 bodyF encF rdB rdF rdOut)

/-- A frame as a value. -/
abbrev frV (f : Fr) : Value := .agg #[.int .u8 f.kind.toNat, .int .i64 f.epoch, .int .i64 f.seq, .string f.data]
abbrev frC (f : Fr) : Array Value := #[.int .u8 f.kind.toNat, .int .i64 f.epoch, .int .i64 f.seq, .string f.data]

/-- Four cells that are a frame. -/
structure FrAt (p : Nat) (w : World) (f : Fr) : Prop where
  c0 : w.cell? ⟨p, 0, none⟩ = some (.int .u8 f.kind.toNat)
  c1 : w.cell? ⟨p, 1, none⟩ = some (.int .i64 f.epoch)
  c2 : w.cell? ⟨p, 2, none⟩ = some (.int .i64 f.seq)
  c3 : w.cell? ⟨p, 3, none⟩ = some (.string f.data)
  f0 : w.frozen? ⟨p, 0, none⟩ = false
  f1 : w.frozen? ⟨p, 1, none⟩ = false
  f2 : w.frozen? ⟨p, 2, none⟩ = false
  f3 : w.frozen? ⟨p, 3, none⟩ = false
  lt : p < w.heap.size
def zeroF : Fr := ⟨0, 0, 0, ⟨#[]⟩⟩
theorem FrAt.fresh (w : World) (f : Fr) (T : TypeId) : FrAt w.heap.size (w.alloc (.cells #[.int .u8 f.kind.toNat, .int .i64 f.epoch, .int .i64 f.seq, .string f.data] T)) f :=
  ⟨by simp, by simp, by simp, by simp, by simp, by simp, by simp, by simp, by simp⟩
theorem FrAt.below {p B : Nat} {w w' : World} {f : Fr} (h : FrAt p w f) (hb : Below B w w') (hp : p < B) : FrAt p w' f :=
  ⟨(hb.cell (p := ⟨p, 0, none⟩) hp).trans h.c0, (hb.cell (p := ⟨p, 1, none⟩) hp).trans h.c1, (hb.cell (p := ⟨p, 2, none⟩) hp).trans h.c2, (hb.cell (p := ⟨p, 3, none⟩) hp).trans h.c3, (hb.frozen (p := ⟨p, 0, none⟩) hp).trans h.f0, (hb.frozen (p := ⟨p, 1, none⟩) hp).trans h.f1, (hb.frozen (p := ⟨p, 2, none⟩) hp).trans h.f2, (hb.frozen (p := ⟨p, 3, none⟩) hp).trans h.f3, Nat.lt_of_lt_of_le h.lt hb.size⟩
theorem FrAt.set {p : Nat} {w : World} {g : Fr} (h : FrAt p w g) (f : Fr) : FrAt p ((((w.setCell ⟨p, 0, none⟩ (.int .u8 f.kind.toNat)).setCell ⟨p, 1, none⟩ (.int .i64 f.epoch)).setCell ⟨p, 2, none⟩ (.int .i64 f.seq)).setCell ⟨p, 3, none⟩ (.string f.data)) f := by
  obtain ⟨c0, c1, c2, c3, f0, f1, f2, f3, lt⟩ := h
  refine ⟨?_, ?_, ?_, ?_, by simpa using f0, by simpa using f1, by simpa using f2, by simpa using f3, by simpa using lt⟩
  · rw [World.cell?_setCell_other _ _ _ _ (by simp), World.cell?_setCell_other _ _ _ _ (by simp), World.cell?_setCell_other _ _ _ _ (by simp)]; exact World.cell?_setCell_same _ _ _ c0
  · rw [World.cell?_setCell_other _ _ _ _ (by simp), World.cell?_setCell_other _ _ _ _ (by simp)]; exact World.cell?_setCell_same _ _ _ (by rw [World.cell?_setCell_other _ _ _ _ (by simp)]; exact c1)
  · rw [World.cell?_setCell_other _ _ _ _ (by simp)]; exact World.cell?_setCell_same _ _ _ (by rw [World.cell?_setCell_other _ _ _ _ (by simp), World.cell?_setCell_other _ _ _ _ (by simp)]; exact c2)
  · exact World.cell?_setCell_same _ _ _ (by rw [World.cell?_setCell_other _ _ _ _ (by simp), World.cell?_setCell_other _ _ _ _ (by simp), World.cell?_setCell_other _ _ _ _ (by simp)]; exact c3)

theorem rdOut_err {s : List UInt8} {c : Nat} (h : rdF s = .error c) : rdOut s = (zeroF, c) := by unfold rdOut; rw [h]; rfl
theorem rdOut_ok {s : List UInt8} {f : Fr} (h : rdF s = .ok f) : rdOut s = (f, 0) := by unfold rdOut; rw [h]

theorem body_list (s : ByteArray) : (s.extract 0 (s.size - 4)).data.toList = s.data.toList.take (s.data.toList.length - 4) := by
  rw [extractL, lenL]; simp
theorem tail_list (s : ByteArray) : (s.extract (s.size - 4) s.size).data.toList = s.data.toList.drop (s.data.toList.length - 4) := by
  rw [extractL, lenL]
  exact List.take_of_length_le (by rw [List.length_drop, lenL]; omega)
theorem eqb_list (a b : ByteArray) : (a.toList == b.toList) = decide (a.data.toList = b.data.toList) := by
  rw [ByteArray.toList_eq, ByteArray.toList_eq, Bool.eq_iff_iff]; simp
end Go.Proofs.YtlmampcdflbifaeDoor

namespace Go.Proofs.YtlmampcdflbifaeDoor
open Go.ChangeShapes Go.WideShapes Go.ChangeAt Go.RowKit
open Go.Frame (Fr)

theorem Tryd.fracells23 : Tryd.prog.cellsOf 23 = 4 := by kernel_rfl
set_option maxRecDepth 100000 in
theorem frarg {H : Type} {enc : TypeId × Value → H} {W : World} {r : Reach} {base b0 : Nat} {spare : Nat → Bool} {held : Bool} {v : Value} {d : DataW H} {p : List MemPlace}
    (hv : Value.okWide Tryd.prog W r b0 23 v) (h : DataW.Trod enc Tryd.prog W base spare held 23 v d p) : ∃ f : Fr, v = frV f := by
  obtain ⟨v0, v1, v2, v3, y0, y1, y2, y3, n, rfl, rfl, rfl, h0, h1, h2, h3⟩ := Go.Joins.open_agg4 Tryd.underlying23 (by kernel_rfl) Tryd.fracells23 hv h
  obtain ⟨n0, e0, _, w0⟩ := DataW.trod_int Tryd.underlying5 h0
  obtain ⟨n1, e1, _, _⟩ := DataW.trod_int Tryd.underlying3 h1
  obtain ⟨n2, e2, _, _⟩ := DataW.trod_int Tryd.underlying3 h2
  obtain ⟨z, e3, _, _⟩ := DataW.trod_string Tryd.underlying9 h3
  simp only [List.cons.injEq, and_true] at e0 e1 e2 e3
  subst e0 e1 e2 e3
  obtain ⟨k, hk⟩ : ∃ k : UInt8, (k.toNat : Int) = n0 := by
    simp [Lit.wf] at w0
    rw [show IntKind.u8.min = 0 from rfl, show IntKind.u8.max = 255 from rfl] at w0
    exact ⟨UInt8.ofNat n0.toNat, by rw [UInt8.toNat_ofNat']; omega⟩
  exact ⟨⟨k, n1, n2, z⟩, by rw [← hk]⟩
end Go.Proofs.YtlmampcdflbifaeDoor

namespace Go.Proofs.YtlmampcdflbifaeDoor
open Go.RowKit

/-- Nil where there is no error. -/
structure NilOr (x : Value) (c : Nat) : Prop where
  none : c = 0 → x = .nilIface
  some : c ≠ 0 → ∃ t y, x = .iface t y
end Go.Proofs.YtlmampcdflbifaeDoor

namespace Go.Proofs.YtlmampcdflbifaeDoor
open Go.RowKit
open Go.Frame (Fr frErr encF encOut rdOut)

/-- Where it is asked no more than whether there is an error: Env: what the errors' variables hold. -/
structure FrameAll (Env : World → Prop) : Prop where
  encode : ∀ f W, f.data.size ≤ 1000000 → Env W → Calls Tryd.prog 6 #[frV f] W fun r w' => (∃ x, r = .returned (.tuple #[.string (str (encOut f)), x]) ∧ NilOr x (frErr f)) ∧ Below W.heap.size W w'
  decode : ∀ s W, s.size ≤ 1000000 → Env W → Calls Tryd.prog 7 #[.string s] W fun r w' => (∃ x, r = .returned (.tuple #[frV (rdOut s.data.toList).1, x]) ∧ NilOr x (rdOut s.data.toList).2) ∧ Below W.heap.size W w'

def fr0 : Fr := ⟨97, 1, 2, ⟨#[120, 121]⟩⟩
theorem fr0_ok : frErr fr0 = 0 := by decide
set_option maxRecDepth 100000 in
theorem fr0_enc : encOut fr0 = [97, 1, 2, 2, 120, 121, 111, 114, 184, 40] := by decide

set_option maxHeartbeats 1000000 in
set_option maxRecDepth 100000 in
/-- The closed fact. -/
theorem framed_ok (Env : World → Prop) (w : World) (hS : Env w) (hEB : ∀ w w', Env w → Below w.heap.size w w' → Env w') (hA : FrameAll Env) :
    Calls Tryd.prog 5 #[] w fun r w' => r = .returned (.bool true) ∧ Below w.heap.size w w' := by
  have HE := hide (hA.encode fr0 w (by decide) hS)
  have HD := hide (fun W (h : Env W) => hA.decode (str (encOut fr0)) W (by rw [fr0_enc]; decide) h)
  have hrd : rdOut (str (encOut fr0)).data.toList = (fr0, 0) := by
    rw [strL, encOut, if_pos fr0_ok]
    exact rdOut_ok (Go.Frame.rdF_enc fr0_ok)
  rw [hrd] at HD
  rw [fr0_ok] at HE
  have hz : ((str (encOut fr0)).size : Int) = 10 := by rw [fr0_enc]; rfl
  have hx : (str (encOut fr0)).extract 0 6 = ⟨#[97, 1, 2, 2, 120, 121]⟩ := by rw [fr0_enc]; rfl
  have HV := hide (fun w' hb => hEB w w' hS hb)
  generalize str (encOut fr0) = S at *
  simp only [frV, fr0] at HE HD
  rw [show ((97 : UInt8).toNat : Int) = 97 from rfl] at HE HD
  clear hS hEB hA hrd
  go_enter Tryd.func5, Tryd.ntmps5
  go_wp2_with fail
  refine HE.out.mono ?_
  rintro r w1 ⟨⟨x1, rfl, hx1⟩, hb1⟩
  obtain rfl := hx1.none rfl
  have Hb1 := hide hb1
  clear hb1 hx1 HE
  go_wp2_with fail
  refine (HD.out _ (HV.out _ Hb1.out)).mono ?_
  rintro r w2 ⟨⟨x2, rfl, hx2⟩, hb2⟩
  obtain rfl := hx2.none rfl
  have Hb2 := hide (bthen Hb1.out hb2)
  clear hb2 hx2 HD
  have Hb3 := hide (Hb2.out.alloc Hb2.out.size (.cells #[.int .u8 97, .int .i64 1, .int .i64 2, .string ⟨#[120, 121]⟩] 25))
  have hz6 : (6 : Int) ≤ S.size := by omega
  go_wp2
  go_ret
  exact ⟨rfl, Hb3.out⟩
end Go.Proofs.YtlmampcdflbifaeDoor
