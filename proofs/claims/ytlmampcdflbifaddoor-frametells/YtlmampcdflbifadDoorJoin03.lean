/-
  Plain mathematics of frames: their bytes, how they are read; a frame is read as it was written; what is read was written so; one bit turned: none. No program, no walk.
  Contracts of the writer's methods over this dump.
  Contracts of Done, NewWriter over this dump.
  Contracts of the reader's methods over this dump.
  Contracts of the reader's Num and Text, of Get and GetText, over this dump: every text.
-/
import Derived.Test.YtlmampcdflbifadDoorJoin02
import Derived.Test.YtlmampcdflbifadDoorJoin01
import Derived.Lib.AppendStr
import Derived.Laws.BytesArg
namespace Go.Num
/-- What is read as a number was written so. -/
theorem scan_canon : ∀ (k : Nat) (L : List UInt8) (acc i n j : Nat), scan (k + 1) L acc i = some (n, j) →
    i ≤ j ∧ j - i < L.length ∧ ∃ m, n = acc + m * 128 ^ i ∧ (j = i → m < 128) ∧ (L[j - i]? ≠ some 0 → 1 ≤ m) ∧ (i < j → L[j - i]? ≠ some 0 → 128 ≤ m) ∧ ((j = i ∨ L[j - i]? ≠ some 0) → L = encF k m ++ L.drop (j - i + 1)) := by
  intro k
  induction k with
  | zero =>
    intro L acc i n j h
    cases L with
    | nil => simp [scan] at h
    | cons b r =>
      rw [scan] at h
      split at h
      · rename_i hb
        cases h
        refine ⟨Nat.le_refl _, by simp, b.toNat, by rw [Nat.mod_eq_of_lt hb], fun _ => hb, fun h => ?_, fun h => by omega, fun _ => ?_⟩
        · simp only [Nat.sub_self, List.getElem?_cons_zero] at h
          rcases Nat.eq_zero_or_pos b.toNat with e | e
          · exact absurd (congrArg some (UInt8.toNat_inj.1 (by simpa using e))) h
          · exact e
        · simp [encF]
      · simp [scan] at h
  | succ k ih =>
    intro L acc i n j h
    cases L with
    | nil => simp [scan] at h
    | cons b r =>
      rw [scan] at h
      split at h
      · rename_i hb
        cases h
        refine ⟨Nat.le_refl _, by simp, b.toNat, by rw [Nat.mod_eq_of_lt hb], fun _ => hb, fun h => ?_, fun h => by omega, fun _ => ?_⟩
        · simp only [Nat.sub_self, List.getElem?_cons_zero] at h
          rcases Nat.eq_zero_or_pos b.toNat with e | e
          · exact absurd (congrArg some (UInt8.toNat_inj.1 (by simpa using e))) h
          · exact e
        · rw [encF_small _ _ hb]; simp
      · rename_i hb
        obtain ⟨h1, h2, m, h3, h4, h5, h6, h7⟩ := ih r _ _ n j h
        have hbl := b.toNat_lt
        have e : ∀ t, (b :: r)[j - i]? = t ↔ r[j - (i + 1)]? = t := fun t => by
          rw [show j - i = (j - (i + 1)) + 1 by omega, List.getElem?_cons_succ]
        refine ⟨by omega, by simp; omega, b.toNat % 128 + 128 * m, ?_, fun hji => by omega, fun hz => ?_, fun _ hz => ?_, fun hor => ?_⟩
        · rw [h3, Nat.pow_succ, Nat.add_mul, Nat.add_assoc]
          congr 1
          rw [Nat.mul_comm 128 m, Nat.mul_assoc, Nat.mul_comm 128]
        · have hz' : r[j - (i + 1)]? ≠ some 0 := fun h => hz ((e _).2 h)
          have := h5 hz'
          omega
        · have hz' : r[j - (i + 1)]? ≠ some 0 := fun h => hz ((e _).2 h)
          have := h5 hz'
          omega
        · have hz : (b :: r)[j - i]? ≠ some 0 := hor.resolve_left (by omega)
          have hz' : r[j - (i + 1)]? ≠ some 0 := fun h => hz ((e _).2 h)
          have hm := h5 hz'
          rw [encF_big _ _ (by omega)]
          have h8 := h7 (Or.inr hz')
          rw [show (b.toNat % 128 + 128 * m) % 128 = b.toNat % 128 by omega, show (b.toNat % 128 + 128 * m) / 128 = m by omega]
          rw [show b.toNat % 128 + 128 = b.toNat by omega, show j - i + 1 = (j - (i + 1) + 1) + 1 by omega, List.drop_succ_cons, List.cons_append, ← h8]
          simp
theorem dec_canon {s : List UInt8} {n k : Nat} (h : dec s = .ok (n, k)) : s = enc n ++ s.drop k ∧ n ≤ 1099511627776 := by
  unfold dec at h
  split at h
  · cases h
  · rename_i n' i hs
    split at h
    · cases h
    · rename_i hz
      split at h
      · cases h
      · rename_i hn
        cases h
        obtain ⟨_, _, m, h3, _, _, _, h7⟩ := scan_canon 5 s 0 0 n i hs
        simp only [Nat.zero_add, Nat.pow_zero, Nat.mul_one, Nat.sub_zero] at h3 h7
        subst h3
        refine ⟨h7 ?_, by omega⟩
        rcases Nat.eq_zero_or_pos i with e | e
        · exact Or.inl e
        · exact Or.inr fun hq => hz ⟨e, hq⟩
end Go.Num
namespace Go.Sign
theorem num_canon {s r : List UInt8} {n : Nat} (h : num s = .ok (n, r)) : s = Go.Num.enc n ++ r ∧ n ≤ 1099511627776 := by
  unfold num at h
  split at h
  · rename_i n' k hd
    cases h
    exact Go.Num.dec_canon hd
  · cases h
end Go.Sign
namespace Go.Frame
open Go.Proofs.YtlmampcdflbifadDoor (lenL str strL str_len ext_of_list)
open Go.Sign (num num_enc num_canon)
open Go.Delta (txt txt_enc)
open Go.Crc (crc crc_lt)

theorem txt_canon {s r d : List UInt8} (h : txt s = .ok (d, r)) : s = Go.Num.enc d.length ++ (d ++ r) ∧ d.length ≤ 20000 := by
  unfold txt at h
  split at h
  · cases h
  · rename_i n s1 h1
    obtain ⟨e1, _⟩ := num_canon h1
    split at h
    · cases h
    · split at h
      · cases h
      · rename_i h2 h3
        cases h
        have hl : (s1.take n).length = n := by rw [List.length_take]; omega
        rw [hl, List.take_append_drop]
        exact ⟨e1, by omega⟩

/-- A frame. -/
structure Fr where
  kind : UInt8
  epoch : Int
  seq : Int
  data : ByteArray
deriving DecidableEq, Inhabited
/-- An error's number. -/
def frErr (f : Fr) : Nat :=
  if f.kind.toNat < 97 ∨ 122 < f.kind.toNat then 4 else if f.epoch < 0 ∨ 2147483648 < f.epoch ∨ f.seq < 0 ∨ 65536 ≤ f.seq ∨ 20000 < f.data.size then 2 else 0
theorem frErr_code (f : Fr) : frErr f = 0 ∨ frErr f = 4 ∨ frErr f = 2 := by
  unfold frErr
  split
  · simp
  · split <;> simp
theorem frErr_zero {f : Fr} (h : frErr f = 0) : (97 ≤ f.kind.toNat ∧ f.kind.toNat ≤ 122) ∧ (0 ≤ f.epoch ∧ f.epoch ≤ 2147483648) ∧ (0 ≤ f.seq ∧ f.seq < 65536) ∧ f.data.size ≤ 20000 := by
  unfold frErr at h
  split at h
  · cases h
  · split at h
    · cases h
    · omega
/-- A sum's four bytes, the lowest first. -/
def low4 (n : Nat) : List UInt8 := [UInt8.ofNat (n % 256), UInt8.ofNat (n / 256 % 256), UInt8.ofNat (n / 65536 % 256), UInt8.ofNat (n / 16777216)]
theorem low4_length (n : Nat) : (low4 n).length = 4 := rfl
theorem low4_inj {n m : Nat} (hn : n < 4294967296) (hm : m < 4294967296) (h : low4 n = low4 m) : n = m := by
  simp only [low4, List.cons.injEq, and_true] at h
  obtain ⟨h0, h1, h2, h3⟩ := h
  have t : ∀ a b, a < 256 → b < 256 → UInt8.ofNat a = UInt8.ofNat b → a = b := fun a b ha hb e => by
    have := congrArg UInt8.toNat e
    rwa [Go.Num.toNat_ofNat _ ha, Go.Num.toNat_ofNat _ hb] at this
  have k0 := t _ _ (by omega) (by omega) h0
  have k1 := t _ _ (by omega) (by omega) h1
  have k2 := t _ _ (by omega) (by omega) h2
  have k3 := t _ _ (by omega) (by omega) h3
  omega
/-- A frame's bytes but its sum; with its sum. -/
def bodyF (f : Fr) : List UInt8 := f.kind :: (Go.Num.enc f.epoch.toNat ++ (Go.Num.enc f.seq.toNat ++ (Go.Num.enc f.data.size ++ f.data.data.toList)))
def encF (f : Fr) : List UInt8 := bodyF f ++ low4 (crc 0 (bodyF f))
/-- What stands ahead of the sum. -/
def rdB (s : List UInt8) : Except Nat Fr :=
  match s with
  | [] => .error 1
  | k :: r =>
    match num r with
    | .error c => .error c
    | .ok (e, r1) =>
      match num r1 with
      | .error c => .error c
      | .ok (q, r2) =>
        match txt r2 with
        | .error c => .error c
        | .ok (d, r3) => if r3 = [] then (if frErr ⟨k, (e : Int), (q : Int), str d⟩ = 0 then .ok ⟨k, (e : Int), (q : Int), str d⟩ else .error (frErr ⟨k, (e : Int), (q : Int), str d⟩)) else .error 1
def rdF (s : List UInt8) : Except Nat Fr :=
  if s.length < 4 then .error 1 else if low4 (crc 0 (s.take (s.length - 4))) = s.drop (s.length - 4) then rdB (s.take (s.length - 4)) else .error 10
theorem rdB_body {f : Fr} (h : frErr f = 0) : rdB (bodyF f) = .ok f := by
  obtain ⟨_, h1, h2, h3⟩ := frErr_zero h
  obtain ⟨k, e, q, d⟩ := f
  simp only at h1 h2 h3
  obtain ⟨e, rfl⟩ := Int.eq_ofNat_of_zero_le h1.1
  obtain ⟨q, rfl⟩ := Int.eq_ofNat_of_zero_le h2.1
  unfold bodyF rdB
  simp only [Int.toNat_natCast]
  rw [num_enc _ (by omega)]
  simp only []
  rw [num_enc _ (by omega)]
  simp only []
  have ht := txt_enc d.data.toList [] (by rw [lenL]; exact h3)
  rw [List.append_nil, lenL] at ht
  rw [ht]
  simp only [if_true]
  have hs : str d.data.toList = d := ext_of_list (strL _)
  rw [hs, if_pos h]
theorem encF_parts (f : Fr) : (encF f).take ((encF f).length - 4) = bodyF f ∧ (encF f).drop ((encF f).length - 4) = low4 (crc 0 (bodyF f)) ∧ 4 ≤ (encF f).length := by
  have hl : (encF f).length - 4 = (bodyF f).length := by rw [encF, List.length_append, low4_length]; omega
  rw [hl]
  refine ⟨by rw [encF, List.take_left'  rfl], by rw [encF, List.drop_left' rfl], ?_⟩
  rw [encF, List.length_append, low4_length]
  omega
/-- A frame is read as it was written. -/
theorem rdF_enc {f : Fr} (h : frErr f = 0) : rdF (encF f) = .ok f := by
  obtain ⟨h1, h2, h3⟩ := encF_parts f
  rw [rdF, if_neg (by omega), h1, h2, if_pos rfl, rdB_body h]
theorem rdB_canon {s : List UInt8} {f : Fr} (h : rdB s = .ok f) : s = bodyF f ∧ frErr f = 0 := by
  unfold rdB at h
  split at h
  · cases h
  · rename_i k r
    split at h
    · cases h
    · rename_i e r1 h1
      split at h
      · cases h
      · rename_i q r2 h2
        split at h
        · cases h
        · rename_i d r3 h3
          split at h
          · rename_i hr
            subst hr
            split at h
            · rename_i hz
              cases h
              obtain ⟨e1, _⟩ := num_canon h1
              obtain ⟨e2, _⟩ := num_canon h2
              obtain ⟨e3, _⟩ := txt_canon h3
              refine ⟨?_, hz⟩
              rw [bodyF, e1, e2, e3]
              simp only [Int.toNat_natCast, str_len, strL, List.append_nil]
            · cases h
          · cases h
/-- What is read was written so. -/
theorem rdF_canon {s : List UInt8} {f : Fr} (h : rdF s = .ok f) : s = encF f ∧ frErr f = 0 := by
  unfold rdF at h
  split at h
  · cases h
  · split at h
    · rename_i hl hs
      obtain ⟨hb, hz⟩ := rdB_canon h
      refine ⟨?_, hz⟩
      rw [encF, ← hb, hs, List.take_append_drop]
    · cases h
/-- Two frames that are one text are one. -/
theorem encF_inj {f g : Fr} (hf : frErr f = 0) (hg : frErr g = 0) : encF f = encF g ↔ f = g := by
  constructor
  · intro h
    have h1 := rdF_enc hf
    rw [h, rdF_enc hg] at h1
    cases h1
    rfl
  · intro h; rw [h]
/-- What Encode answers: its text. -/
def encOut (f : Fr) : List UInt8 := if frErr f = 0 then encF f else []
/-- A text's error's number. -/
def rdOut (s : List UInt8) : Fr × Nat := match rdF s with | .ok f => (f, 0) | .error c => (⟨0, 0, 0, ⟨#[]⟩⟩, c)
/-- One bit turned: none. -/
theorem rdF_turned {f : Fr} {i : Nat} {d : UInt8} (hi : i < (encF f).length) (hd : (encF f)[i] ≠ d)
    (hc : ∀ (l : List UInt8) (j : Nat) (hj : j < l.length), l[j] ≠ d → crc 0 l ≠ crc 0 (l.set j d)) : rdF ((encF f).set i d) = .error 10 := by
  obtain ⟨h1, h2, h3⟩ := encF_parts f
  have hlb : (encF f).length - 4 = (bodyF f).length := by rw [encF, List.length_append, low4_length]; omega
  rw [rdF, List.length_set, if_neg (by omega), if_neg ?_]
  by_cases hb : i < (bodyF f).length
  · have e1 : ((encF f).set i d).take ((encF f).length - 4) = (bodyF f).set i d := by rw [List.take_set, h1]
    have e2 : ((encF f).set i d).drop ((encF f).length - 4) = low4 (crc 0 (bodyF f)) := by rw [List.drop_set_of_lt (by omega), h2]
    rw [e1, e2]
    intro e
    have hne : (bodyF f)[i] ≠ d := by
      have : (encF f)[i] = (bodyF f)[i] := by simp only [encF]; rw [List.getElem_append_left hb]
      rw [← this]; exact hd
    exact hc (bodyF f) i hb hne (low4_inj (crc_lt _ _ (by decide)) (crc_lt _ _ (by decide)) e).symm
  · have e1 : ((encF f).set i d).take ((encF f).length - 4) = bodyF f := by rw [List.take_set_of_le (by omega), h1]
    rw [e1, ← h2]
    intro e
    apply hd
    have hk : i - ((encF f).length - 4) < ((encF f).drop ((encF f).length - 4)).length := by rw [List.length_drop]; omega
    have e2 : ((encF f).drop ((encF f).length - 4))[i - ((encF f).length - 4)]? = (((encF f).set i d).drop ((encF f).length - 4))[i - ((encF f).length - 4)]? := by rw [e]
    rw [List.getElem?_drop, List.getElem?_drop, show (encF f).length - 4 + (i - ((encF f).length - 4)) = i by omega, List.getElem?_set_self hi, List.getElem?_eq_getElem hi] at e2
    exact Option.some.inj e2
end Go.Frame

namespace Go.Proofs.YtlmampcdflbifadDoor
open Go.RowKit

theorem Tryd.info5 : (Tryd.prog.info? 5).map (fun i => (i.zero, i.size, i.bytes)) = some (some (.int .u8 0), 1, 1) := by kernel_rfl

def cellOf (b : UInt8) : Value := .int .u8 b.toNat

/-- The writer at block p, with no error, holds the bytes bs. -/
structure WrAt (p : Nat) (w : World) (bs : List UInt8) (v : Value) : Prop where
  c0 : w.cell? ⟨p, 0, none⟩ = some v
  c1 : w.cell? ⟨p, 1, none⟩ = some .nilIface
  f0 : w.frozen? ⟨p, 0, none⟩ = false
  f1 : w.frozen? ⟨p, 1, none⟩ = false
  lt : p < w.heap.size
  own : w.ownsRow (p + 1) 5 1 v bs.length (bs.map cellOf)

/-- A byte more: the new slice stored into the writer. -/
theorem WrAt.more {p : Nat} {wr w2 : World} {cur : List UInt8} {v v2 : Value} {x : Int} (h : WrAt p wr cur v) (b : UInt8) (hx : x = b.toNat) (hb2 : Below (p + 1) wr w2)
    (hown : w2.ownsRow (p + 1) 5 1 v2 (cur.length + 1) (cur.map cellOf ++ [.int .u8 x])) : WrAt p (w2.setCell ⟨p, 0, none⟩ v2) (cur ++ [b]) v2 := by
  have k0 := (hb2.cell (p := ⟨p, 0, none⟩) (by simp)).trans h.c0
  have k1 := (hb2.cell (p := ⟨p, 1, none⟩) (by simp)).trans h.c1
  have e0 := (hb2.frozen (p := ⟨p, 0, none⟩) (by simp)).trans h.f0
  have e1 := (hb2.frozen (p := ⟨p, 1, none⟩) (by simp)).trans h.f1
  have hz := hb2.size
  have hl := h.lt
  refine ⟨World.cell?_setCell_same _ _ _ k0, by rw [World.cell?_setCell_other _ _ _ _ (by simp)]; exact k1, by simpa using e0, by simpa using e1, by simp; omega, ?_⟩
  subst hx
  have := ownsRow_setCell_below hown (a := ⟨p, 0, none⟩) (by simp) v2
  simpa [cellOf] using this

/-- Every block but p that holds no bytes stays as it was. -/
def KeptT (p : Nat) (w w' : World) : Prop := ∀ g c t f, g ≠ p → t ≠ 5 → w.heap[g]? = some (.cells c t f) → w'.heap[g]? = some (.cells c t f)
theorem KeptT.refl (p : Nat) (w : World) : KeptT p w w := fun _ _ _ _ _ _ h => h
theorem KeptT.trans {p : Nat} {a b c : World} (h : KeptT p a b) (k : KeptT p b c) : KeptT p a c := fun g x t f h1 h2 h3 => k g x t f h1 h2 (h g x t f h1 h2 h3)
theorem KeptT.step {p n : Nat} {wr w2 : World} {v v2 : Value} {xs : List Value} {o : Obj} (own : wr.ownsRow (p + 1) 5 1 v n xs) (hg : (wr.alloc o).grownBy w2 v.ownBlock) : KeptT p wr (w2.setCell ⟨p, 0, none⟩ v2) := by
  intro g c t f hp ht h
  have hlt : g < wr.heap.size := (Array.getElem?_eq_some_iff.1 h).1
  have hne : some g ≠ v.ownBlock := by
    intro e
    rcases own.2 with ⟨rfl, _⟩ | ⟨g', cap, cur, rfl, _, hh, _⟩
    · cases e
    · simp only [Value.ownBlock, Option.some.injEq] at e
      subst e
      rw [hh] at h
      cases h
      exact ht rfl
  rw [Below.heap_setCell _ _ _ _ hp, hg.block g (by simp; omega) hne, Below.heap_alloc _ _ _ hlt]
  exact h

set_option maxHeartbeats 400000 in
set_option maxRecDepth 100000 in
theorem num_ok4 (p n : Nat) (bs : List UInt8) (v : Value) (w : World) (hn : n ≤ 1099511627776) (hb : bs.length ≤ 1000000) (h : WrAt p w bs v) :
    Calls Tryd.prog 94 #[.pointer (some ⟨p, 0, none⟩), .int .i64 n] w fun e w' => e = .returned (.tuple #[]) ∧ (∃ v', WrAt p w' (bs ++ Go.Num.enc n) v') ∧ Below p w w' ∧ KeptT p w w' := by
  obtain ⟨i0, hi, hz0, hz1, hz2⟩ := info_parts Tryd.info5
  have HW : Hid (WrAt p w bs v) := h
  obtain ⟨c0, c1, f0, f1, lt, own⟩ := h
  have hn0 : 0 ≤ (n : Int) := by omega
  have hn1 : (n : Int) ≤ 1099511627776 := by omega
  have hd0 : decide ((n : Int) < 0) = false := by simp
  have hd1 : decide ((1099511627776 : Int) < n) = false := by simp; omega
  have hlen := Go.Num.enc_length_le n
  go_enter Tryd.func94, Tryd.ntmps94
  go_wp2_with fail
  go_loopw [1] (fun t wr => ∃ (k m : Nat) (cur : List UInt8) (v' : Value), t = .int .i64 m ∧ m ≤ 1099511627776 ∧ m < 128 ^ (k + 1) ∧ Hid (cur ++ Go.Num.encF k m = bs ++ Go.Num.enc n) ∧ WrAt p wr cur v' ∧ Below p w wr ∧ Hid (KeptT p w wr)) (fun t _ => (intOf t).toNat)
  case atStart => exact ⟨5, n, bs, v, rfl, hn, by omega, rfl, HW.out, Below.refl _ _, KeptT.refl _ _⟩
  case round =>
    obtain ⟨k, m, cur, v', rfl, hm, hmk, He, hat, hbel, Hkt⟩ := hrel
    have HW' : Hid (WrAt p wr cur v') := hat
    have Hbel : Hid (Below p w wr) := hbel
    have hcur : cur.length ≤ 1000006 := by
      have := congrArg List.length He.out
      simp at this; omega
    clear hbel HW c0 c1 f0 f1 lt own
    obtain ⟨c0, c1, f0, f1, lt, own⟩ := hat
    by_cases hlt : 128 ≤ m
    · have hlt' : (128 : Int) ≤ m := by omega
      have hm1 : (m : Int) ≤ 1099511627776 := by omega
      go_wp2_with (at_builtin; refine wpList_append_own _ rfl (.tmp 24) (.tmp 29) 85 rfl (p + 1) 5 i0 (.int .u8 0) 1 1 Tryd.underlying85 hi hz0 hz1 hz2 rfl (by decide) v' cur.length (cur.map cellOf) rfl ?own ⟨wr.heap.size, 0, none⟩ 1 1 [.int .u8 ((m : Int) % 128 + 128)] rfl rfl ?c1 ?c2 ?b1 ?b2 ?b3 ?next)
      case own => exact own.alloc _
      case c1 => intro j u hj; match j, hj with | 0, hj => simp at hj; subst hj; simp [Addr.add]
      case c2 => intro u hu; simp at hu; subst hu; rfl
      case b1 => unfold maxLen; omega
      case b2 => omega
      case b3 => simp; omega
      case next =>
        intro v2 w2 hown hgrow _
        have hb2 : Below (p + 1) wr w2 := ((Below.refl _ _).alloc (by omega) _).grown hgrow (by simp; omega) (fun k hk => (own.lt k hk).1)
        have hfin := HW'.out.more (UInt8.ofNat (m % 128 + 128)) (by rw [Go.Num.toNat_ofNat _ (by omega)]; simp) hb2 hown
        have k0 := (hb2.cell (p := ⟨p, 0, none⟩) (by simp)).trans c0
        have e0 := (hb2.frozen (p := ⟨p, 0, none⟩) (by simp)).trans f0
        have Hk2 := hide (Hkt.out.trans (KeptT.step (v2 := v2) own hgrow))
        obtain ⟨g, c', rfl⟩ := own_form hown
        have Hfin := hide hfin
        have Hb2 := hide hb2
        clear hfin hb2 hown hgrow
        go_wp2
        go_roundw
        case rel =>
          match k with
          | 0 => simp at hmk; omega
          | k + 1 =>
            refine ⟨k, m / 128, _, _, by go_num, by omega, ?_, ?_, Hfin.out, (Hbel.out.trans (Hb2.out.mono (by omega))).setCell (by simp) _, Hk2.out⟩
            · rw [Nat.div_lt_iff_lt_mul (by omega)]
              rw [Nat.pow_succ] at hmk; exact hmk
            · have := He.out
              rw [Go.Num.encF_big _ _ hlt] at this
              simpa [Hid] using this
        case measure => simp [intOf]; omega
    · have hm1 : (m : Int) < 128 := by omega
      go_wp2_with (at_builtin; refine wpList_append_own _ rfl (.tmp 39) (.tmp 42) 85 rfl (p + 1) 5 i0 (.int .u8 0) 1 1 Tryd.underlying85 hi hz0 hz1 hz2 rfl (by decide) v' cur.length (cur.map cellOf) rfl ?own ⟨wr.heap.size, 0, none⟩ 1 1 [.int .u8 (m : Int)] rfl rfl ?c1 ?c2 ?b1 ?b2 ?b3 ?next)
      case own => exact own.alloc _
      case c1 => intro j u hj; match j, hj with | 0, hj => simp at hj; subst hj; simp [Addr.add]
      case c2 => intro u hu; simp at hu; subst hu; rfl
      case b1 => unfold maxLen; omega
      case b2 => omega
      case b3 => simp; omega
      case next =>
        intro v2 w2 hown hgrow _
        have hb2 : Below (p + 1) wr w2 := ((Below.refl _ _).alloc (by omega) _).grown hgrow (by simp; omega) (fun k hk => (own.lt k hk).1)
        have hfin := HW'.out.more (UInt8.ofNat m) (by rw [Go.Num.toNat_ofNat _ (by omega)]) hb2 hown
        have k0 := (hb2.cell (p := ⟨p, 0, none⟩) (by simp)).trans c0
        have e0 := (hb2.frozen (p := ⟨p, 0, none⟩) (by simp)).trans f0
        have Hk2 := hide (Hkt.out.trans (KeptT.step (v2 := v2) own hgrow))
        obtain ⟨g, c', rfl⟩ := own_form hown
        have Hfin := hide hfin
        have Hb2 := hide hb2
        clear hfin hb2 hown hgrow
        go_wp2
        go_end0
        have he := He.out
        rw [Go.Num.encF_small _ _ (by omega)] at he
        rw [← he]
        exact ⟨rfl, ⟨_, Hfin.out⟩, (Hbel.out.trans (Hb2.out.mono (by omega))).setCell (by simp) _, Hk2.out⟩

theorem num_ok (p n : Nat) (bs : List UInt8) (v : Value) (w : World) (hn : n ≤ 1099511627776) (hb : bs.length ≤ 1000000) (h : WrAt p w bs v) :
    Calls Tryd.prog 94 #[.pointer (some ⟨p, 0, none⟩), .int .i64 n] w fun e w' => e = .returned (.tuple #[]) ∧ (∃ v', WrAt p w' (bs ++ Go.Num.enc n) v') ∧ Below p w w' :=
  (num_ok4 p n bs v w hn hb h).mono fun _ _ ⟨h1, h2, h3, _⟩ => ⟨h1, h2, h3⟩
end Go.Proofs.YtlmampcdflbifadDoor

namespace Go.Proofs.YtlmampcdflbifadDoor
open Go.RowKit

theorem strOfNums_str (bs : List UInt8) : strOfNums (bs.map fun b => (b.toNat : Int)) = str bs := by
  have : (bs.map fun b => (b.toNat : Int)).map (fun n => UInt8.ofNat n.toNat) = bs := by
    rw [List.map_map]
    conv => rhs; rw [← List.map_id bs]
    apply List.map_congr_left
    intro b _
    simp
  unfold strOfNums
  rw [this]
  rfl

theorem WrAt.conv {p : Nat} {w : World} {bs : List UInt8} {v : Value} (h : WrAt p w bs v) : (convert 85 9 v).run Tryd.prog w = .ok (.string (str bs)) w := by
  rcases h.own.2 with ⟨rfl, hl⟩ | ⟨g, cap, cur, rfl, _, hg, hn, _, hs, ht⟩
  · have hb : bs = [] := List.length_eq_zero_iff.1 hl
    subst hb
    exact run_convert_bytes_nil w 85 5 Tryd.underlying85 Tryd.underlying5 0 0 9 Tryd.underlying9
  · have := run_convert_bytes_arg (P := Tryd.prog) w 85 5 Tryd.underlying85 Tryd.underlying5 g 0 bs.length cap (bs.map fun b => (b.toNat : Int)) (by simp) (fun i hi => by
      have := h.own.cells (g := g) rfl i (.int .u8 (bs[i]).toNat) (by simp [cellOf, hi])
      rw [Addr.add_lit] at this
      simpa [List.getD, hi] using this) 9 Tryd.underlying9
    rw [this, strOfNums_str]

set_option maxHeartbeats 400000 in
theorem done_ok (p : Nat) (bs : List UInt8) (v : Value) (w : World) (h : WrAt p w bs v) :
    Calls Tryd.prog 96 #[.pointer (some ⟨p, 0, none⟩)] w fun e w' => e = .returned (.tuple #[.string (str bs), .nilIface]) ∧ w' = w := by
  have hcv := h.conv
  obtain ⟨c0, c1, f0, f1, lt, own⟩ := h
  clear own
  go_enter Tryd.func96, Tryd.ntmps96
  go_wp2
  go_ret2
  exact ⟨rfl, rfl⟩

theorem new_ok (w : World) : Calls Tryd.prog 93 #[] w fun e w' => e = .returned (.pointer (some ⟨w.heap.size, 0, none⟩)) ∧ w.alloc (.cells #[.slice none 0 0, .nilIface] 178) = w' := by
  go_enter Tryd.func93, Tryd.ntmps93
  go_wp2
  go_ret
  exact ⟨rfl, rfl⟩

theorem WrAt.fresh (w : World) : WrAt w.heap.size (w.alloc (.cells #[.slice none 0 0, .nilIface] 178)) [] (.slice none 0 0) :=
  ⟨by simp, by simp, by simp, by simp, by simp, by simpa using World.ownsRow_nil _ _ _ _⟩
end Go.Proofs.YtlmampcdflbifadDoor

namespace Go.Proofs.YtlmampcdflbifadDoor
open Go.RowKit

/-- The reader at block p, with no error, has the text s left. -/
structure RdAt (p : Nat) (w : World) (s : ByteArray) (e : Value) : Prop where
  c0 : w.cell? ⟨p, 0, none⟩ = some (.string s)
  c1 : w.cell? ⟨p, 1, none⟩ = some e
  f0 : w.frozen? ⟨p, 0, none⟩ = false
  f1 : w.frozen? ⟨p, 1, none⟩ = false
  lt : p < w.heap.size

theorem newR_ok (s : ByteArray) (w : World) : Calls Tryd.prog 97 #[.string s] w fun e w' => e = .returned (.pointer (some ⟨w.heap.size, 0, none⟩)) ∧ w.alloc (.cells #[.string s, .nilIface] 181) = w' := by
  go_enter Tryd.func97, Tryd.ntmps97
  go_wp2
  go_ret
  exact ⟨rfl, rfl⟩

theorem RdAt.fresh (w : World) (s : ByteArray) : RdAt w.heap.size (w.alloc (.cells #[.string s, .nilIface] 181)) s .nilIface :=
  ⟨by simp, by simp, by simp, by simp, by simp⟩

/-- Of what was there only block p has changed. -/
theorem grow_set {p i : Nat} {w w1 : World} (h : w.grownBy w1 (some p)) (v : Value) : w.grownBy (w1.setCell ⟨p, i, none⟩ v) (some p) :=
  ⟨h.os, h.tape, h.output, by rw [World.size_setCell]; exact h.size, fun k hk hn => (Below.heap_setCell _ _ _ _ (fun e => hn (by rw [e]))).trans (h.block k hk hn)⟩
theorem grow_trans {p : Nat} {w w1 w2 : World} (h : w.grownBy w1 (some p)) (k : w1.grownBy w2 (some p)) : w.grownBy w2 (some p) :=
  ⟨k.os.trans h.os, k.tape.trans h.tape, k.output.trans h.output, Nat.le_trans h.size k.size, fun i hi hn => (k.block i (Nat.lt_of_lt_of_le hi h.size) hn).trans (h.block i hi hn)⟩
theorem grow_below {p : Nat} {w w' : World} (h : w.grownBy w' (some p)) (hp : p < w.heap.size) : Below p w w' :=
  ⟨h.os, h.tape, h.output, h.size, fun k hk => h.block k (by omega) (fun e => by cases e; omega)⟩

theorem failR4 (p : Nat) (s : ByteArray) (t : TypeId) (x : Value) (w : World) (h : RdAt p w s .nilIface) :
    Calls Tryd.prog 121 #[.pointer (some ⟨p, 0, none⟩), .iface t x] w fun r w' => r = .returned (.tuple #[]) ∧ RdAt p w' ByteArray.empty (.iface t x) ∧ w.grownBy w' (some p) := by
  have H := hide h
  obtain ⟨c0, c1, f0, f1, lt⟩ := h
  go_enter Tryd.func121, Tryd.ntmps121
  go_wp2
  go_end0
  refine ⟨rfl, ⟨?_, ?_, by simpa using f0, by simpa using f1, by simpa using lt⟩, grow_set (grow_set (World.grownBy.refl _ _) _) _⟩
  · rw [World.cell?_setCell_other _ _ _ _ (by simp)]; exact World.cell?_setCell_same _ _ _ c0
  · exact World.cell?_setCell_same _ _ _ (by rw [World.cell?_setCell_other _ _ _ _ (by simp)]; exact c1)

set_option maxHeartbeats 400000 in
set_option maxRecDepth 100000 in
theorem whole_ok (p : Nat) (s : ByteArray) (n i : Nat) (w : World) (h : RdAt p w s .nilIface) (hn : n ≤ 1099511627776) (hi : i < s.size) (hs : s.size ≤ 1000000) (hz : 0 < i → (s[i]).toNat ≠ 0) :
    Calls Tryd.prog 120 #[.pointer (some ⟨p, 0, none⟩), .int .i64 n, .int .i64 i] w fun r w' => r = .returned (.int .i64 n) ∧ RdAt p w' (s.extract (i + 1) s.size) .nilIface ∧ w.grownBy w' (some p) := by
  obtain ⟨c0, c1, f0, f1, lt⟩ := h
  have hn' : (n : Int) ≤ 1099511627776 := by omega
  have hi' : (i : Int) < s.size := by omega
  have hs' : (s.size : Int) ≤ 1000000 := by omega
  by_cases h0 : 0 < i
  · have h0' : decide ((0 : Int) < i) = true := by simp; omega
    have hz' := hz h0
    clear hz
    go_enter Tryd.func120, Tryd.ntmps120
    go_wp2_with fail
    go_ret
    refine ⟨rfl, ⟨World.cell?_setCell_same _ _ _ c0, ?_, by simpa using f0, by simpa using f1, by simpa using lt⟩, grow_set (World.grownBy.refl _ _) _⟩
    rw [World.cell?_setCell_other _ _ _ _ (by simp)]; exact c1
  · have h0' : decide ((0 : Int) < i) = false := by simp; omega
    clear hz
    go_enter Tryd.func120, Tryd.ntmps120
    go_wp2_with fail
    go_ret
    refine ⟨rfl, ⟨World.cell?_setCell_same _ _ _ c0, ?_, by simpa using f0, by simpa using f1, by simpa using lt⟩, grow_set (World.grownBy.refl _ _) _⟩
    rw [World.cell?_setCell_other _ _ _ _ (by simp)]; exact c1

set_option maxHeartbeats 400000 in
set_option maxRecDepth 100000 in
/-- The last byte is 0, and not the only one. -/
theorem whole_zero (p : Nat) (s : ByteArray) (n : Int) (i : Nat) (t : TypeId) (x : Value) (w : World) (h : RdAt p w s .nilIface) (hT : w.cell? ⟨4, 0, none⟩ = some (.iface t x)) (hi : i < s.size) (hs : s.size ≤ 1000000) (h0 : 0 < i) (hz : (s[i]).toNat = 0) :
    Calls Tryd.prog 120 #[.pointer (some ⟨p, 0, none⟩), .int .i64 n, .int .i64 i] w fun r w' => r = .returned (.int .i64 0) ∧ RdAt p w' ByteArray.empty (.iface t x) ∧ w.grownBy w' (some p) := by
  have H := hide h
  obtain ⟨c0, c1, f0, f1, lt⟩ := h
  have hi' : (i : Int) < s.size := by omega
  have hs' : (s.size : Int) ≤ 1000000 := by omega
  have h0' : decide ((0 : Int) < i) = true := by simp; omega
  have hz' : ((s[i].toNat : Int) == 0) = true := by simp [hz]
  clear hz
  go_enter Tryd.func120, Tryd.ntmps120
  go_wp2_with fail
  refine (failR4 _ _ _ _ _ H.out).mono ?_
  rintro e w1 ⟨rfl, h1, hb1⟩
  have H1 := hide h1
  have Hb1 := hide hb1
  clear h1 hb1
  go_wp2
  go_ret
  exact ⟨rfl, H1.out, Hb1.out⟩

set_option maxHeartbeats 400000 in
set_option maxRecDepth 100000 in
/-- Above MaxNum. -/
theorem whole_big (p : Nat) (s : ByteArray) (n i : Nat) (t : TypeId) (x : Value) (w : World) (h : RdAt p w s .nilIface) (hT : w.cell? ⟨0, 0, none⟩ = some (.iface t x)) (hi : i < s.size) (hs : s.size ≤ 1000000) (hn : 1099511627776 < n) (hz : 0 < i → (s[i]).toNat ≠ 0) :
    Calls Tryd.prog 120 #[.pointer (some ⟨p, 0, none⟩), .int .i64 n, .int .i64 i] w fun r w' => r = .returned (.int .i64 0) ∧ RdAt p w' ByteArray.empty (.iface t x) ∧ w.grownBy w' (some p) := by
  have H := hide h
  obtain ⟨c0, c1, f0, f1, lt⟩ := h
  have hn' : (1099511627776 : Int) < n := by omega
  have hi' : (i : Int) < s.size := by omega
  have hs' : (s.size : Int) ≤ 1000000 := by omega
  by_cases h0 : 0 < i
  · have h0' : decide ((0 : Int) < i) = true := by simp; omega
    have hz' := hz h0
    clear hz
    go_enter Tryd.func120, Tryd.ntmps120
    go_wp2_with fail
    refine (failR4 _ _ _ _ _ H.out).mono ?_
    rintro e w1 ⟨rfl, h1, hb1⟩
    have H1 := hide h1
    have Hb1 := hide hb1
    clear h1 hb1
    go_wp2
    go_ret
    exact ⟨rfl, H1.out, Hb1.out⟩
  · have h0' : decide ((0 : Int) < i) = false := by simp; omega
    clear hz
    go_enter Tryd.func120, Tryd.ntmps120
    go_wp2_with fail
    refine (failR4 _ _ _ _ _ H.out).mono ?_
    rintro e w1 ⟨rfl, h1, hb1⟩
    have H1 := hide h1
    have Hb1 := hide hb1
    clear h1 hb1
    go_wp2
    go_ret
    exact ⟨rfl, H1.out, Hb1.out⟩

theorem failR_ok (p : Nat) (s : ByteArray) (t : TypeId) (x : Value) (w : World) (h : RdAt p w s .nilIface) :
    Calls Tryd.prog 121 #[.pointer (some ⟨p, 0, none⟩), .iface t x] w fun r w' => r = .returned (.tuple #[]) ∧ RdAt p w' ByteArray.empty (.iface t x) ∧ Below p w w' :=
  (failR4 p s t x w h).mono fun _ _ ⟨h1, h2, h3⟩ => ⟨h1, h2, grow_below h3 h.lt⟩
end Go.Proofs.YtlmampcdflbifadDoor

namespace Go.Proofs.YtlmampcdflbifadDoor
open Go.RowKit

/-- What the reader's Num leaves, by the plain function. -/
def NumRes (p : Nat) (s : ByteArray) (tT : TypeId) (xT : Value) (tB : TypeId) (xB : Value) (r : Ending) (w' : World) : Prop :=
  match Go.Num.dec s.data.toList with
  | .ok (n, k) => r = .returned (.int .i64 n) ∧ RdAt p w' (s.extract k s.size) .nilIface
  | .error 1 => r = .returned (.int .i64 0) ∧ RdAt p w' ByteArray.empty (.iface tT xT)
  | .error _ => r = .returned (.int .i64 0) ∧ RdAt p w' ByteArray.empty (.iface tB xB)

theorem byte_wrap (b : UInt8) : wrap64 (b.toNat : Int) = (b.toNat : Int) := by
  have := b.toNat_lt
  unfold wrap64
  omega

/-- One byte more: no bit is lost. -/
theorem step_val (acc j : Nat) (b : UInt8) (hj : j < 6) (ha : acc < 128 ^ j) : wrap64 ((acc : Int) + wrap64 ((b.toNat : Int) % 128 * 2 ^ (7 * j))) = ((acc + b.toNat % 128 * 128 ^ j : Nat) : Int) := by
  have hb := b.toNat_lt
  have ht : (b.toNat : Int) % 128 = ((b.toNat % 128 : Nat) : Int) := by omega
  rw [ht]
  generalize hm : b.toNat % 128 = m
  have hm' : m < 128 := by omega
  unfold wrap64
  match j, hj with
  | 0, _ => simp at ha ⊢; omega
  | 1, _ => simp at ha ⊢; omega
  | 2, _ => simp at ha ⊢; omega
  | 3, _ => simp at ha ⊢; omega
  | 4, _ => simp at ha ⊢; omega
  | 5, _ => simp at ha ⊢; omega

theorem step_lt (acc j m : Nat) (ha : acc < 128 ^ j) (hm : m < 128) : acc + m * 128 ^ j < 128 ^ (j + 1) := by
  rw [Nat.pow_succ, Nat.mul_comm (128 ^ j) 128]
  have : m * 128 ^ j ≤ 127 * 128 ^ j := Nat.mul_le_mul_right _ (by omega)
  omega

/-- The loop's end by a byte below 128. -/
theorem dec_of_scan (L : List UInt8) (n i : Nat) (h : Go.Num.scan 6 L 0 0 = some (n, i)) : Go.Num.dec L = if 0 < i ∧ L[i]? = some 0 then .error 1 else if 1099511627776 < n then .error 2 else .ok (n, i + 1) := by
  unfold Go.Num.dec; rw [h]
theorem dec_of_none (L : List UInt8) (h : Go.Num.scan 6 L 0 0 = none) : Go.Num.dec L = .error 1 := by
  unfold Go.Num.dec; rw [h]

theorem scan_end (k : Nat) (b : UInt8) (r : List UInt8) (acc i : Nat) (hb : b.toNat < 128) : Go.Num.scan (k + 1) (b :: r) acc i = some (acc + b.toNat % 128 * 128 ^ i, i) := by
  rw [Go.Num.scan, if_pos hb]
theorem scan_next (k : Nat) (b : UInt8) (r : List UInt8) (acc i : Nat) (hb : ¬ b.toNat < 128) : Go.Num.scan (k + 1) (b :: r) acc i = Go.Num.scan k r (acc + b.toNat % 128 * 128 ^ i) (i + 1) := by
  rw [Go.Num.scan, if_neg hb]

set_option maxHeartbeats 400000 in
set_option maxRecDepth 100000 in
theorem numR4 (p : Nat) (s : ByteArray) (tT : TypeId) (xT : Value) (tB : TypeId) (xB : Value) (w : World) (h : RdAt p w s .nilIface) (hs : s.size ≤ 1000000)
    (hT : w.cell? ⟨4, 0, none⟩ = some (.iface tT xT)) (hB : w.cell? ⟨0, 0, none⟩ = some (.iface tB xB)) :
    Calls Tryd.prog 98 #[.pointer (some ⟨p, 0, none⟩)] w fun r w' => NumRes p s tT xT tB xB r w' ∧ w.grownBy w' (some p) := by
  have H := hide h
  obtain ⟨c0, c1, f0, f1, lt⟩ := h
  have hs' : (s.size : Int) ≤ 1000000 := by omega
  go_enter Tryd.func98, Tryd.ntmps98
  go_wp2_with fail
  go_loop [3, 4] (fun a b => ∃ j acc : Nat, a = .int .i64 acc ∧ b = .int .i64 j ∧ j ≤ 6 ∧ j ≤ s.size ∧ acc < 128 ^ j ∧ Hid (Go.Num.scan 6 s.data.toList 0 0 = Go.Num.scan (6 - j) (s.data.toList.drop j) acc j)) (fun _ b => 6 - (intOf b).toNat)
  case atStart => exact ⟨0, 0, rfl, rfl, by omega, by omega, by simp, rfl⟩
  case round =>
    obtain ⟨j, acc, rfl, rfl, hj6, hjs, hacc, He⟩ := hrel
    by_cases hlt : j < s.size
    · have hlt' : decide ((j : Int) < s.size) = true := by simp; omega
      have hlt'' : (j : Int) < s.size := by omega
      by_cases h6 : j < 6
      · have h6' : (j : Int) < 6 := by omega
        have hw := byte_wrap s[j]
        have hsv := hide (step_val acc j s[j] h6 hacc)
        have he := He.out
        rw [dropL s j hlt, show 6 - j = (5 - j) + 1 by omega] at he
        by_cases hb : (s[j]).toNat < 128
        · have hb' : ((s[j]).toNat : Int) < 128 := by omega
          rw [scan_end _ _ _ _ _ hb] at he
          have hdec := dec_of_scan _ _ _ he
          rw [getL s j hlt] at hdec
          have Hdec := hide hdec
          clear he hdec He
          go_wp2_with fail
          rw [hsv.out]
          have HN := hide hacc
          clear hacc hw hsv
          generalize acc + (s[j]).toNat % 128 * 128 ^ j = N at *
          by_cases hz : 0 < j ∧ (s[j]).toNat = 0
          · refine (whole_zero p s _ j tT xT w H.out hT hlt hs hz.1 hz.2).mono ?_
            rintro e w1 ⟨rfl, h1, hb1⟩
            have H1 := hide h1
            have Hb1 := hide hb1
            clear h1 hb1
            have hfin : Go.Num.dec s.data.toList = .error 1 := by
              rw [Hdec.out, if_pos ⟨hz.1, congrArg some (UInt8.toNat_inj.1 (by simpa using hz.2))⟩]
            have Hfin := hide hfin
            clear hfin
            go_wp2
            go_ret
            refine ⟨?_, Hb1.out⟩
            unfold NumRes
            rw [Hfin.out]
            exact ⟨rfl, H1.out⟩
          · have hz' : ¬ (0 < j ∧ (some s[j]) = some (0 : UInt8)) := by
              rintro ⟨a1, a2⟩
              refine hz ⟨a1, ?_⟩
              rw [Option.some.inj a2]; rfl
            have hz2 : 0 < j → (s[j]).toNat ≠ 0 := fun a b => hz ⟨a, b⟩
            have hd := Hdec.out
            rw [if_neg hz'] at hd
            by_cases hN : 1099511627776 < N
            · rw [if_pos hN] at hd
              have Hfin := hide hd
              refine (whole_big p s N j tB xB w H.out hB hlt hs hN hz2).mono ?_
              rintro e w1 ⟨rfl, h1, hb1⟩
              have H1 := hide h1
              have Hb1 := hide hb1
              clear h1 hb1 hz hz' hz2 hd
              go_wp2
              go_ret
              refine ⟨?_, Hb1.out⟩
              unfold NumRes
              rw [Hfin.out]
              exact ⟨rfl, H1.out⟩
            · rw [if_neg hN] at hd
              have Hfin := hide hd
              refine (whole_ok p s N j w H.out (by omega) hlt hs hz2).mono ?_
              rintro e w1 ⟨rfl, h1, hb1⟩
              have H1 := hide h1
              have Hb1 := hide hb1
              clear h1 hb1 hz hz' hz2 hd
              go_wp2
              go_ret
              refine ⟨?_, Hb1.out⟩
              unfold NumRes
              rw [Hfin.out]
              exact ⟨rfl, H1.out⟩
        · have hb' : (128 : Int) ≤ ((s[j]).toNat : Int) := by omega
          rw [scan_next _ _ _ _ _ hb] at he
          have Hn := hide he
          have hl := step_lt acc j ((s[j]).toNat % 128) hacc (by omega)
          have Hl := hide hl
          clear he hl He
          go_wp2_with fail
          go_round
          case rel =>
            refine ⟨j + 1, acc + (s[j]).toNat % 128 * 128 ^ j, ?_, by go_num, by omega, by omega, Hl.out, ?_⟩
            · rw [hsv.out]
            · rw [show 6 - (j + 1) = 5 - j by omega]; exact Hn.out
          case measure => simp [intOf]; omega
      · have h6' : (6 : Int) ≤ j := by omega
        have hj : j = 6 := by omega
        have he := He.out
        rw [show 6 - j = 0 by omega, Go.Num.scan] at he
        have Hfin := hide (dec_of_none _ he)
        clear he He hj
        go_wp2_with fail
        refine (failR4 _ _ _ _ _ H.out).mono ?_
        rintro e w1 ⟨rfl, h1, hb1⟩
        have H1 := hide h1
        have Hb1 := hide hb1
        clear h1 hb1
        go_wp2
        go_ret
        refine ⟨?_, Hb1.out⟩
        unfold NumRes
        rw [Hfin.out]
        exact ⟨rfl, H1.out⟩
    · have hlt' : decide ((j : Int) < s.size) = false := by simp; omega
      have hlt'' : (s.size : Int) ≤ (j : Int) := by omega
      have he := He.out
      have hj : s.data.toList.drop j = [] := by rw [List.drop_eq_nil_iff, lenL]; omega
      have hk : Go.Num.scan (6 - j) [] acc j = none := by cases 6 - j <;> rfl
      rw [hj, hk] at he
      have Hfin := hide (dec_of_none _ he)
      clear he He hj hk
      go_wp2_with fail
      refine (failR4 _ _ _ _ _ H.out).mono ?_
      rintro e w1 ⟨rfl, h1, hb1⟩
      have H1 := hide h1
      have Hb1 := hide hb1
      clear h1 hb1
      go_wp2
      go_ret
      refine ⟨?_, Hb1.out⟩
      unfold NumRes
      rw [Hfin.out]
      exact ⟨rfl, H1.out⟩

theorem numR (p : Nat) (s : ByteArray) (tT : TypeId) (xT : Value) (tB : TypeId) (xB : Value) (w : World) (h : RdAt p w s .nilIface) (hs : s.size ≤ 1000000)
    (hT : w.cell? ⟨4, 0, none⟩ = some (.iface tT xT)) (hB : w.cell? ⟨0, 0, none⟩ = some (.iface tB xB)) :
    Calls Tryd.prog 98 #[.pointer (some ⟨p, 0, none⟩)] w fun r w' => NumRes p s tT xT tB xB r w' ∧ Below p w w' :=
  (numR4 p s tT xT tB xB w h hs hT hB).mono fun _ _ ⟨h1, h2⟩ => ⟨h1, grow_below h2 h.lt⟩
end Go.Proofs.YtlmampcdflbifadDoor
