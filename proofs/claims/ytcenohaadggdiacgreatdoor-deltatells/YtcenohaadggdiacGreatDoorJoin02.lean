/-
  What the rows' condition on the twelve errors' variables, and on package errors' own variable, gives the walks; the door's own heap meets it.
  Plain mathematics of numbers as bytes: 'enc' (seven bits a byte, the lowest first) and 'scan' (the reader's loop), and that what was written is read back, whatever stands behind. No program, no walk.
  Plain mathematics of signatures: blocks, what is wrong with a list of them, their bytes and how they are read. No program, no walk.
  Plain mathematics of sums that roll: 'wa' (all bytes), 'wb' (each byte times its place from the end), 'weak' (both modulo 65536); what is rolled, and what is joined. No program, no walk.
  Contracts of the halves of a sum that rolls (package weak) over this dump: what a sum alone reaches.
-/
import Derived.Test.YtcenohaadggdiacGreatDoorJoin01
import Derived.LaidHandle
import Derived.Deep.RegionHeld3
namespace Go.Proofs.YtcenohaadggdiacGreatDoor
open Go.ChangeShapes Go.WideShapes Go.ChangeAt Go.RowKit

abbrev laidErr {H : Type} (text : List UInt8) : DataW H := .iface "*errors.errorString" (.ptr (.agg [.lit (.string text)]))
/-- The twelve errors' variables, as the rows list them, each with its text. -/
abbrev errRows : List (String × List UInt8) := [("packhorse/api.ErrText", [112, 97, 99, 107, 104, 111, 114, 115, 101, 58, 32, 116, 101, 120, 116]), ("packhorse/api.ErrBound", [112, 97, 99, 107, 104, 111, 114, 115, 101, 58, 32, 98, 111, 117, 110, 100]), ("packhorse/api.ErrShape", [112, 97, 99, 107, 104, 111, 114, 115, 101, 58, 32, 115, 104, 97, 112, 101]), ("packhorse/api.ErrKind", [112, 97, 99, 107, 104, 111, 114, 115, 101, 58, 32, 107, 105, 110, 100]), ("packhorse/api.ErrName", [112, 97, 99, 107, 104, 111, 114, 115, 101, 58, 32, 110, 97, 109, 101]), ("packhorse/api.ErrNone", [112, 97, 99, 107, 104, 111, 114, 115, 101, 58, 32, 110, 111, 110, 101]), ("packhorse/api.ErrExist", [112, 97, 99, 107, 104, 111, 114, 115, 101, 58, 32, 101, 120, 105, 115, 116]), ("packhorse/api.ErrFull", [112, 97, 99, 107, 104, 111, 114, 115, 101, 58, 32, 102, 117, 108, 108]), ("packhorse/api.ErrOrder", [112, 97, 99, 107, 104, 111, 114, 115, 101, 58, 32, 111, 114, 100, 101, 114]), ("packhorse/api.ErrSum", [112, 97, 99, 107, 104, 111, 114, 115, 101, 58, 32, 115, 117, 109]), ("packhorse/api.ErrStale", [112, 97, 99, 107, 104, 111, 114, 115, 101, 58, 32, 115, 116, 97, 108, 101]), ("packhorse/api.ErrOff", [112, 97, 99, 107, 104, 111, 114, 115, 101, 58, 32, 111, 102, 102])]
abbrev laid12 : List (String × DataW Unit) := errRows.map fun x => (x.1, laidErr x.2)
abbrev laid13 : List (String × DataW Unit) := ("errors.errorType", Rows.laid_errors_errorType) :: laid12

/-- A listed error: its variable's cell, its row, its text. -/
structure ErrAt (W : World) (g : Nat) (text : List UInt8) (a : Addr) : Prop where
  cell : W.cell? ⟨g, 0, none⟩ = some (.iface 157 (.pointer (some a)))
  row : ∃ c t, W.heap[a.block]? = some (.cells c t (0, 0))
  text : ∃ s : ByteArray, W.cell? a = some (.string s) ∧ s.data.toList = text

theorem errAt_any {P : Program} {n nm : String} {text : List UInt8} {r : List (String × DataW Unit)} {W : World} {g : Nat} {ti tp te ts : TypeId} {ms : Array (String × TypeId)} {f : Field}
    (h : laidMet P ((n, .iface nm (.ptr (.agg [.lit (.string text)]))) :: r) W)
    (hg : P.globalNamed n = some g) (ht : (P.globals[g]?).map (·.type) = some ti) (hi : P.underlying ti = some (.interface ms)) (hrow : ∀ u, P.typeName? 3 u = some nm → u = tp)
    (hp : P.underlying tp = some (.pointer te)) (he : P.underlying te = some (.struct #[f])) (hft : f.type = ts) (hfo : f.offset = 0) (hs : P.underlying ts = some .string) (hc : P.cellsOf te = 1) (hcs : P.cellsOf ts = 1) :
    ∃ (a : Addr) (s : ByteArray), W.cell? ⟨g, 0, none⟩ = some (.iface tp (.pointer (some a))) ∧ (∃ c t, W.heap[a.block]? = some (.cells c t (0, 0))) ∧ W.cell? a = some (.string s) ∧ s.data.toList = text := by
  obtain ⟨ps, ⟨g0, t0, cs0, f0, p0, q0, hg0, ht0, hv0, hd0, _, e0⟩, _, hrows⟩ := h
  obtain rfl := Option.some.inj (hg.symm.trans hg0)
  obtain rfl := Option.some.inj (ht.symm.trans ht0)
  subst e0
  obtain ⟨l0⟩ := cs0
  have ok0 : ∀ u v, l0 = [.iface u v] → Value.okWide P W .any 0 u v := fun u v e => by
    subst e
    exact (hrows g 0 (by simp [MemPlace.row])).2 u v (by simpa using World.var?_cell hg0 hv0 0)
  obtain ⟨a0, s0, rfl, hc0, hs0, _, rfl⟩ := errorString_of_trod hi hrow hp he hft hfo hs hc hcs hd0 ok0
  exact ⟨a0, s0, by simpa using World.var?_cell hg0 hv0 0, (hrows a0.block a0.off (by simp [MemPlace.row])).1, hc0, hs0⟩

theorem errAt_of_laid {W : World} {n : String} {text : List UInt8} {r : List (String × DataW Unit)} {g : Nat} (h : laidMet Tryz.prog ((n, laidErr text) :: r) W)
    (hg : Tryz.prog.globalNamed n = some g) (ht : (Tryz.prog.globals[g]?).map (·.type) = some 27) : ∃ a, ErrAt W g text a := by
  obtain ⟨a, s, h1, h2, h3, h4⟩ := errAt_any h hg ht Tryz.underlying27 Tryz.row157 Tryz.underlying157 Tryz.underlying176 rfl rfl Tryz.underlying9 Tryz.cells176 Tryz.cells9
  exact ⟨a, h1, h2, s, h3, h4⟩

theorem errs_list {W : World} : ∀ (r : List (String × List UInt8)) (gs : List Nat), r.map (fun x => Tryz.prog.globalNamed x.1) = gs.map some → (∀ g ∈ gs, (Tryz.prog.globals[g]?).map (·.type) = some 27) →
    laidMet Tryz.prog (r.map fun x => (x.1, laidErr x.2)) W → ∃ L : List Addr, L.length = r.length ∧ ∀ k (_ : k < r.length) g t a, gs[k]? = some g → r[k]?.map (·.2) = some t → L[k]? = some a → ErrAt W g t a
  | [], gs, _, _, _ => ⟨[], rfl, fun k hk => by simp at hk⟩
  | x :: r, gs, hgs, hty, h => by
    obtain ⟨n, text⟩ := x
    match gs, hgs with
    | g :: gs, hgs =>
      simp only [List.map_cons, List.cons.injEq] at hgs h
      obtain ⟨a, ha⟩ := errAt_of_laid h hgs.1 (hty g (List.mem_cons_self ..))
      obtain ⟨L, hL, hall⟩ := errs_list r gs hgs.2 (fun g hg => hty g (List.mem_cons_of_mem _ hg)) h.tail
      refine ⟨a :: L, by simp [hL], fun k hk g' t' a' h1 h2 h3 => ?_⟩
      cases k with
      | zero =>
        simp at h1 h2 h3
        subst h1 h2 h3
        exact ha
      | succ k => exact hall k (by simpa using hk) g' t' a' (by simpa using h1) (by simpa using h2) (by simpa using h3)

theorem Tryz.gErrs : errRows.map (fun x => Tryz.prog.globalNamed x.1) = gnos.map some := by kernel_rfl
theorem Tryz.tErrs : ∀ g ∈ gnos, (Tryz.prog.globals[g]?).map (·.type) = some 27 := by
  intro g hg
  simp only [gnos, List.mem_cons, List.not_mem_nil, or_false] at hg
  rcases hg with rfl | rfl | rfl | rfl | rfl | rfl | rfl | rfl | rfl | rfl | rfl | rfl
  all_goals kernel_rfl
theorem texts_apart : ∀ i j : Fin 12, i ≠ j → errRows[i.val]?.map (·.2) ≠ errRows[j.val]?.map (·.2) := by decide
theorem Tryz.gHandle : Tryz.prog.globalNamed "errors.errorType" = some 12 := by kernel_rfl
theorem Tryz.rtRow : (Tryz.prog.cutTypes.find? (·.1 == "internal/reflectlite.rtype")).map (·.2) = some 140 := by kernel_rfl
theorem Tryz.typesSize : Tryz.prog.types.size = 188 := by kernel_rfl
theorem Tryz.errorRow : ((List.range 188).filter fun t => Tryz.prog.rowNamed t [101, 114, 114, 111, 114]) = [27] := by kernel_rfl

theorem idx12 (k : Nat) (hk : k < 12) : gnos[k]? = some (gno k) := by
  unfold gno
  have : k < gnos.length := hk
  simp [List.getD, this]

theorem sents_of_laid {W : World} (h : laidMetH Tryz.prog laid13 W) : ∃ a, Sents W a := by
  have h' : laidMet Tryz.prog laid12 W ∧ handlesMet Tryz.prog [("errors.errorType", Rows.laid_errors_errorType)] W := h
  obtain ⟨hl, hh⟩ := h'
  obtain ⟨L, hL, hall⟩ := errs_list errRows _ Tryz.gErrs Tryz.tErrs hl
  have hL12 : L.length = 12 := hL
  have get : ∀ k (hk : k < 12), ∃ t, errRows[k]?.map (·.2) = some t ∧ ErrAt W (gno k) t (L[k]'(by omega)) := by
    intro k hk
    have hk' : k < errRows.length := hk
    exact ⟨errRows[k].2, by rw [List.getElem?_eq_getElem hk']; rfl, hall k hk' (gno k) _ _ (idx12 k hk) (by rw [List.getElem?_eq_getElem hk']; rfl) (List.getElem?_eq_getElem (by omega))⟩
  have eqa : ∀ k (hk : k < 12), L.getD k ⟨0, 0, none⟩ = L[k]'(by omega) := by
    intro k hk
    simp [List.getD, show k < L.length by omega]
  refine ⟨fun k => L.getD k ⟨0, 0, none⟩, fun k hk => ?_, fun k hk => ?_, fun i j hi hj hij e => ?_, ?_⟩
  · obtain ⟨t, _, ha⟩ := get k hk
    rw [eqa k hk]
    exact ha.cell
  · obtain ⟨t, _, ha⟩ := get k hk
    rw [eqa k hk]
    exact ha.row
  · obtain ⟨t1, ht1, ha1⟩ := get i hi
    obtain ⟨t2, ht2, ha2⟩ := get j hj
    obtain ⟨s1, hc1, hs1⟩ := ha1.text
    obtain ⟨s2, hc2, hs2⟩ := ha2.text
    have e' : L[i]'(by omega) = L[j]'(by omega) := by
      have := e
      rw [eqa i hi, eqa j hj] at this
      exact this
    rw [e'] at hc1
    rw [hc1] at hc2
    have hss : s1 = s2 := by simpa using hc2
    subst hss
    refine texts_apart ⟨i, hi⟩ ⟨j, hj⟩ (fun h => hij (congrArg Fin.val h)) ?_
    show errRows[i]?.map (·.2) = errRows[j]?.map (·.2)
    rw [ht1, ht2, ← hs1, ← hs2]
  · obtain ⟨name, u, ty, e1, e2, e3, e4, e5⟩ := hh _ (List.mem_singleton.2 rfl)
    have en : name = [101, 114, 114, 111, 114] := (Option.some.inj e1).symm
    subst en
    obtain rfl := Option.some.inj (Tryz.rtRow.symm.trans e2)
    have hm : ty ∈ (List.range 188).filter fun t => Tryz.prog.rowNamed t [101, 114, 114, 111, 114] := List.mem_filter.2 ⟨List.mem_range.2 (by rw [← Tryz.typesSize]; exact e3), e4⟩
    rw [Tryz.errorRow] at hm
    obtain rfl := List.mem_singleton.1 hm
    have hh2 : typeHandle Tryz.prog 27 = .pointer (some ⟨13, 27, none⟩) := by kernel_rfl
    rw [hh2] at e5
    simpa using World.var?_cell Tryz.gHandle e5 0

theorem door_met13 (os : Os) (args : Array Value) : laidMetH Tryz.prog laid13 ((World.doorLaid Tryz.prog 400 os).forCall (fun _ _ => 0) ⟨#[], args, []⟩).memory :=
  laidMetH_of_parts3 (fuel := 8) (laidMet_of_run' 8 (by kernel_rfl) (by kernel_rfl)) (by kernel_rfl) (by kernel_rfl)
end Go.Proofs.YtcenohaadggdiacGreatDoor

namespace Go.Num

/-- The bytes of n, with fuel: at most k + 1 bytes. -/
def encF : Nat → Nat → List UInt8
  | 0, n => [UInt8.ofNat n]
  | k + 1, n => if n < 128 then [UInt8.ofNat n] else UInt8.ofNat (n % 128 + 128) :: encF k (n / 128)
def enc (n : Nat) : List UInt8 := encF 5 n

theorem encF_length_pos (k n : Nat) : 0 < (encF k n).length := by
  cases k with
  | zero => simp [encF]
  | succ k => unfold encF; split <;> simp

theorem encF_length_le (k n : Nat) : (encF k n).length ≤ k + 1 := by
  induction k generalizing n with
  | zero => simp [encF]
  | succ k ih => unfold encF; split
                 · simp
                 · have := ih (n / 128); simp; omega

theorem enc_length_le (n : Nat) : (enc n).length ≤ 6 := encF_length_le 5 n

/-- A small number is one byte, whatever the fuel. -/
theorem encF_small (k n : Nat) (h : n < 128) : encF k n = [UInt8.ofNat n] := by
  cases k with
  | zero => rfl
  | succ k => unfold encF; rw [if_pos h]
theorem encF_big (k n : Nat) (h : 128 ≤ n) : encF (k + 1) n = UInt8.ofNat (n % 128 + 128) :: encF k (n / 128) := by
  rw [encF, if_neg (by omega)]

theorem toNat_ofNat (n : Nat) (h : n < 256) : (UInt8.ofNat n).toNat = n := by
  rw [UInt8.toNat_ofNat']; omega

/-- The reader's loop: fuel, what is left, the sum so far, the place. Answers the number and the last byte's place. -/
def scan : Nat → List UInt8 → Nat → Nat → Option (Nat × Nat)
  | 0, _, _, _ => none
  | _ + 1, [], _, _ => none
  | k + 1, b :: r, acc, i => if b.toNat < 128 then some (acc + b.toNat % 128 * 128 ^ i, i) else scan k r (acc + b.toNat % 128 * 128 ^ i) (i + 1)

theorem scan_enc (k : Nat) : ∀ (n acc i : Nat) (more : List UInt8), n < 128 ^ (k + 1) →
    scan (k + 1) (encF k n ++ more) acc i = some (acc + n * 128 ^ i, i + (encF k n).length - 1) := by
  induction k with
  | zero =>
    intro n acc i more h
    have h' : n < 128 := by simpa using h
    simp [encF, scan, toNat_ofNat n (by omega), h', Nat.mod_eq_of_lt h']
  | succ k ih =>
    intro n acc i more h
    by_cases hn : n < 128
    · rw [encF_small _ _ hn]
      simp [scan, toNat_ofNat n (by omega), hn, Nat.mod_eq_of_lt hn]
    · rw [encF_big _ _ (by omega)]
      have hb : (UInt8.ofNat (n % 128 + 128)).toNat = n % 128 + 128 := toNat_ofNat _ (by omega)
      have hd : n / 128 < 128 ^ (k + 1) := by
        rw [Nat.div_lt_iff_lt_mul (by omega)]
        rw [Nat.pow_succ] at h; exact h
      rw [List.cons_append, scan, hb, if_neg (by omega), ih _ _ _ _ hd]
      have e1 : (n % 128 + 128) % 128 = n % 128 := by omega
      have e2 : n = n % 128 + 128 * (n / 128) := by omega
      have hp := encF_length_pos k (n / 128)
      rw [e1, Nat.pow_succ]
      congr 2
      · generalize 128 ^ i = p
        conv => rhs; rw [e2]
        rw [Nat.add_mul, Nat.add_assoc]
        congr 2
        rw [Nat.mul_comm p 128, ← Nat.mul_assoc, Nat.mul_comm (n / 128) 128]
      · simp

theorem encF_last (k : Nat) : ∀ n, n < 128 ^ (k + 1) → 0 < n → (encF k n)[(encF k n).length - 1]? ≠ some 0 := by
  induction k with
  | zero =>
    intro n h hn
    have h' : n < 128 := by simpa using h
    simp only [encF, List.length_singleton, Nat.sub_self]
    intro e
    have e' : UInt8.ofNat n = 0 := by simpa using e
    have := toNat_ofNat n (by omega)
    rw [e'] at this
    simp at this; omega
  | succ k ih =>
    intro n h hn
    by_cases hs : n < 128
    · rw [encF_small _ _ hs]
      intro e
      have e' : UInt8.ofNat n = 0 := by simpa using e
      have := toNat_ofNat n (by omega)
      rw [e'] at this
      simp at this; omega
    · rw [encF_big _ _ (by omega)]
      have hd : n / 128 < 128 ^ (k + 1) := by
        rw [Nat.div_lt_iff_lt_mul (by omega)]
        rw [Nat.pow_succ] at h; exact h
      have hp := encF_length_pos k (n / 128)
      have := ih (n / 128) hd (by omega)
      have e : (UInt8.ofNat (n % 128 + 128) :: encF k (n / 128)).length - 1 = ((encF k (n / 128)).length - 1) + 1 := by simp; omega
      rw [e, List.getElem?_cons_succ]
      exact this

/-- What Get answers: an error's number, or the number and how many bytes it took. -/
def dec (s : List UInt8) : Except Nat (Nat × Nat) :=
  match scan 6 s 0 0 with
  | none => .error 1
  | some (n, i) => if 0 < i ∧ s[i]? = some 0 then .error 1 else if 1099511627776 < n then .error 2 else .ok (n, i + 1)

theorem dec_enc (n : Nat) (h : n ≤ 1099511627776) (more : List UInt8) : dec (enc n ++ more) = .ok (n, (enc n).length) := by
  have hs := scan_enc 5 n 0 0 more (by omega)
  have hp := encF_length_pos 5 n
  unfold dec enc
  rw [hs]
  have hz : ¬ (0 < 0 + (encF 5 n).length - 1 ∧ (encF 5 n ++ more)[0 + (encF 5 n).length - 1]? = some 0) := by
    rintro ⟨h1, h2⟩
    rw [Nat.zero_add] at h1 h2
    rw [List.getElem?_append_left (by omega)] at h2
    refine encF_last 5 n (by omega) ?_ h2
    rcases Nat.eq_zero_or_pos n with e | e
    · subst e; exact absurd h1 (by decide)
    · exact e
  simp only [if_neg hz]
  rw [if_neg (by omega)]
  simp
  omega

/-- No number's bytes begin another one's. -/
theorem enc_prefix (n m : Nat) (hn : n ≤ 1099511627776) (hm : m ≤ 1099511627776) (h : (enc m).take (enc n).length = enc n) : n = m := by
  have e : enc m = enc n ++ (enc m).drop (enc n).length := by
    conv => lhs; rw [← List.take_append_drop (enc n).length (enc m)]
    rw [h]
  have h1 := dec_enc m hm []
  rw [List.append_nil, e, dec_enc n hn] at h1
  simp at h1
  exact h1.1

end Go.Num

namespace Go.Sign
open Go.Num

/-- A block: how many bytes, and both sums. -/
structure Blk where
  n : Int
  weak : Int
  strong : Nat
deriving DecidableEq, Inhabited

/-- May it stand there? -/
def fits (size : Int) (last : Bool) (b : Blk) : Bool :=
  (b.n == size || (last && decide (1 ≤ b.n) && decide (b.n < size))) && (decide (0 ≤ b.weak) && decide (b.weak < 4294967296))

/-- The first wrong one, from place i on, with so many bytes ahead: its place and an error's number. -/
def scanW (size : Int) : List Blk → Nat → Int → Option (Nat × Nat)
  | [], _, _ => none
  | b :: r, i, all => if fits size r.isEmpty b then (if 4000 < all + b.n then some (i, 8) else scanW size r (i + 1) (all + b.n)) else some (i, 2)

/-- An error's number (0: none) and its place (-1: nowhere). -/
def fault (l : List Blk) (size : Int) : Nat × Int :=
  if 1 ≤ size ∧ size ≤ 64 then (match scanW size l 0 0 with | none => (0, -1) | some (i, c) => (c, i)) else (2, -1)

theorem fits_bounds {size : Int} {last : Bool} {b : Blk} (h : fits size last b = true) (h1 : 1 ≤ size) : 1 ≤ b.n ∧ b.n ≤ size ∧ 0 ≤ b.weak ∧ b.weak < 4294967296 := by
  simp only [fits, Bool.and_eq_true, Bool.or_eq_true, beq_iff_eq, decide_eq_true_eq] at h
  obtain ⟨h | h, h2, h3⟩ := h <;> omega

/-- Of right blocks each is right, and they are no more than their bytes. -/
theorem scanW_none {size : Int} (h1 : 1 ≤ size) : ∀ (l : List Blk) (i : Nat) (all : Int), scanW size l i all = none → 
    (∀ b ∈ l, 1 ≤ b.n ∧ b.n ≤ size ∧ 0 ≤ b.weak ∧ b.weak < 4294967296) ∧ (l ≠ [] → all + l.length ≤ 4000)
  | [], _, _, _ => ⟨fun b hb => (by cases hb), fun h => absurd rfl h⟩
  | b :: r, i, all, h => by
    rw [scanW] at h
    split at h
    · rename_i hf
      split at h
      · cases h
      · rename_i hn
        have hb := fits_bounds hf h1
        have ⟨a1, a2⟩ := scanW_none h1 r (i + 1) (all + b.n) h
        refine ⟨fun x hx => ?_, fun _ => ?_⟩
        · rcases List.mem_cons.1 hx with rfl | hx
          · exact hb
          · exact a1 x hx
        · cases r with
          | nil => simp; omega
          | cons c r => have := a2 (by simp); simp at this ⊢; omega
    · cases h

/-- What is wrong is ErrBound or ErrFull. -/
theorem scanW_code {size : Int} : ∀ (l : List Blk) (i : Nat) (all : Int) (k c : Nat), scanW size l i all = some (k, c) → (c = 2 ∨ c = 8) ∧ k < i + l.length
  | [], _, _, _, _, h => by cases h
  | b :: r, i, all, k, c, h => by
    rw [scanW] at h
    split at h
    · split at h
      · cases h; simp
      · have := scanW_code r _ _ _ _ h; simp; omega
    · cases h; simp

theorem fault_zero {l : List Blk} {size : Int} (h : (fault l size).1 = 0) : (1 ≤ size ∧ size ≤ 64) ∧ scanW size l 0 0 = none := by
  unfold fault at h
  split at h
  · rename_i hs
    refine ⟨hs, ?_⟩
    split at h
    · assumption
    · rename_i i c hc
      have : c ≠ 0 := by rcases (scanW_code _ _ _ _ _ hc).1 with rfl | rfl <;> decide
      exact absurd h this
  · cases h

/-! ### Bytes -/
def encB (b : Blk) : List UInt8 := enc b.n.toNat ++ enc b.weak.toNat ++ enc b.strong
def encBs (l : List Blk) : List UInt8 := (l.map encB).flatten
theorem encBs_cons (b : Blk) (l : List Blk) : encBs (b :: l) = encB b ++ encBs l := by simp [encBs]
theorem encBs_snoc (l : List Blk) (b : Blk) : encBs (l ++ [b]) = encBs l ++ encB b := by simp [encBs]
def encS (l : List Blk) (size : Nat) : List UInt8 := enc size ++ enc l.length ++ encBs l
theorem encB_length (b : Blk) : (encB b).length ≤ 18 := by
  have := enc_length_le b.n.toNat; have := enc_length_le b.weak.toNat; have := enc_length_le b.strong
  simp [encB]; omega
theorem encBs_length (l : List Blk) : (encBs l).length ≤ 18 * l.length := by
  induction l with
  | nil => simp [encBs]
  | cons b l ih => rw [encBs_cons, List.length_append, List.length_cons]; have := encB_length b; omega

/-! ### Reading -/
/-- A number, and what is left. -/
def num (s : List UInt8) : Except Nat (Nat × List UInt8) :=
  match dec s with
  | .ok (n, k) => .ok (n, s.drop k)
  | .error c => .error c
def rdB (s : List UInt8) : Except Nat (Blk × List UInt8) :=
  match num s with
  | .error c => .error c
  | .ok (a, s1) =>
    match num s1 with
    | .error c => .error c
    | .ok (b, s2) =>
      match num s2 with
      | .error c => .error c
      | .ok (c, s3) => if 4294967295 < c then .error 1 else .ok (⟨a, b, c⟩, s3)
def rdBs : Nat → List UInt8 → Except Nat (List Blk × List UInt8)
  | 0, s => .ok ([], s)
  | k + 1, s =>
    match rdB s with
    | .error c => .error c
    | .ok (b, s1) =>
      match rdBs k s1 with
      | .error c => .error c
      | .ok (l, s2) => .ok (b :: l, s2)
/-- Just these bytes, but not looked at. -/
def rdAll (s : List UInt8) : Except Nat (List Blk × Nat) :=
  match num s with
  | .error c => .error c
  | .ok (size, s1) =>
    match num s1 with
    | .error c => .error c
    | .ok (many, s2) =>
      match rdBs many s2 with
      | .error c => .error c
      | .ok (l, s3) => if s3 = [] then .ok (l, size) else .error 1
def rdS (s : List UInt8) : Except Nat (List Blk × Nat) :=
  match rdAll s with
  | .error c => .error c
  | .ok (l, size) => if (fault l size).1 = 0 then .ok (l, size) else .error (fault l size).1

theorem num_enc (n : Nat) (h : n ≤ 1099511627776) (more : List UInt8) : num (enc n ++ more) = .ok (n, more) := by
  rw [num, dec_enc n h more]
  simp
theorem rdB_enc (b : Blk) (more : List UInt8) (h0 : 0 ≤ b.n) (h1 : b.n ≤ 64) (h2 : 0 ≤ b.weak) (h3 : b.weak < 4294967296) (h4 : b.strong < 4294967296) : rdB (encB b ++ more) = .ok (b, more) := by
  have e : encB b ++ more = enc b.n.toNat ++ (enc b.weak.toNat ++ (enc b.strong ++ more)) := by simp [encB]
  rw [e, rdB, num_enc _ (by omega)]
  simp only []
  rw [num_enc _ (by omega)]
  simp only []
  rw [num_enc _ (by omega)]
  simp only []
  rw [if_neg (by omega)]
  have e1 : (b.n.toNat : Int) = b.n := by omega
  have e2 : (b.weak.toNat : Int) = b.weak := by omega
  rw [e1, e2]
theorem rdBs_enc (l : List Blk) (more : List UInt8) (h : ∀ b ∈ l, (0 ≤ b.n ∧ b.n ≤ 64) ∧ (0 ≤ b.weak ∧ b.weak < 4294967296) ∧ b.strong < 4294967296) : rdBs l.length (encBs l ++ more) = .ok (l, more) := by
  induction l with
  | nil => simp [rdBs, encBs]
  | cons b l ih =>
    obtain ⟨⟨h0, h1⟩, ⟨h2, h3⟩, h4⟩ := h b (List.mem_cons_self ..)
    rw [encBs_cons, List.append_assoc, List.length_cons, rdBs, rdB_enc b _ h0 h1 h2 h3 h4]
    simp only []
    rw [ih fun x hx => h x (List.mem_cons_of_mem _ hx)]
/-- A signature is read as it was written. -/
theorem rdS_enc (l : List Blk) (size : Nat) (hf : (fault l size).1 = 0) (h : ∀ b ∈ l, b.strong < 4294967296) : rdS (encS l size) = .ok (l, size) := by
  obtain ⟨hs, hn⟩ := fault_zero hf
  have ⟨h1, h2⟩ := scanW_none hs.1 l 0 0 hn
  have hl : l.length ≤ 4000 := by
    cases l with
    | nil => simp
    | cons b l => have := h2 (by simp); omega
  have e : encS l size = enc size ++ (enc l.length ++ (encBs l ++ [])) := by simp [encS]
  have : rdAll (encS l size) = .ok (l, size) := by
    rw [e, rdAll, num_enc _ (by omega)]
    simp only []
    rw [num_enc _ (by omega)]
    simp only []
    rw [rdBs_enc l [] fun b hb => ⟨⟨by have := h1 b hb; omega, by have := h1 b hb; omega⟩, ⟨(h1 b hb).2.2.1, (h1 b hb).2.2.2⟩, h b hb⟩]
    simp
  rw [rdS, this]
  simp only [hf, if_true]

/-! ### One block more -/
/-- Blocks that were read already, ahead of what is read from here. -/
def ahead (l : List Blk) : Except Nat (List Blk × List UInt8) → Except Nat (List Blk × List UInt8)
  | .error c => .error c
  | .ok (m, s) => .ok (l ++ m, s)
theorem ahead_nil (x : Except Nat (List Blk × List UInt8)) : ahead [] x = x := by
  cases x with
  | error c => rfl
  | ok p => obtain ⟨m, s⟩ := p; rfl
theorem ahead_ok {l : List Blk} {k : Nat} {s s1 : List UInt8} {b : Blk} (h : rdB s = .ok (b, s1)) : ahead l (rdBs (k + 1) s) = ahead (l ++ [b]) (rdBs k s1) := by
  rw [rdBs, h]
  simp only []
  cases rdBs k s1 with
  | error c => rfl
  | ok p => obtain ⟨m, s⟩ := p; simp [ahead]
theorem ahead_error {l : List Blk} {k : Nat} {s : List UInt8} {c : Nat} (h : rdB s = .error c) : ahead l (rdBs (k + 1) s) = .error c := by
  rw [rdBs, h]; rfl
end Go.Sign

namespace Go.Weak

def wa : List UInt8 → Nat
  | [] => 0
  | b :: r => b.toNat + wa r
def wb : List UInt8 → Nat
  | [] => 0
  | b :: r => (r.length + 1) * b.toNat + wb r
def weak (l : List UInt8) : Nat := wa l % 65536 + 65536 * (wb l % 65536)

theorem wa_append (l m : List UInt8) : wa (l ++ m) = wa l + wa m := by
  induction l with
  | nil => simp [wa]
  | cons b r ih => simp only [List.cons_append, wa, ih]; omega

theorem wb_append (l m : List UInt8) : wb (l ++ m) = wb l + m.length * wa l + wb m := by
  induction l with
  | nil => simp [wa, wb]
  | cons b r ih =>
    simp only [List.cons_append, wa, wb, ih, List.length_append, Nat.mul_add, Nat.add_mul]
    omega

theorem wa_snoc (l : List UInt8) (b : UInt8) : wa (l ++ [b]) = wa l + b.toNat := by rw [wa_append]; simp [wa]
theorem wb_snoc (l : List UInt8) (b : UInt8) : wb (l ++ [b]) = wb l + wa l + b.toNat := by rw [wb_append]; simp [wb]

theorem weak_lt (l : List UInt8) : weak l < 4294967296 := by unfold weak; omega

/-- The halves of a sum. -/
theorem weak_mod (l : List UInt8) : weak l % 65536 = wa l % 65536 := by unfold weak; omega
theorem weak_div (l : List UInt8) : weak l / 65536 = wb l % 65536 := by unfold weak; omega

theorem take_snoc (l : List UInt8) (i : Nat) (h : i < l.length) : l.take (i + 1) = l.take i ++ [l[i]] := List.take_succ_eq_append_getElem h
theorem drop_cons (l : List UInt8) (i : Nat) (h : i < l.length) : l.drop i = l[i] :: l.drop (i + 1) := List.drop_eq_getElem_cons h

/-- The part of n bytes from i on. -/
def part (l : List UInt8) (i n : Nat) : List UInt8 := (l.drop i).take n

theorem part_length (l : List UInt8) (i n : Nat) (h : i + n ≤ l.length) : (part l i n).length = n := by simp [part]; omega

theorem part_slide (l : List UInt8) (i n : Nat) (hn : 0 < n) (h : i + n < l.length) :
    ∃ r, part l i n = l[i] :: r ∧ part l (i + 1) n = r ++ [l[i + n]] ∧ r.length + 1 = n := by
  obtain ⟨m, rfl⟩ : ∃ m, n = m + 1 := ⟨n - 1, by omega⟩
  refine ⟨(l.drop (i + 1)).take m, ?_, ?_, ?_⟩
  · rw [part, drop_cons l i (by omega), List.take_succ_cons]
  · rw [part, List.take_succ_eq_append_getElem (by simp; omega)]
    simp [Nat.add_comm, Nat.add_left_comm]
  · simp; omega

/-- Rolling, on the halves: the first byte goes, one comes behind. -/
theorem roll_a (b c : UInt8) (r : List UInt8) : (wa (b :: r) : Int) - b.toNat + c.toNat = wa (r ++ [c]) := by
  rw [wa_snoc]; simp only [wa]; omega
theorem roll_b (b c : UInt8) (r : List UInt8) : (wb (b :: r) : Int) - ((r.length + 1 : Nat) : Int) * b.toNat + wa (r ++ [c]) = wb (r ++ [c]) := by
  rw [wb_snoc, wa_snoc]; simp only [wb]
  have := Int.natCast_mul (r.length + 1) b.toNat
  omega

end Go.Weak

namespace Go.Proofs.YtcenohaadggdiacGreatDoor
open Go.RowKit

def hv (a b : Int) : Value := .agg #[.int .i64 a, .int .i64 b]

/-- Two numbers at block p. -/
structure HvAt (p : Nat) (w : World) (a b : Int) : Prop where
  c0 : w.cell? ⟨p, 0, none⟩ = some (.int .i64 a)
  c1 : w.cell? ⟨p, 1, none⟩ = some (.int .i64 b)
  f0 : w.frozen? ⟨p, 0, none⟩ = false
  f1 : w.frozen? ⟨p, 1, none⟩ = false
  lt : p < w.heap.size

theorem HvAt.below {p k : Nat} {w w' : World} {a b : Int} (h : HvAt p w a b) (hb : Below k w w') (hp : p < k) : HvAt p w' a b :=
  ⟨(hb.cell (p := ⟨p, 0, none⟩) (by simpa using hp)).trans h.c0, (hb.cell (p := ⟨p, 1, none⟩) (by simpa using hp)).trans h.c1, (hb.frozen (p := ⟨p, 0, none⟩) (by simpa using hp)).trans h.f0, (hb.frozen (p := ⟨p, 1, none⟩) (by simpa using hp)).trans h.f1, Nat.lt_of_lt_of_le h.lt hb.size⟩

theorem HvAt.set {p : Nat} {w : World} {a b : Int} (h : HvAt p w a b) (c d : Int) : HvAt p ((w.setCell ⟨p, 0, none⟩ (.int .i64 c)).setCell ⟨p, 1, none⟩ (.int .i64 d)) c d := by
  obtain ⟨c0, c1, f0, f1, lt⟩ := h
  refine ⟨?_, ?_, by simpa using f0, by simpa using f1, by simpa using lt⟩
  · rw [World.cell?_setCell_other _ _ _ _ (by simp)]; exact World.cell?_setCell_same _ _ _ c0
  · exact World.cell?_setCell_same _ _ _ (by rw [World.cell?_setCell_other _ _ _ _ (by simp)]; exact c1)

theorem HvAt.drew {p : Nat} {w : World} {a b : Int} (h : HvAt p w a b) : HvAt p w.drew a b := ⟨h.c0, h.c1, h.f0, h.f1, h.lt⟩

theorem HvAt.fresh (w : World) (a b : Int) (t : TypeId) : HvAt w.heap.size (w.alloc (.cells #[.int .i64 a, .int .i64 b] t)) a b :=
  ⟨by simp, by simp, by simp, by simp, by simp⟩

theorem wrap_id (x : Int) (h0 : -9223372036854775808 ≤ x) (h1 : x ≤ 9223372036854775807) : wrap64 x = x := by unfold wrap64; omega


theorem mod_eq (n : Int) : (wrap64 (n.tmod 65536 + 65536)).tmod 65536 = n % 65536 := by
  have := Int.tmod_eq_emod (a := n) (b := 65536)
  have h1 : -65536 < n.tmod 65536 := by split at this <;> omega
  have h2 : n.tmod 65536 < 65536 := by split at this <;> omega
  rw [wrap_id _ (by omega) (by omega), Int.tmod_eq_emod_of_nonneg (by omega)]
  split at this <;> omega

theorem hmod_ok (n : Int) (w : World) : Calls Tryz.prog 94 #[.int .i64 n] w fun r w' => r = .returned (.int .i64 (n % 65536)) ∧ w' = w := by
  go_enter Tryz.func94, Tryz.ntmps94
  go_wp2
  go_ret
  exact ⟨ret_int (mod_eq n), rfl⟩

theorem hwhole_ok (a b : Int) (w : World) (a0 : 0 ≤ a) (a1 : a < 65536) (b0 : 0 ≤ b) (b1 : b < 65536) : Calls Tryz.prog 82 #[hv a b] w fun r w' => r = .returned (.int .i64 (a + 65536 * b)) ∧ Below w.heap.size w w' := by
  unfold hv
  go_enter Tryz.func82, Tryz.ntmps82
  go_wp2
  go_ret
  exact ⟨rfl, (Below.refl _ _).alloc (Nat.le_refl _) _⟩

theorem hadd_ok (a b x : Int) (w : World) (a0 : 0 ≤ a) (a1 : a < 65536) (b0 : 0 ≤ b) (b1 : b < 65536) (x0 : 0 ≤ x) (x1 : x < 256) : Calls Tryz.prog 91 #[hv a b, .int .u8 x] w fun r w' => r = .returned (hv ((a + x) % 65536) ((b + (a + x) % 65536) % 65536)) ∧ Below w.heap.size w w' := by
  unfold hv
  go_enter Tryz.func91, Tryz.ntmps91
  go_wp2_with fail
  refine (hmod_ok _ _).mono ?_
  rintro e w1 ⟨rfl, rfl⟩
  go_wp2_with fail
  refine (hmod_ok _ _).mono ?_
  rintro e w1 ⟨rfl, rfl⟩
  go_wp2_with fail
  (try simp only [Exit.inBlock, Exit.then])
  refine bodyPost_ret (v := hv ((a + x) % 65536) ((b + (a + x) % 65536) % 65536)) ?_ rfl ⟨rfl, ((Below.refl _ _).alloc (Nat.le_refl _) _).alloc (by simp) _⟩
  simp only [results, show Tryz.f91.results = #[.cell 4 134] from rfl]
  go_simp
  rfl

theorem lt_mod (n : Int) : n % 65536 < 65536 := Int.emod_lt_of_pos _ (by decide)

theorem ge_mod (n : Int) : 0 ≤ n % 65536 := Int.emod_nonneg _ (by decide)

/-- The halves of a text. -/
def hA (l : List UInt8) : Int := ((Go.Weak.wa l % 65536 : Nat) : Int)

def hB (l : List UInt8) : Int := ((Go.Weak.wb l % 65536 : Nat) : Int)

theorem hA_snoc (l : List UInt8) (b : UInt8) : (hA l + b.toNat) % 65536 = hA (l ++ [b]) := by
  unfold hA; rw [Go.Weak.wa_snoc]; omega

theorem hB_snoc (l : List UInt8) (b : UInt8) : (hB l + hA (l ++ [b])) % 65536 = hB (l ++ [b]) := by
  unfold hA hB; rw [Go.Weak.wa_snoc, Go.Weak.wb_snoc]; omega

theorem hA_nonneg (l : List UInt8) : 0 ≤ hA l := by unfold hA; omega

theorem hA_lt (l : List UInt8) : hA l < 65536 := by unfold hA; omega

theorem hB_nonneg (l : List UInt8) : 0 ≤ hB l := by unfold hB; omega

theorem hB_lt (l : List UInt8) : hB l < 65536 := by unfold hB; omega
end Go.Proofs.YtcenohaadggdiacGreatDoor
