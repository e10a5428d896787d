/-
  What the rows' condition on the twelve errors' variables, and on package errors' own variable, gives the walks; the door's own heap meets it.
  Plain mathematics of numbers as bytes: 'enc' (seven bits a byte, the lowest first) and 'scan' (the reader's loop), and that what was written is read back, whatever stands behind. No program, no walk.
  Plain mathematics of signatures: blocks, what is wrong with a list of them, their bytes and how they are read. No program, no walk.
  Plain mathematics of deltas: ops, what is wrong with one, their bytes and how they are read, and the ops that a file comes to. No program, no walk.
  Plain mathematics of CRC-32: 'sh' (a bit), 'shs' (many bits), 'run' (a text), 'crc' (what More answers); they are linear over the exclusive or; what is joined; a table of what each bit makes. No program, no walk.
-/
import Derived.Test.YtlmampcdflbifaeDoorJoin01
import Derived.LaidHandle
import Derived.Lib.TrailingZeros
namespace Go.Proofs.YtlmampcdflbifaeDoor
open Go.ChangeShapes Go.WideShapes Go.ChangeAt Go.RowKit

abbrev laidErr {H : Type} (text : List UInt8) : DataW H := .iface "*errors.errorString" (.ptr (.agg [.lit (.string text)]))
/-- The twelve errors' variables, as the rows list them, each with its text. -/
abbrev errRows : List (String × List UInt8) := [("packhorse/api.ErrText", [112, 97, 99, 107, 104, 111, 114, 115, 101, 58, 32, 116, 101, 120, 116]), ("packhorse/api.ErrBound", [112, 97, 99, 107, 104, 111, 114, 115, 101, 58, 32, 98, 111, 117, 110, 100]), ("packhorse/api.ErrShape", [112, 97, 99, 107, 104, 111, 114, 115, 101, 58, 32, 115, 104, 97, 112, 101]), ("packhorse/api.ErrKind", [112, 97, 99, 107, 104, 111, 114, 115, 101, 58, 32, 107, 105, 110, 100]), ("packhorse/api.ErrName", [112, 97, 99, 107, 104, 111, 114, 115, 101, 58, 32, 110, 97, 109, 101]), ("packhorse/api.ErrNone", [112, 97, 99, 107, 104, 111, 114, 115, 101, 58, 32, 110, 111, 110, 101]), ("packhorse/api.ErrExist", [112, 97, 99, 107, 104, 111, 114, 115, 101, 58, 32, 101, 120, 105, 115, 116]), ("packhorse/api.ErrFull", [112, 97, 99, 107, 104, 111, 114, 115, 101, 58, 32, 102, 117, 108, 108]), ("packhorse/api.ErrOrder", [112, 97, 99, 107, 104, 111, 114, 115, 101, 58, 32, 111, 114, 100, 101, 114]), ("packhorse/api.ErrSum", [112, 97, 99, 107, 104, 111, 114, 115, 101, 58, 32, 115, 117, 109]), ("packhorse/api.ErrStale", [112, 97, 99, 107, 104, 111, 114, 115, 101, 58, 32, 115, 116, 97, 108, 101]), ("packhorse/api.ErrOff", [112, 97, 99, 107, 104, 111, 114, 115, 101, 58, 32, 111, 102, 102])]
abbrev laid12 : List (String × DataW Unit) := errRows.map fun x => (x.1, laidErr x.2)
abbrev laid13 : List (String × DataW Unit) := ("errors.errorType", Rows.laid_errors_errorType) :: laid12

/-- A listed error: its variable's cell, its row, its text. -/
structure ErrAt (W : World) (g : Nat) (text : List UInt8) (a : Addr) : Prop where
  cell : W.cell? ⟨g, 0, none⟩ = some (.iface 99 (.pointer (some a)))
  row : ∃ c t, W.heap[a.block]? = some (.cells c t (0, 0))
  text : ∃ s : ByteArray, W.cell? a = some (.string s) ∧ s.data.toList = text

theorem errAt_any {P : Program} {n nm : String} {text : List UInt8} {r : List (String × DataW Unit)} {W : World} {g : Nat} {ti tp te ts : TypeId} {ms : Array (String × TypeId)} {f : Field}
    (h : laidMet P ((n, .iface nm (.ptr (.agg [.lit (.string text)]))) :: r) W)
    (hg : P.globalNamed n = some g) (ht : (P.globals[g]?).map (·.type) = some ti) (hi : P.underlying ti = some (.interface ms)) (hrow : ∀ u, P.typeName? 3 u = some nm → u = tp)
    (hp : P.underlying tp = some (.pointer te)) (he : P.underlying te = some (.struct #[f])) (hft : f.type = ts) (hfo : f.offset = 0) (hs : P.underlying ts = some .string) (hc : P.cellsOf te = 1) (hcs : P.cellsOf ts = 1) :
    ∃ (a : Addr) (s : ByteArray), W.cell? ⟨g, 0, none⟩ = some (.iface tp (.pointer (some a))) ∧ (∃ c t, W.heap[a.block]? = some (.cells c t (0, 0))) ∧ W.cell? a = some (.string s) ∧ s.data.toList = text := by
  obtain ⟨ps, ⟨g0, t0, cs0, f0, p0, q0, hg0, ht0, hv0, hd0, _, e0⟩, _, hrows⟩ := h
  obtain rfl := Option.some.inj (hg.symm.trans hg0)
  obtain rfl := Option.some.inj (ht.symm.trans ht0)
  subst e0
  obtain ⟨l0⟩ := cs0
  have ok0 : ∀ u v, l0 = [.iface u v] → Value.okWide P W .any 0 u v := fun u v e => by
    subst e
    exact (hrows g 0 (by simp [MemPlace.row])).2 u v (by simpa using World.var?_cell hg0 hv0 0)
  obtain ⟨a0, s0, rfl, hc0, hs0, _, rfl⟩ := errorString_of_trod hi hrow hp he hft hfo hs hc hcs hd0 ok0
  exact ⟨a0, s0, by simpa using World.var?_cell hg0 hv0 0, (hrows a0.block a0.off (by simp [MemPlace.row])).1, hc0, hs0⟩

theorem errAt_of_laid {W : World} {n : String} {text : List UInt8} {r : List (String × DataW Unit)} {g : Nat} (h : laidMet Tryd.prog ((n, laidErr text) :: r) W)
    (hg : Tryd.prog.globalNamed n = some g) (ht : (Tryd.prog.globals[g]?).map (·.type) = some 27) : ∃ a, ErrAt W g text a := by
  obtain ⟨a, s, h1, h2, h3, h4⟩ := errAt_any h hg ht Tryd.underlying27 Tryd.row99 Tryd.underlying99 Tryd.underlying118 rfl rfl Tryd.underlying9 Tryd.cells118 Tryd.cells9
  exact ⟨a, h1, h2, s, h3, h4⟩

theorem errs_list {W : World} : ∀ (r : List (String × List UInt8)) (gs : List Nat), r.map (fun x => Tryd.prog.globalNamed x.1) = gs.map some → (∀ g ∈ gs, (Tryd.prog.globals[g]?).map (·.type) = some 27) →
    laidMet Tryd.prog (r.map fun x => (x.1, laidErr x.2)) W → ∃ L : List Addr, L.length = r.length ∧ ∀ k (_ : k < r.length) g t a, gs[k]? = some g → r[k]?.map (·.2) = some t → L[k]? = some a → ErrAt W g t a
  | [], gs, _, _, _ => ⟨[], rfl, fun k hk => by simp at hk⟩
  | x :: r, gs, hgs, hty, h => by
    obtain ⟨n, text⟩ := x
    match gs, hgs with
    | g :: gs, hgs =>
      simp only [List.map_cons, List.cons.injEq] at hgs h
      obtain ⟨a, ha⟩ := errAt_of_laid h hgs.1 (hty g (List.mem_cons_self ..))
      obtain ⟨L, hL, hall⟩ := errs_list r gs hgs.2 (fun g hg => hty g (List.mem_cons_of_mem _ hg)) h.tail
      refine ⟨a :: L, by simp [hL], fun k hk g' t' a' h1 h2 h3 => ?_⟩
      cases k with
      | zero =>
        simp at h1 h2 h3
        subst h1 h2 h3
        exact ha
      | succ k => exact hall k (by simpa using hk) g' t' a' (by simpa using h1) (by simpa using h2) (by simpa using h3)

theorem Tryd.gErrs : errRows.map (fun x => Tryd.prog.globalNamed x.1) = gnos.map some := by kernel_rfl
theorem Tryd.tErrs : ∀ g ∈ gnos, (Tryd.prog.globals[g]?).map (·.type) = some 27 := by
  intro g hg
  simp only [gnos, List.mem_cons, List.not_mem_nil, or_false] at hg
  rcases hg with rfl | rfl | rfl | rfl | rfl | rfl | rfl | rfl | rfl | rfl | rfl | rfl
  all_goals kernel_rfl
theorem texts_apart : ∀ i j : Fin 12, i ≠ j → errRows[i.val]?.map (·.2) ≠ errRows[j.val]?.map (·.2) := by decide
theorem Tryd.gHandle : Tryd.prog.globalNamed "errors.errorType" = some 12 := by kernel_rfl
theorem Tryd.rtRow : (Tryd.prog.cutTypes.find? (·.1 == "internal/reflectlite.rtype")).map (·.2) = some 86 := by kernel_rfl
theorem Tryd.typesSize : Tryd.prog.types.size = 130 := by kernel_rfl
theorem Tryd.errorRow : ((List.range 130).filter fun t => Tryd.prog.rowNamed t [101, 114, 114, 111, 114]) = [27] := by kernel_rfl

theorem idx12 (k : Nat) (hk : k < 12) : gnos[k]? = some (gno k) := by
  unfold gno
  have : k < gnos.length := hk
  simp [List.getD, this]

theorem sents_of_laid {W : World} (h : laidMetH Tryd.prog laid13 W) : ∃ a, Sents W a := by
  have h' : laidMet Tryd.prog laid12 W ∧ handlesMet Tryd.prog [("errors.errorType", Rows.laid_errors_errorType)] W := h
  obtain ⟨hl, hh⟩ := h'
  obtain ⟨L, hL, hall⟩ := errs_list errRows _ Tryd.gErrs Tryd.tErrs hl
  have hL12 : L.length = 12 := hL
  have get : ∀ k (hk : k < 12), ∃ t, errRows[k]?.map (·.2) = some t ∧ ErrAt W (gno k) t (L[k]'(by omega)) := by
    intro k hk
    have hk' : k < errRows.length := hk
    exact ⟨errRows[k].2, by rw [List.getElem?_eq_getElem hk']; rfl, hall k hk' (gno k) _ _ (idx12 k hk) (by rw [List.getElem?_eq_getElem hk']; rfl) (List.getElem?_eq_getElem (by omega))⟩
  have eqa : ∀ k (hk : k < 12), L.getD k ⟨0, 0, none⟩ = L[k]'(by omega) := by
    intro k hk
    simp [List.getD, show k < L.length by omega]
  refine ⟨fun k => L.getD k ⟨0, 0, none⟩, fun k hk => ?_, fun k hk => ?_, fun i j hi hj hij e => ?_, ?_⟩
  · obtain ⟨t, _, ha⟩ := get k hk
    rw [eqa k hk]
    exact ha.cell
  · obtain ⟨t, _, ha⟩ := get k hk
    rw [eqa k hk]
    exact ha.row
  · obtain ⟨t1, ht1, ha1⟩ := get i hi
    obtain ⟨t2, ht2, ha2⟩ := get j hj
    obtain ⟨s1, hc1, hs1⟩ := ha1.text
    obtain ⟨s2, hc2, hs2⟩ := ha2.text
    have e' : L[i]'(by omega) = L[j]'(by omega) := by
      have := e
      rw [eqa i hi, eqa j hj] at this
      exact this
    rw [e'] at hc1
    rw [hc1] at hc2
    have hss : s1 = s2 := by simpa using hc2
    subst hss
    refine texts_apart ⟨i, hi⟩ ⟨j, hj⟩ (fun h => hij (congrArg Fin.val h)) ?_
    show errRows[i]?.map (·.2) = errRows[j]?.map (·.2)
    rw [ht1, ht2, ← hs1, ← hs2]
  · obtain ⟨name, u, ty, e1, e2, e3, e4, e5⟩ := hh _ (List.mem_singleton.2 rfl)
    have en : name = [101, 114, 114, 111, 114] := (Option.some.inj e1).symm
    subst en
    obtain rfl := Option.some.inj (Tryd.rtRow.symm.trans e2)
    have hm : ty ∈ (List.range 130).filter fun t => Tryd.prog.rowNamed t [101, 114, 114, 111, 114] := List.mem_filter.2 ⟨List.mem_range.2 (by rw [← Tryd.typesSize]; exact e3), e4⟩
    rw [Tryd.errorRow] at hm
    obtain rfl := List.mem_singleton.1 hm
    have hh2 : typeHandle Tryd.prog 27 = .pointer (some ⟨13, 27, none⟩) := by kernel_rfl
    rw [hh2] at e5
    simpa using World.var?_cell Tryd.gHandle e5 0

theorem door_met13 (os : Os) (args : Array Value) : laidMetH Tryd.prog laid13 ((World.doorLaid Tryd.prog 400 os).forCall (fun _ _ => 0) ⟨#[], args, []⟩).memory :=
  laidMetH_of_parts3 (fuel := 8) (laidMet_of_run' 8 (by kernel_rfl) (by kernel_rfl)) (by kernel_rfl) (by kernel_rfl)
end Go.Proofs.YtlmampcdflbifaeDoor

namespace Go.Num

/-- The bytes of n, with fuel: at most k + 1 bytes. -/
def encF : Nat → Nat → List UInt8
  | 0, n => [UInt8.ofNat n]
  | k + 1, n => if n < 128 then [UInt8.ofNat n] else UInt8.ofNat (n % 128 + 128) :: encF k (n / 128)
def enc (n : Nat) : List UInt8 := encF 5 n

theorem encF_length_pos (k n : Nat) : 0 < (encF k n).length := by
  cases k with
  | zero => simp [encF]
  | succ k => unfold encF; split <;> simp

theorem encF_length_le (k n : Nat) : (encF k n).length ≤ k + 1 := by
  induction k generalizing n with
  | zero => simp [encF]
  | succ k ih => unfold encF; split
                 · simp
                 · have := ih (n / 128); simp; omega

theorem enc_length_le (n : Nat) : (enc n).length ≤ 6 := encF_length_le 5 n

/-- A small number is one byte, whatever the fuel. -/
theorem encF_small (k n : Nat) (h : n < 128) : encF k n = [UInt8.ofNat n] := by
  cases k with
  | zero => rfl
  | succ k => unfold encF; rw [if_pos h]
theorem encF_big (k n : Nat) (h : 128 ≤ n) : encF (k + 1) n = UInt8.ofNat (n % 128 + 128) :: encF k (n / 128) := by
  rw [encF, if_neg (by omega)]

theorem toNat_ofNat (n : Nat) (h : n < 256) : (UInt8.ofNat n).toNat = n := by
  rw [UInt8.toNat_ofNat']; omega

/-- The reader's loop: fuel, what is left, the sum so far, the place. Answers the number and the last byte's place. -/
def scan : Nat → List UInt8 → Nat → Nat → Option (Nat × Nat)
  | 0, _, _, _ => none
  | _ + 1, [], _, _ => none
  | k + 1, b :: r, acc, i => if b.toNat < 128 then some (acc + b.toNat % 128 * 128 ^ i, i) else scan k r (acc + b.toNat % 128 * 128 ^ i) (i + 1)

theorem scan_enc (k : Nat) : ∀ (n acc i : Nat) (more : List UInt8), n < 128 ^ (k + 1) →
    scan (k + 1) (encF k n ++ more) acc i = some (acc + n * 128 ^ i, i + (encF k n).length - 1) := by
  induction k with
  | zero =>
    intro n acc i more h
    have h' : n < 128 := by simpa using h
    simp [encF, scan, toNat_ofNat n (by omega), h', Nat.mod_eq_of_lt h']
  | succ k ih =>
    intro n acc i more h
    by_cases hn : n < 128
    · rw [encF_small _ _ hn]
      simp [scan, toNat_ofNat n (by omega), hn, Nat.mod_eq_of_lt hn]
    · rw [encF_big _ _ (by omega)]
      have hb : (UInt8.ofNat (n % 128 + 128)).toNat = n % 128 + 128 := toNat_ofNat _ (by omega)
      have hd : n / 128 < 128 ^ (k + 1) := by
        rw [Nat.div_lt_iff_lt_mul (by omega)]
        rw [Nat.pow_succ] at h; exact h
      rw [List.cons_append, scan, hb, if_neg (by omega), ih _ _ _ _ hd]
      have e1 : (n % 128 + 128) % 128 = n % 128 := by omega
      have e2 : n = n % 128 + 128 * (n / 128) := by omega
      have hp := encF_length_pos k (n / 128)
      rw [e1, Nat.pow_succ]
      congr 2
      · generalize 128 ^ i = p
        conv => rhs; rw [e2]
        rw [Nat.add_mul, Nat.add_assoc]
        congr 2
        rw [Nat.mul_comm p 128, ← Nat.mul_assoc, Nat.mul_comm (n / 128) 128]
      · simp

theorem encF_last (k : Nat) : ∀ n, n < 128 ^ (k + 1) → 0 < n → (encF k n)[(encF k n).length - 1]? ≠ some 0 := by
  induction k with
  | zero =>
    intro n h hn
    have h' : n < 128 := by simpa using h
    simp only [encF, List.length_singleton, Nat.sub_self]
    intro e
    have e' : UInt8.ofNat n = 0 := by simpa using e
    have := toNat_ofNat n (by omega)
    rw [e'] at this
    simp at this; omega
  | succ k ih =>
    intro n h hn
    by_cases hs : n < 128
    · rw [encF_small _ _ hs]
      intro e
      have e' : UInt8.ofNat n = 0 := by simpa using e
      have := toNat_ofNat n (by omega)
      rw [e'] at this
      simp at this; omega
    · rw [encF_big _ _ (by omega)]
      have hd : n / 128 < 128 ^ (k + 1) := by
        rw [Nat.div_lt_iff_lt_mul (by omega)]
        rw [Nat.pow_succ] at h; exact h
      have hp := encF_length_pos k (n / 128)
      have := ih (n / 128) hd (by omega)
      have e : (UInt8.ofNat (n % 128 + 128) :: encF k (n / 128)).length - 1 = ((encF k (n / 128)).length - 1) + 1 := by simp; omega
      rw [e, List.getElem?_cons_succ]
      exact this

/-- What Get answers: an error's number, or the number and how many bytes it took. -/
def dec (s : List UInt8) : Except Nat (Nat × Nat) :=
  match scan 6 s 0 0 with
  | none => .error 1
  | some (n, i) => if 0 < i ∧ s[i]? = some 0 then .error 1 else if 1099511627776 < n then .error 2 else .ok (n, i + 1)

theorem dec_enc (n : Nat) (h : n ≤ 1099511627776) (more : List UInt8) : dec (enc n ++ more) = .ok (n, (enc n).length) := by
  have hs := scan_enc 5 n 0 0 more (by omega)
  have hp := encF_length_pos 5 n
  unfold dec enc
  rw [hs]
  have hz : ¬ (0 < 0 + (encF 5 n).length - 1 ∧ (encF 5 n ++ more)[0 + (encF 5 n).length - 1]? = some 0) := by
    rintro ⟨h1, h2⟩
    rw [Nat.zero_add] at h1 h2
    rw [List.getElem?_append_left (by omega)] at h2
    refine encF_last 5 n (by omega) ?_ h2
    rcases Nat.eq_zero_or_pos n with e | e
    · subst e; exact absurd h1 (by decide)
    · exact e
  simp only [if_neg hz]
  rw [if_neg (by omega)]
  simp
  omega

/-- No number's bytes begin another one's. -/
theorem enc_prefix (n m : Nat) (hn : n ≤ 1099511627776) (hm : m ≤ 1099511627776) (h : (enc m).take (enc n).length = enc n) : n = m := by
  have e : enc m = enc n ++ (enc m).drop (enc n).length := by
    conv => lhs; rw [← List.take_append_drop (enc n).length (enc m)]
    rw [h]
  have h1 := dec_enc m hm []
  rw [List.append_nil, e, dec_enc n hn] at h1
  simp at h1
  exact h1.1

end Go.Num

namespace Go.Sign
open Go.Num

/-- A block: how many bytes, and both sums. -/
structure Blk where
  n : Int
  weak : Int
  strong : Nat
deriving DecidableEq, Inhabited

/-- May it stand there? -/
def fits (size : Int) (last : Bool) (b : Blk) : Bool :=
  (b.n == size || (last && decide (1 ≤ b.n) && decide (b.n < size))) && (decide (0 ≤ b.weak) && decide (b.weak < 4294967296))

/-- The first wrong one, from place i on, with so many bytes ahead: its place and an error's number. -/
def scanW (size : Int) : List Blk → Nat → Int → Option (Nat × Nat)
  | [], _, _ => none
  | b :: r, i, all => if fits size r.isEmpty b then (if 4000 < all + b.n then some (i, 8) else scanW size r (i + 1) (all + b.n)) else some (i, 2)

/-- An error's number (0: none) and its place (-1: nowhere). -/
def fault (l : List Blk) (size : Int) : Nat × Int :=
  if 1 ≤ size ∧ size ≤ 64 then (match scanW size l 0 0 with | none => (0, -1) | some (i, c) => (c, i)) else (2, -1)

theorem fits_bounds {size : Int} {last : Bool} {b : Blk} (h : fits size last b = true) (h1 : 1 ≤ size) : 1 ≤ b.n ∧ b.n ≤ size ∧ 0 ≤ b.weak ∧ b.weak < 4294967296 := by
  simp only [fits, Bool.and_eq_true, Bool.or_eq_true, beq_iff_eq, decide_eq_true_eq] at h
  obtain ⟨h | h, h2, h3⟩ := h <;> omega

/-- Of right blocks each is right, and they are no more than their bytes. -/
theorem scanW_none {size : Int} (h1 : 1 ≤ size) : ∀ (l : List Blk) (i : Nat) (all : Int), scanW size l i all = none → 
    (∀ b ∈ l, 1 ≤ b.n ∧ b.n ≤ size ∧ 0 ≤ b.weak ∧ b.weak < 4294967296) ∧ (l ≠ [] → all + l.length ≤ 4000)
  | [], _, _, _ => ⟨fun b hb => (by cases hb), fun h => absurd rfl h⟩
  | b :: r, i, all, h => by
    rw [scanW] at h
    split at h
    · rename_i hf
      split at h
      · cases h
      · rename_i hn
        have hb := fits_bounds hf h1
        have ⟨a1, a2⟩ := scanW_none h1 r (i + 1) (all + b.n) h
        refine ⟨fun x hx => ?_, fun _ => ?_⟩
        · rcases List.mem_cons.1 hx with rfl | hx
          · exact hb
          · exact a1 x hx
        · cases r with
          | nil => simp; omega
          | cons c r => have := a2 (by simp); simp at this ⊢; omega
    · cases h

/-- What is wrong is ErrBound or ErrFull. -/
theorem scanW_code {size : Int} : ∀ (l : List Blk) (i : Nat) (all : Int) (k c : Nat), scanW size l i all = some (k, c) → (c = 2 ∨ c = 8) ∧ k < i + l.length
  | [], _, _, _, _, h => by cases h
  | b :: r, i, all, k, c, h => by
    rw [scanW] at h
    split at h
    · split at h
      · cases h; simp
      · have := scanW_code r _ _ _ _ h; simp; omega
    · cases h; simp

theorem fault_zero {l : List Blk} {size : Int} (h : (fault l size).1 = 0) : (1 ≤ size ∧ size ≤ 64) ∧ scanW size l 0 0 = none := by
  unfold fault at h
  split at h
  · rename_i hs
    refine ⟨hs, ?_⟩
    split at h
    · assumption
    · rename_i i c hc
      have : c ≠ 0 := by rcases (scanW_code _ _ _ _ _ hc).1 with rfl | rfl <;> decide
      exact absurd h this
  · cases h

/-! ### Bytes -/
def encB (b : Blk) : List UInt8 := enc b.n.toNat ++ enc b.weak.toNat ++ enc b.strong
def encBs (l : List Blk) : List UInt8 := (l.map encB).flatten
theorem encBs_cons (b : Blk) (l : List Blk) : encBs (b :: l) = encB b ++ encBs l := by simp [encBs]
theorem encBs_snoc (l : List Blk) (b : Blk) : encBs (l ++ [b]) = encBs l ++ encB b := by simp [encBs]
def encS (l : List Blk) (size : Nat) : List UInt8 := enc size ++ enc l.length ++ encBs l
theorem encB_length (b : Blk) : (encB b).length ≤ 18 := by
  have := enc_length_le b.n.toNat; have := enc_length_le b.weak.toNat; have := enc_length_le b.strong
  simp [encB]; omega
theorem encBs_length (l : List Blk) : (encBs l).length ≤ 18 * l.length := by
  induction l with
  | nil => simp [encBs]
  | cons b l ih => rw [encBs_cons, List.length_append, List.length_cons]; have := encB_length b; omega

/-! ### Reading -/
/-- A number, and what is left. -/
def num (s : List UInt8) : Except Nat (Nat × List UInt8) :=
  match dec s with
  | .ok (n, k) => .ok (n, s.drop k)
  | .error c => .error c
def rdB (s : List UInt8) : Except Nat (Blk × List UInt8) :=
  match num s with
  | .error c => .error c
  | .ok (a, s1) =>
    match num s1 with
    | .error c => .error c
    | .ok (b, s2) =>
      match num s2 with
      | .error c => .error c
      | .ok (c, s3) => if 4294967295 < c then .error 1 else .ok (⟨a, b, c⟩, s3)
def rdBs : Nat → List UInt8 → Except Nat (List Blk × List UInt8)
  | 0, s => .ok ([], s)
  | k + 1, s =>
    match rdB s with
    | .error c => .error c
    | .ok (b, s1) =>
      match rdBs k s1 with
      | .error c => .error c
      | .ok (l, s2) => .ok (b :: l, s2)
/-- Just these bytes, but not looked at. -/
def rdAll (s : List UInt8) : Except Nat (List Blk × Nat) :=
  match num s with
  | .error c => .error c
  | .ok (size, s1) =>
    match num s1 with
    | .error c => .error c
    | .ok (many, s2) =>
      match rdBs many s2 with
      | .error c => .error c
      | .ok (l, s3) => if s3 = [] then .ok (l, size) else .error 1
def rdS (s : List UInt8) : Except Nat (List Blk × Nat) :=
  match rdAll s with
  | .error c => .error c
  | .ok (l, size) => if (fault l size).1 = 0 then .ok (l, size) else .error (fault l size).1

theorem num_enc (n : Nat) (h : n ≤ 1099511627776) (more : List UInt8) : num (enc n ++ more) = .ok (n, more) := by
  rw [num, dec_enc n h more]
  simp
theorem rdB_enc (b : Blk) (more : List UInt8) (h0 : 0 ≤ b.n) (h1 : b.n ≤ 64) (h2 : 0 ≤ b.weak) (h3 : b.weak < 4294967296) (h4 : b.strong < 4294967296) : rdB (encB b ++ more) = .ok (b, more) := by
  have e : encB b ++ more = enc b.n.toNat ++ (enc b.weak.toNat ++ (enc b.strong ++ more)) := by simp [encB]
  rw [e, rdB, num_enc _ (by omega)]
  simp only []
  rw [num_enc _ (by omega)]
  simp only []
  rw [num_enc _ (by omega)]
  simp only []
  rw [if_neg (by omega)]
  have e1 : (b.n.toNat : Int) = b.n := by omega
  have e2 : (b.weak.toNat : Int) = b.weak := by omega
  rw [e1, e2]
theorem rdBs_enc (l : List Blk) (more : List UInt8) (h : ∀ b ∈ l, (0 ≤ b.n ∧ b.n ≤ 64) ∧ (0 ≤ b.weak ∧ b.weak < 4294967296) ∧ b.strong < 4294967296) : rdBs l.length (encBs l ++ more) = .ok (l, more) := by
  induction l with
  | nil => simp [rdBs, encBs]
  | cons b l ih =>
    obtain ⟨⟨h0, h1⟩, ⟨h2, h3⟩, h4⟩ := h b (List.mem_cons_self ..)
    rw [encBs_cons, List.append_assoc, List.length_cons, rdBs, rdB_enc b _ h0 h1 h2 h3 h4]
    simp only []
    rw [ih fun x hx => h x (List.mem_cons_of_mem _ hx)]
/-- A signature is read as it was written. -/
theorem rdS_enc (l : List Blk) (size : Nat) (hf : (fault l size).1 = 0) (h : ∀ b ∈ l, b.strong < 4294967296) : rdS (encS l size) = .ok (l, size) := by
  obtain ⟨hs, hn⟩ := fault_zero hf
  have ⟨h1, h2⟩ := scanW_none hs.1 l 0 0 hn
  have hl : l.length ≤ 4000 := by
    cases l with
    | nil => simp
    | cons b l => have := h2 (by simp); omega
  have e : encS l size = enc size ++ (enc l.length ++ (encBs l ++ [])) := by simp [encS]
  have : rdAll (encS l size) = .ok (l, size) := by
    rw [e, rdAll, num_enc _ (by omega)]
    simp only []
    rw [num_enc _ (by omega)]
    simp only []
    rw [rdBs_enc l [] fun b hb => ⟨⟨by have := h1 b hb; omega, by have := h1 b hb; omega⟩, ⟨(h1 b hb).2.2.1, (h1 b hb).2.2.2⟩, h b hb⟩]
    simp
  rw [rdS, this]
  simp only [hf, if_true]

/-! ### One block more -/
/-- Blocks that were read already, ahead of what is read from here. -/
def ahead (l : List Blk) : Except Nat (List Blk × List UInt8) → Except Nat (List Blk × List UInt8)
  | .error c => .error c
  | .ok (m, s) => .ok (l ++ m, s)
theorem ahead_nil (x : Except Nat (List Blk × List UInt8)) : ahead [] x = x := by
  cases x with
  | error c => rfl
  | ok p => obtain ⟨m, s⟩ := p; rfl
theorem ahead_ok {l : List Blk} {k : Nat} {s s1 : List UInt8} {b : Blk} (h : rdB s = .ok (b, s1)) : ahead l (rdBs (k + 1) s) = ahead (l ++ [b]) (rdBs k s1) := by
  rw [rdBs, h]
  simp only []
  cases rdBs k s1 with
  | error c => rfl
  | ok p => obtain ⟨m, s⟩ := p; simp [ahead]
theorem ahead_error {l : List Blk} {k : Nat} {s : List UInt8} {c : Nat} (h : rdB s = .error c) : ahead l (rdBs (k + 1) s) = .error c := by
  rw [rdBs, h]; rfl
end Go.Sign

namespace Go.Delta
open Go.Num Go.Sign
open Go.Proofs.YtlmampcdflbifaeDoor (str strL lenL str_len ext_of_list appendL)

/-- An op. -/
structure Opx where
  kind : ByteArray
  at_ : Int
  n : Int
  data : ByteArray
deriving DecidableEq, Inhabited

def kCopy : ByteArray := ⟨#[99, 111, 112, 121]⟩
def kData : ByteArray := ⟨#[100, 97, 116, 97]⟩
def noBytes : ByteArray := ⟨#[]⟩
theorem kinds_ne : kCopy ≠ kData := by decide
def copyOp (k n : Int) : Opx := ⟨kCopy, k, n, noBytes⟩
def dataOp (l : List UInt8) : Opx := ⟨kData, 0, 0, str l⟩

/-! ### What a file comes to -/
def addCopy (out : List Opx) (k : Int) : List Opx :=
  match out.getLast? with
  | some o => if o.kind = kCopy ∧ o.at_ + o.n = k then out.dropLast ++ [⟨o.kind, o.at_, o.n + 1, o.data⟩] else out ++ [copyOp k 1]
  | none => out ++ [copyOp k 1]
def addData (out : List Opx) (l : List UInt8) : List Opx := if l = [] then out else out ++ [dataOp l]
def addByte (out : List Opx) (b : UInt8) : List Opx :=
  match out.getLast? with
  | some o => if o.kind = kData then out.dropLast ++ [⟨o.kind, o.at_, o.n, o.data ++ str [b]⟩] else out ++ [dataOp [b]]
  | none => out ++ [dataOp [b]]
theorem addCopy_nil (k : Int) : addCopy [] k = [copyOp k 1] := rfl
theorem addCopy_snoc (r : List Opx) (o : Opx) (k : Int) : addCopy (r ++ [o]) k = if o.kind = kCopy ∧ o.at_ + o.n = k then r ++ [⟨o.kind, o.at_, o.n + 1, o.data⟩] else r ++ [o] ++ [copyOp k 1] := by
  simp [addCopy]
theorem addByte_nil (b : UInt8) : addByte [] b = [dataOp [b]] := rfl
theorem addByte_snoc (r : List Opx) (o : Opx) (b : UInt8) : addByte (r ++ [o]) b = if o.kind = kData then r ++ [⟨o.kind, o.at_, o.n, o.data ++ str [b]⟩] else r ++ [o] ++ [dataOp [b]] := by
  simp [addByte]

section
variable (find : List UInt8 → Int) (size : Nat)

/-- As the document tells it: from what is left, behind the ops so far. -/
def gd : List UInt8 → List Opx → List Opx
  | [], out => out
  | b :: r, out => if 0 ≤ find ((b :: r).take size) then gd (r.drop (size - 1)) (addCopy out (find ((b :: r).take size))) else gd r (addByte out b)
termination_by l => l.length
decreasing_by all_goals (simp; try omega)

/-- As the program does it: bytes that are new wait till a block is found. -/
def pd : List UInt8 → List UInt8 → List Opx → List Opx
  | [], pend, out => addData out pend
  | b :: r, pend, out => if 0 ≤ find ((b :: r).take size) then pd (r.drop (size - 1)) [] (addCopy (addData out pend) (find ((b :: r).take size))) else pd r (pend ++ [b]) out
termination_by l => l.length
decreasing_by all_goals (simp; try omega)

def NotData (out : List Opx) : Prop := ∀ o, out.getLast? = some o → o.kind ≠ kData
theorem notData_nil : NotData [] := fun o h => by simp at h
theorem notData_copy (out : List Opx) (k : Int) : NotData (addCopy out k) := by
  intro o h
  have aux : ∀ x : Opx, x.kind = kCopy → o = x → o.kind ≠ kData := fun x hx e => by rw [e, hx]; exact kinds_ne
  unfold addCopy at h
  split at h
  · split at h
    · rename_i hc
      simp at h
      subst h
      simp only
      rw [hc.1]; exact kinds_ne
    · simp at h; exact aux _ rfl h.symm
  · simp at h; exact aux _ rfl h.symm
theorem addByte_data {out : List Opx} (h : NotData out) (l : List UInt8) (b : UInt8) : addByte (addData out l) b = addData out (l ++ [b]) := by
  unfold addData
  rw [if_neg (show ¬ l ++ [b] = [] by simp)]
  by_cases hl : l = []
  · subst hl
    rw [if_pos rfl, List.nil_append]
    rcases List.eq_nil_or_concat out with rfl | ⟨r, o, rfl⟩
    · rfl
    · rw [List.concat_eq_append] at h ⊢
      rw [addByte_snoc, if_neg (h o (by simp))]
  · rw [if_neg hl, addByte_snoc, if_pos (show (dataOp l).kind = kData from rfl)]
    simp only [dataOp]
    rw [Go.Proofs.YtlmampcdflbifaeDoor.str_app]
theorem pd_gd : ∀ (m : Nat) (rest pend : List UInt8) (out : List Opx), rest.length ≤ m → NotData out → pd find size rest pend out = gd find size rest (addData out pend) := by
  intro m
  induction m with
  | zero =>
    intro rest pend out hl h
    have : rest = [] := List.length_eq_zero_iff.1 (by omega)
    subst this
    rw [pd, gd]
  | succ m ih =>
    intro rest pend out hl h
    cases rest with
    | nil => rw [pd, gd]
    | cons b r =>
      rw [List.length_cons] at hl
      rw [pd, gd]
      split
      · rw [ih _ _ _ (by simp; omega) (notData_copy _ _)]
        simp [addData]
      · rw [ih _ _ _ (by omega) h, addByte_data h]
theorem pd_all (s : List UInt8) : pd find size s [] [] = gd find size s [] := by
  rw [pd_gd find size s.length s [] [] (Nat.le_refl _) notData_nil]
  simp [addData]
end

/-! ### What is wrong with an op -/
def opFault (o : Opx) : Nat :=
  if o.kind = kCopy then (if o.data ≠ noBytes then 3 else if 0 ≤ o.at_ ∧ o.at_ ≤ 4000 ∧ 1 ≤ o.n ∧ o.n ≤ 4000 then 0 else 2)
  else if o.kind = kData then (if o.at_ = 0 ∧ o.n = 0 then (if 1 ≤ o.data.size ∧ o.data.size ≤ 4000 then 0 else 2) else 3)
  else 4
theorem opFault_code (o : Opx) : opFault o = 0 ∨ opFault o = 2 ∨ opFault o = 3 ∨ opFault o = 4 := by
  unfold opFault
  repeat' split
  all_goals simp
/-- The first wrong one from place i on: its place and an error's number. -/
def scanO : List Opx → Nat → Option (Nat × Nat)
  | [], _ => none
  | o :: r, i => if opFault o = 0 then scanO r (i + 1) else some (i, opFault o)
theorem scanO_none : ∀ (l : List Opx) (i : Nat), scanO l i = none ↔ ∀ o ∈ l, opFault o = 0
  | [], i => by simp [scanO]
  | o :: r, i => by
    rw [scanO]
    split
    · rename_i h; rw [scanO_none r]; simp [h]
    · rename_i h; simp [h]
theorem scanO_code : ∀ (l : List Opx) (i k c : Nat), scanO l i = some (k, c) → (c = 2 ∨ c = 3 ∨ c = 4) ∧ k < i + l.length
  | [], _, _, _, h => by cases h
  | o :: r, i, k, c, h => by
    rw [scanO] at h
    split at h
    · have := scanO_code r _ _ _ h; simp; omega
    · rename_i hz
      cases h
      have := opFault_code o
      simp; omega
theorem scanO_step (l : List Opx) (j : Nat) (h : j < l.length) : scanO (l.drop j) j = if opFault l[j] = 0 then scanO (l.drop (j + 1)) (j + 1) else some (j, opFault l[j]) := by
  rw [List.drop_eq_getElem_cons h, scanO]
/-- An error's number (0: none) and its place (-1: nowhere). -/
def faultO (l : List Opx) : Nat × Int := match scanO l 0 with | none => (0, -1) | some (i, c) => (c, i)
theorem faultO_zero {l : List Opx} (h : (faultO l).1 = 0) : ∀ o ∈ l, opFault o = 0 := by
  rw [← scanO_none l 0]
  unfold faultO at h
  split at h
  · assumption
  · rename_i i c hc
    have := (scanO_code _ _ _ _ hc).1
    simp at h; omega
theorem faultO_of {l : List Opx} (h : ∀ o ∈ l, opFault o = 0) : faultO l = (0, -1) := by
  unfold faultO
  rw [(scanO_none l 0).2 h]

/-- A right op is a copy, or data. -/
theorem op_right {o : Opx} (h : opFault o = 0) : (∃ a n : Nat, o = copyOp a n ∧ a ≤ 4000 ∧ 1 ≤ n ∧ n ≤ 4000) ∨ (∃ l : List UInt8, o = dataOp l ∧ 1 ≤ l.length ∧ l.length ≤ 4000) := by
  obtain ⟨k, a, n, d⟩ := o
  unfold opFault at h
  simp only at h
  split at h
  · rename_i hk
    split at h
    · cases h
    · rename_i hd
      split at h
      · rename_i hb
        left
        refine ⟨a.toNat, n.toNat, ?_, by omega, by omega, by omega⟩
        have hd' : d = noBytes := Classical.byContradiction fun e => hd e
        subst hd' hk
        simp only [copyOp, Opx.mk.injEq, true_and, and_true]
        omega
      · cases h
  · split at h
    · rename_i hk
      split at h
      · rename_i h0
        split at h
        · rename_i hb
          right
          obtain ⟨rfl, rfl⟩ := h0
          subst hk
          refine ⟨d.data.toList, ?_, by rw [lenL]; exact hb.1, by rw [lenL]; exact hb.2⟩
          simp only [dataOp, Opx.mk.injEq, true_and]
          exact ext_of_list (by rw [strL])
        · cases h
      · cases h
    · cases h
theorem opFault_copy {a n : Nat} (h : a ≤ 4000) (h1 : 1 ≤ n) (h2 : n ≤ 4000) : opFault (copyOp a n) = 0 := by
  unfold opFault copyOp
  simp only
  rw [if_pos trivial, if_neg (by simp), if_pos (by omega)]
theorem opFault_data {l : List UInt8} (h1 : 1 ≤ l.length) (h2 : l.length ≤ 4000) : opFault (dataOp l) = 0 := by
  unfold opFault dataOp
  simp only
  rw [if_neg (fun e => kinds_ne e.symm), if_pos trivial, if_pos ⟨trivial, trivial⟩, if_pos (by rw [str_len]; omega)]

/-! ### Bytes -/
def encO (o : Opx) : List UInt8 := if o.kind = kData then enc 1 ++ (enc o.data.size ++ o.data.data.toList) else enc 0 ++ (enc o.at_.toNat ++ enc o.n.toNat)
def encOs (l : List Opx) : List UInt8 := (l.map encO).flatten
theorem encOs_snoc (l : List Opx) (o : Opx) : encOs (l ++ [o]) = encOs l ++ encO o := by simp [encOs]
theorem encOs_cons (o : Opx) (l : List Opx) : encOs (o :: l) = encO o ++ encOs l := by simp [encOs]
def encD (l : List Opx) : List UInt8 := enc l.length ++ encOs l
theorem encO_copy (a n : Nat) : encO (copyOp a n) = enc 0 ++ (enc a ++ enc n) := by
  unfold encO copyOp
  simp only
  rw [if_neg kinds_ne]
  simp
theorem encO_data (l : List UInt8) : encO (dataOp l) = enc 1 ++ (enc l.length ++ l) := by
  unfold encO dataOp
  simp only
  rw [if_pos trivial, str_len, strL]
theorem encO_length (o : Opx) : (encO o).length ≤ 18 + o.data.size := by
  have := enc_length_le o.data.size; have := enc_length_le 1; have := enc_length_le 0; have := enc_length_le o.at_.toNat; have := enc_length_le o.n.toNat
  unfold encO
  split
  · have := lenL o.data; simp at *; omega
  · simp; omega

/-- Bytes of all data. -/
def cost : List Opx → Nat
  | [] => 0
  | o :: r => o.data.size + cost r
theorem cost_append (a b : List Opx) : cost (a ++ b) = cost a + cost b := by
  induction a with
  | nil => simp [cost]
  | cons o r ih => rw [List.cons_append, cost, cost, ih]; omega
theorem cost_snoc (a : List Opx) (o : Opx) : cost (a ++ [o]) = cost a + o.data.size := by rw [cost_append]; simp [cost]
theorem encOs_length (l : List Opx) : (encOs l).length ≤ 18 * l.length + cost l := by
  induction l with
  | nil => simp [encOs]
  | cons o l ih => rw [encOs_cons, List.length_append, List.length_cons, cost]; have := encO_length o; omega

/-! ### Reading -/
/-- A text behind its length, and what is left. -/
def txt (s : List UInt8) : Except Nat (List UInt8 × List UInt8) :=
  match num s with
  | .error c => .error c
  | .ok (n, s1) => if 20000 < n then .error 2 else if s1.length < n then .error 1 else .ok (s1.take n, s1.drop n)
def rdO (s : List UInt8) : Except Nat (Opx × List UInt8) :=
  match num s with
  | .error c => .error c
  | .ok (k, s1) =>
    if k = 1 then (match txt s1 with | .error c => .error c | .ok (d, s2) => .ok (dataOp d, s2))
    else if k = 0 then (match num s1 with | .error c => .error c | .ok (a, s2) => (match num s2 with | .error c => .error c | .ok (n, s3) => .ok (copyOp a n, s3)))
    else .error 1
def rdOs : Nat → List UInt8 → Except Nat (List Opx × List UInt8)
  | 0, s => .ok ([], s)
  | k + 1, s =>
    match rdO s with
    | .error c => .error c
    | .ok (b, s1) =>
      match rdOs k s1 with
      | .error c => .error c
      | .ok (l, s2) => .ok (b :: l, s2)
/-- Just these bytes, but not looked at. -/
def rdA (s : List UInt8) : Except Nat (List Opx) :=
  if 20000 < s.length then .error 2 else
  match num s with
  | .error c => .error c
  | .ok (many, s1) =>
    match rdOs many s1 with
    | .error c => .error c
    | .ok (l, s2) => if s2 = [] then .ok l else .error 1
def rdD (s : List UInt8) : Except Nat (List Opx) :=
  match rdA s with
  | .error c => .error c
  | .ok l => if (faultO l).1 = 0 then .ok l else .error (faultO l).1

theorem txt_enc (l more : List UInt8) (h : l.length ≤ 20000) : txt (enc l.length ++ (l ++ more)) = .ok (l, more) := by
  rw [txt, num_enc _ (by omega)]
  simp only []
  rw [if_neg (by omega), if_neg (by simp)]
  simp
theorem rdO_enc (o : Opx) (more : List UInt8) (h : opFault o = 0) : rdO (encO o ++ more) = .ok (o, more) := by
  rcases op_right h with ⟨a, n, rfl, h1, h2, h3⟩ | ⟨l, rfl, h1, h2⟩
  · rw [encO_copy, List.append_assoc, List.append_assoc, rdO, num_enc _ (by omega)]
    simp only []
    rw [if_neg (by decide), if_pos trivial, num_enc _ (by omega)]
    simp only []
    rw [num_enc _ (by omega)]
  · rw [encO_data, List.append_assoc, List.append_assoc, rdO, num_enc _ (by omega)]
    simp only []
    rw [if_pos trivial, txt_enc _ _ (by omega)]
theorem rdOs_enc (l : List Opx) (more : List UInt8) (h : ∀ o ∈ l, opFault o = 0) : rdOs l.length (encOs l ++ more) = .ok (l, more) := by
  induction l with
  | nil => simp [rdOs, encOs]
  | cons b l ih =>
    rw [encOs_cons, List.append_assoc, List.length_cons, rdOs, rdO_enc b _ (h b (List.mem_cons_self ..))]
    simp only []
    rw [ih fun x hx => h x (List.mem_cons_of_mem _ hx)]
/-- A delta is read as it was written. -/
theorem rdD_enc (l : List Opx) (h : ∀ o ∈ l, opFault o = 0) (hl : l.length ≤ 1000000) (he : (encD l).length ≤ 20000) : rdD (encD l) = .ok l := by
  have e : encD l = enc l.length ++ (encOs l ++ []) := by simp [encD]
  have : rdA (encD l) = .ok l := by
    rw [rdA, if_neg (by omega), e, num_enc _ (by omega)]
    simp only []
    rw [rdOs_enc l [] h]
    simp
  rw [rdD, this]
  simp only [faultO_of h, if_true]

/-! ### One op more -/
def aheadO (l : List Opx) : Except Nat (List Opx × List UInt8) → Except Nat (List Opx × List UInt8)
  | .error c => .error c
  | .ok (m, s) => .ok (l ++ m, s)
theorem aheadO_nil (x : Except Nat (List Opx × List UInt8)) : aheadO [] x = x := by
  cases x with
  | error c => rfl
  | ok p => obtain ⟨m, s⟩ := p; rfl
theorem aheadO_ok {l : List Opx} {k : Nat} {s s1 : List UInt8} {b : Opx} (h : rdO s = .ok (b, s1)) : aheadO l (rdOs (k + 1) s) = aheadO (l ++ [b]) (rdOs k s1) := by
  rw [rdOs, h]
  simp only []
  cases rdOs k s1 with
  | error c => rfl
  | ok p => obtain ⟨m, s⟩ := p; simp [aheadO]
theorem aheadO_error {l : List Opx} {k : Nat} {s : List UInt8} {c : Nat} (h : rdO s = .error c) : aheadO l (rdOs (k + 1) s) = .error c := by
  rw [rdOs, h]; rfl
end Go.Delta

namespace Go.Crc

def sh (c : Nat) : Nat := c / 2 ^^^ 3988292384 * (c % 2)
def shs : Nat → Nat → Nat
  | 0, c => c
  | k + 1, c => sh (shs k c)
def run (c : Nat) : List UInt8 → Nat
  | [] => c
  | b :: r => run (shs 8 (c ^^^ b.toNat)) r
def ones : Nat := 4294967295
def crc (c : Nat) (l : List UInt8) : Nat := run (c ^^^ ones) l ^^^ ones

theorem xor_mod2 (a b : Nat) : (a ^^^ b) % 2 = (a + b) % 2 := by
  have h := Nat.testBit_xor a b 0
  rw [Nat.testBit_zero, Nat.testBit_zero, Nat.testBit_zero] at h
  rcases Nat.mod_two_eq_zero_or_one (a ^^^ b) with e | e <;> rcases Nat.mod_two_eq_zero_or_one a with ha | ha <;> rcases Nat.mod_two_eq_zero_or_one b with hb | hb <;> simp [e, ha, hb] at h <;> omega

theorem xor_ac (a b c d : Nat) : (a ^^^ b) ^^^ (c ^^^ d) = (a ^^^ c) ^^^ (b ^^^ d) := by
  rw [Nat.xor_assoc, ← Nat.xor_assoc b c d, Nat.xor_comm b c, Nat.xor_assoc c b d, ← Nat.xor_assoc]
theorem sh_xor (a b : Nat) : sh (a ^^^ b) = sh a ^^^ sh b := by
  unfold sh
  rw [Nat.xor_div_two, xor_ac, xor_mod2]
  congr 1
  rcases Nat.mod_two_eq_zero_or_one a with ha | ha <;> rcases Nat.mod_two_eq_zero_or_one b with hb | hb <;> simp [Nat.add_mod, ha, hb]
theorem sh_zero : sh 0 = 0 := rfl
theorem sh_lt (c : Nat) (h : c < 2 ^ 32) : sh c < 2 ^ 32 := by
  unfold sh
  refine Nat.xor_lt_two_pow (by omega) ?_
  have := Nat.mod_two_eq_zero_or_one c
  rcases this with e | e <;> rw [e] <;> decide
theorem sh_ker (c : Nat) (h : c < 2 ^ 32) (e : sh c = 0) : c = 0 := by
  unfold sh at e
  have e' : c / 2 = 3988292384 * (c % 2) := by
    have h := congrArg (· ^^^ 3988292384 * (c % 2)) e
    simp only [Nat.xor_assoc, Nat.xor_self, Nat.xor_zero, Nat.zero_xor] at h
    exact h
  omega

theorem shs_xor (k a b : Nat) : shs k (a ^^^ b) = shs k a ^^^ shs k b := by
  induction k with
  | zero => rfl
  | succ k ih => rw [shs, shs, shs, ih, sh_xor]
theorem shs_zero (k : Nat) : shs k 0 = 0 := by
  induction k with
  | zero => rfl
  | succ k ih => rw [shs, ih, sh_zero]
theorem shs_lt (k c : Nat) (h : c < 2 ^ 32) : shs k c < 2 ^ 32 := by
  induction k with
  | zero => exact h
  | succ k ih => exact sh_lt _ ih
theorem shs_ker (k c : Nat) (h : c < 2 ^ 32) (e : shs k c = 0) : c = 0 := by
  induction k with
  | zero => exact e
  | succ k ih => exact ih (sh_ker _ (shs_lt k c h) e)
theorem shs_add (j k c : Nat) : shs (j + k) c = shs j (shs k c) := by
  induction j with
  | zero => rw [Nat.zero_add]; rfl
  | succ j ih => rw [Nat.succ_add, shs, shs, ih]
theorem shs_inner (k c : Nat) : shs (k + 1) c = shs k (sh c) := shs_add k 1 c

theorem byte_lt32 (b : UInt8) : b.toNat < 2 ^ 32 := by have := b.toNat_lt; omega
theorem run_lt (c : Nat) (l : List UInt8) (h : c < 2 ^ 32) : run c l < 2 ^ 32 := by
  induction l generalizing c with
  | nil => exact h
  | cons b r ih => exact ih _ (shs_lt 8 _ (Nat.xor_lt_two_pow h (byte_lt32 b)))
theorem run_append (c : Nat) (l m : List UInt8) : run c (l ++ m) = run (run c l) m := by
  induction l generalizing c with
  | nil => rfl
  | cons b r ih => exact ih _
theorem run_snoc (c : Nat) (l : List UInt8) (b : UInt8) : run c (l ++ [b]) = shs 8 (run c l ^^^ b.toNat) := by
  rw [run_append]; rfl
theorem run_xor (c d : Nat) (l : List UInt8) : run (c ^^^ d) l = run c l ^^^ shs (8 * l.length) d := by
  induction l generalizing c d with
  | nil => rfl
  | cons b r ih =>
    rw [run, run, show c ^^^ d ^^^ b.toNat = (c ^^^ b.toNat) ^^^ d by rw [Nat.xor_assoc, Nat.xor_comm d, ← Nat.xor_assoc], shs_xor, ih, List.length_cons, Nat.mul_add, shs_add]

theorem ones_lt : ones < 2 ^ 32 := by decide
theorem crc_lt (c : Nat) (l : List UInt8) (h : c < 2 ^ 32) : crc c l < 2 ^ 32 :=
  Nat.xor_lt_two_pow (run_lt _ _ (Nat.xor_lt_two_pow h ones_lt)) ones_lt
theorem xor_twice (a b : Nat) : a ^^^ b ^^^ b = a := by rw [Nat.xor_assoc, Nat.xor_self, Nat.xor_zero]
theorem crc_append (c : Nat) (l m : List UInt8) : crc (crc c l) m = crc c (l ++ m) := by
  unfold crc
  rw [xor_twice, run_append]
theorem crc_nil (c : Nat) : crc c [] = c := xor_twice c ones
/-- What is joined is what is summed at once. -/
theorem crc_join (c : Nat) (l m : List UInt8) : shs (8 * m.length) (crc c l) ^^^ crc 0 m = crc c (l ++ m) := by
  rw [← crc_append]
  generalize crc c l = x
  rw [crc, crc, Nat.zero_xor, Nat.xor_comm x, run_xor, ← Nat.xor_assoc, Nat.xor_comm (shs _ _)]
theorem join_join (j k a b c : Nat) : shs (8 * k) (shs (8 * j) a ^^^ b) ^^^ c = shs (8 * (j + k)) a ^^^ (shs (8 * k) b ^^^ c) := by
  rw [shs_xor, ← shs_add, Nat.xor_assoc, ← Nat.mul_add, Nat.add_comm k j]

/-- A bit that is turned, in a byte: the sums part by what that bit makes over the rest. -/
theorem crc_turn (l m : List UInt8) (b d : UInt8) : crc 0 (l ++ b :: m) ^^^ crc 0 (l ++ d :: m) = shs (8 * m.length) (shs 8 (b.toNat ^^^ d.toNat)) := by
  have key : ∀ c x y : Nat, ∀ m : List UInt8, run (shs 8 (c ^^^ x)) m ^^^ run (shs 8 (c ^^^ y)) m = shs (8 * m.length) (shs 8 (x ^^^ y)) := by
    intro c x y m
    have e : shs 8 (c ^^^ x) = shs 8 (c ^^^ y) ^^^ shs 8 (x ^^^ y) := by
      rw [← shs_xor]
      congr 1
      rw [xor_ac, Nat.xor_self, Nat.xor_zero]
    rw [e, run_xor, Nat.xor_comm, ← Nat.xor_assoc, Nat.xor_self, Nat.zero_xor]
  unfold crc
  rw [run_append, run_append, run, run, xor_ac, Nat.xor_self, Nat.xor_zero, key]
theorem shs_ne (k c : Nat) (h : c < 2 ^ 32) (h0 : c ≠ 0) : shs k c ≠ 0 := fun e => h0 (shs_ker k c h e)
theorem xor_ne {a b : Nat} (h : a ^^^ b ≠ 0) : a ≠ b := fun e => h (by rw [e, Nat.xor_self])

/-- The lowest bit of a number, and the rest of them. -/
theorem low_rest (c : Nat) (h0 : c ≠ 0) (h : c < 2 ^ 32) : c = (c &&& (c - 1)) ^^^ 2 ^ Lib.ctz 32 c ∧ c &&& (c - 1) < c ∧ Lib.ctz 32 c < 32 := by
  obtain ⟨m, hm, hk⟩ := Lib.ctzFrom_spec 32 c (by omega) h
  rw [Lib.ctz, if_neg h0]
  generalize Lib.ctzFrom 32 c = k at *
  have hp : 0 < 2 ^ k := Nat.two_pow_pos k
  have ha : c &&& (c - 1) = 2 ^ k * (2 * m) := by
    rw [hm]
    apply Nat.eq_of_testBit_eq
    intro i
    have e : 2 ^ k * (2 * m + 1) - 1 = 2 ^ k * (2 * m) + (2 ^ k - 1) := by rw [Nat.mul_add, Nat.mul_one]; omega
    rw [e, Nat.testBit_and]
    by_cases hik : i < k
    · have : (2 ^ k * (2 * m + 1)).testBit i = false := by rw [Nat.mul_comm, Nat.testBit_mul_two_pow]; simp; omega
      rw [this, Bool.false_and, Nat.mul_comm, Nat.testBit_mul_two_pow]; simp; omega
    · rw [Nat.testBit_two_pow_mul_add _ (by omega), if_neg hik, Nat.mul_comm, Nat.testBit_mul_two_pow, Nat.mul_comm (2 ^ k), Nat.testBit_mul_two_pow]
      by_cases he : i = k
      · subst he; simp [Nat.testBit_zero]
      · obtain ⟨j, hj⟩ : ∃ j, i - k = j + 1 := ⟨i - k - 1, by omega⟩
        rw [hj, Nat.testBit_succ, Nat.testBit_succ, show (2 * m + 1) / 2 = 2 * m / 2 by omega]
        simp
  refine ⟨?_, ?_, hk⟩
  · rw [ha]
    conv => lhs; rw [hm]
    apply Nat.eq_of_testBit_eq
    intro i
    rw [Nat.testBit_xor, Nat.testBit_two_pow, Nat.mul_comm, Nat.testBit_mul_two_pow, Nat.mul_comm (2 ^ k), Nat.testBit_mul_two_pow]
    by_cases hik : k ≤ i
    · by_cases he : k = i
      · subst he; simp [Nat.testBit_zero]
      · obtain ⟨j, hj⟩ : ∃ j, i - k = j + 1 := ⟨i - k - 1, by omega⟩
        rw [hj, Nat.testBit_succ, Nat.testBit_succ, show (2 * m + 1) / 2 = 2 * m / 2 by omega]
        simp [he]
    · simp [hik]; omega
  · rw [ha, hm, Nat.mul_add]; omega
end Go.Crc
