/-
  Plain mathematics of CRC-32: 'sh' (a bit), 'shs' (many bits), 'run' (a text), 'crc' (what More answers); they are linear over the exclusive or; what is joined; a table of what each bit makes. No program, no walk.
  Files, lines, steps as cells, and small facts on them. No function of the program.
  An error that is nil where there is none.
  The four errors that package files meets: what their variables hold; an error as it lies there.
  What the row's condition on the four errors' variables that package files meets gives the walk; the door's own heap meets it.
-/
import Derived.Lib.TrailingZeros
import Derived.Test.YtbflmkjlpopeaadDoorJoin01
namespace Go.Crc

def sh (c : Nat) : Nat := c / 2 ^^^ 3988292384 * (c % 2)
def shs : Nat → Nat → Nat
  | 0, c => c
  | k + 1, c => sh (shs k c)
def run (c : Nat) : List UInt8 → Nat
  | [] => c
  | b :: r => run (shs 8 (c ^^^ b.toNat)) r
def ones : Nat := 4294967295
def crc (c : Nat) (l : List UInt8) : Nat := run (c ^^^ ones) l ^^^ ones

theorem xor_mod2 (a b : Nat) : (a ^^^ b) % 2 = (a + b) % 2 := by
  have h := Nat.testBit_xor a b 0
  rw [Nat.testBit_zero, Nat.testBit_zero, Nat.testBit_zero] at h
  rcases Nat.mod_two_eq_zero_or_one (a ^^^ b) with e | e <;> rcases Nat.mod_two_eq_zero_or_one a with ha | ha <;> rcases Nat.mod_two_eq_zero_or_one b with hb | hb <;> simp [e, ha, hb] at h <;> omega

theorem xor_ac (a b c d : Nat) : (a ^^^ b) ^^^ (c ^^^ d) = (a ^^^ c) ^^^ (b ^^^ d) := by
  rw [Nat.xor_assoc, ← Nat.xor_assoc b c d, Nat.xor_comm b c, Nat.xor_assoc c b d, ← Nat.xor_assoc]
theorem sh_xor (a b : Nat) : sh (a ^^^ b) = sh a ^^^ sh b := by
  unfold sh
  rw [Nat.xor_div_two, xor_ac, xor_mod2]
  congr 1
  rcases Nat.mod_two_eq_zero_or_one a with ha | ha <;> rcases Nat.mod_two_eq_zero_or_one b with hb | hb <;> simp [Nat.add_mod, ha, hb]
theorem sh_zero : sh 0 = 0 := rfl
theorem sh_lt (c : Nat) (h : c < 2 ^ 32) : sh c < 2 ^ 32 := by
  unfold sh
  refine Nat.xor_lt_two_pow (by omega) ?_
  have := Nat.mod_two_eq_zero_or_one c
  rcases this with e | e <;> rw [e] <;> decide
theorem sh_ker (c : Nat) (h : c < 2 ^ 32) (e : sh c = 0) : c = 0 := by
  unfold sh at e
  have e' : c / 2 = 3988292384 * (c % 2) := by
    have h := congrArg (· ^^^ 3988292384 * (c % 2)) e
    simp only [Nat.xor_assoc, Nat.xor_self, Nat.xor_zero, Nat.zero_xor] at h
    exact h
  omega

theorem shs_xor (k a b : Nat) : shs k (a ^^^ b) = shs k a ^^^ shs k b := by
  induction k with
  | zero => rfl
  | succ k ih => rw [shs, shs, shs, ih, sh_xor]
theorem shs_zero (k : Nat) : shs k 0 = 0 := by
  induction k with
  | zero => rfl
  | succ k ih => rw [shs, ih, sh_zero]
theorem shs_lt (k c : Nat) (h : c < 2 ^ 32) : shs k c < 2 ^ 32 := by
  induction k with
  | zero => exact h
  | succ k ih => exact sh_lt _ ih
theorem shs_ker (k c : Nat) (h : c < 2 ^ 32) (e : shs k c = 0) : c = 0 := by
  induction k with
  | zero => exact e
  | succ k ih => exact ih (sh_ker _ (shs_lt k c h) e)
theorem shs_add (j k c : Nat) : shs (j + k) c = shs j (shs k c) := by
  induction j with
  | zero => rw [Nat.zero_add]; rfl
  | succ j ih => rw [Nat.succ_add, shs, shs, ih]
theorem shs_inner (k c : Nat) : shs (k + 1) c = shs k (sh c) := shs_add k 1 c

theorem byte_lt32 (b : UInt8) : b.toNat < 2 ^ 32 := by have := b.toNat_lt; omega
theorem run_lt (c : Nat) (l : List UInt8) (h : c < 2 ^ 32) : run c l < 2 ^ 32 := by
  induction l generalizing c with
  | nil => exact h
  | cons b r ih => exact ih _ (shs_lt 8 _ (Nat.xor_lt_two_pow h (byte_lt32 b)))
theorem run_append (c : Nat) (l m : List UInt8) : run c (l ++ m) = run (run c l) m := by
  induction l generalizing c with
  | nil => rfl
  | cons b r ih => exact ih _
theorem run_snoc (c : Nat) (l : List UInt8) (b : UInt8) : run c (l ++ [b]) = shs 8 (run c l ^^^ b.toNat) := by
  rw [run_append]; rfl
theorem run_xor (c d : Nat) (l : List UInt8) : run (c ^^^ d) l = run c l ^^^ shs (8 * l.length) d := by
  induction l generalizing c d with
  | nil => rfl
  | cons b r ih =>
    rw [run, run, show c ^^^ d ^^^ b.toNat = (c ^^^ b.toNat) ^^^ d by rw [Nat.xor_assoc, Nat.xor_comm d, ← Nat.xor_assoc], shs_xor, ih, List.length_cons, Nat.mul_add, shs_add]

theorem ones_lt : ones < 2 ^ 32 := by decide
theorem crc_lt (c : Nat) (l : List UInt8) (h : c < 2 ^ 32) : crc c l < 2 ^ 32 :=
  Nat.xor_lt_two_pow (run_lt _ _ (Nat.xor_lt_two_pow h ones_lt)) ones_lt
theorem xor_twice (a b : Nat) : a ^^^ b ^^^ b = a := by rw [Nat.xor_assoc, Nat.xor_self, Nat.xor_zero]
theorem crc_append (c : Nat) (l m : List UInt8) : crc (crc c l) m = crc c (l ++ m) := by
  unfold crc
  rw [xor_twice, run_append]
theorem crc_nil (c : Nat) : crc c [] = c := xor_twice c ones
/-- What is joined is what is summed at once. -/
theorem crc_join (c : Nat) (l m : List UInt8) : shs (8 * m.length) (crc c l) ^^^ crc 0 m = crc c (l ++ m) := by
  rw [← crc_append]
  generalize crc c l = x
  rw [crc, crc, Nat.zero_xor, Nat.xor_comm x, run_xor, ← Nat.xor_assoc, Nat.xor_comm (shs _ _)]
theorem join_join (j k a b c : Nat) : shs (8 * k) (shs (8 * j) a ^^^ b) ^^^ c = shs (8 * (j + k)) a ^^^ (shs (8 * k) b ^^^ c) := by
  rw [shs_xor, ← shs_add, Nat.xor_assoc, ← Nat.mul_add, Nat.add_comm k j]

/-- A bit that is turned, in a byte: the sums part by what that bit makes over the rest. -/
theorem crc_turn (l m : List UInt8) (b d : UInt8) : crc 0 (l ++ b :: m) ^^^ crc 0 (l ++ d :: m) = shs (8 * m.length) (shs 8 (b.toNat ^^^ d.toNat)) := by
  have key : ∀ c x y : Nat, ∀ m : List UInt8, run (shs 8 (c ^^^ x)) m ^^^ run (shs 8 (c ^^^ y)) m = shs (8 * m.length) (shs 8 (x ^^^ y)) := by
    intro c x y m
    have e : shs 8 (c ^^^ x) = shs 8 (c ^^^ y) ^^^ shs 8 (x ^^^ y) := by
      rw [← shs_xor]
      congr 1
      rw [xor_ac, Nat.xor_self, Nat.xor_zero]
    rw [e, run_xor, Nat.xor_comm, ← Nat.xor_assoc, Nat.xor_self, Nat.zero_xor]
  unfold crc
  rw [run_append, run_append, run, run, xor_ac, Nat.xor_self, Nat.xor_zero, key]
theorem shs_ne (k c : Nat) (h : c < 2 ^ 32) (h0 : c ≠ 0) : shs k c ≠ 0 := fun e => h0 (shs_ker k c h e)
theorem xor_ne {a b : Nat} (h : a ^^^ b ≠ 0) : a ≠ b := fun e => h (by rw [e, Nat.xor_self])

/-- The lowest bit of a number, and the rest of them. -/
theorem low_rest (c : Nat) (h0 : c ≠ 0) (h : c < 2 ^ 32) : c = (c &&& (c - 1)) ^^^ 2 ^ Lib.ctz 32 c ∧ c &&& (c - 1) < c ∧ Lib.ctz 32 c < 32 := by
  obtain ⟨m, hm, hk⟩ := Lib.ctzFrom_spec 32 c (by omega) h
  rw [Lib.ctz, if_neg h0]
  generalize Lib.ctzFrom 32 c = k at *
  have hp : 0 < 2 ^ k := Nat.two_pow_pos k
  have ha : c &&& (c - 1) = 2 ^ k * (2 * m) := by
    rw [hm]
    apply Nat.eq_of_testBit_eq
    intro i
    have e : 2 ^ k * (2 * m + 1) - 1 = 2 ^ k * (2 * m) + (2 ^ k - 1) := by rw [Nat.mul_add, Nat.mul_one]; omega
    rw [e, Nat.testBit_and]
    by_cases hik : i < k
    · have : (2 ^ k * (2 * m + 1)).testBit i = false := by rw [Nat.mul_comm, Nat.testBit_mul_two_pow]; simp; omega
      rw [this, Bool.false_and, Nat.mul_comm, Nat.testBit_mul_two_pow]; simp; omega
    · rw [Nat.testBit_two_pow_mul_add _ (by omega), if_neg hik, Nat.mul_comm, Nat.testBit_mul_two_pow, Nat.mul_comm (2 ^ k), Nat.testBit_mul_two_pow]
      by_cases he : i = k
      · subst he; simp [Nat.testBit_zero]
      · obtain ⟨j, hj⟩ : ∃ j, i - k = j + 1 := ⟨i - k - 1, by omega⟩
        rw [hj, Nat.testBit_succ, Nat.testBit_succ, show (2 * m + 1) / 2 = 2 * m / 2 by omega]
        simp
  refine ⟨?_, ?_, hk⟩
  · rw [ha]
    conv => lhs; rw [hm]
    apply Nat.eq_of_testBit_eq
    intro i
    rw [Nat.testBit_xor, Nat.testBit_two_pow, Nat.mul_comm, Nat.testBit_mul_two_pow, Nat.mul_comm (2 ^ k), Nat.testBit_mul_two_pow]
    by_cases hik : k ≤ i
    · by_cases he : k = i
      · subst he; simp [Nat.testBit_zero]
      · obtain ⟨j, hj⟩ : ∃ j, i - k = j + 1 := ⟨i - k - 1, by omega⟩
        rw [hj, Nat.testBit_succ, Nat.testBit_succ, show (2 * m + 1) / 2 = 2 * m / 2 by omega]
        simp [he]
    · simp [hik]; omega
  · rw [ha, hm, Nat.mul_add]; omega
end Go.Crc

namespace Go.Proofs.YtbflmkjlpopeaadDoor
open Go.RowKit
open Go.Files (Fl Ln St lt getF dropF insF faultF keyL planM)

/-- Lines of the document's answer, as cells; lines of package files; files; steps. -/
abbrev MRow (w : World) (v : Value) (l : List Ln) : Prop := Row3 (fun x : Ln => .string x.name) (fun x => .int .i64 x.n) (fun x => .int .i64 x.sum) w v l
abbrev LRow (w : World) (v : Value) (l : List Ln) : Prop := Row3c (fun x : Ln => .string x.name) (fun x => .int .i64 x.n) (fun x => .int .u32 x.sum) w v l
abbrev FRow (w : World) (v : Value) (l : List Fl) : Prop := Row2 (fun x : Fl => .string x.name) (fun x => .string x.data) w v l

/-- A name that does not rise, as a test tells it. -/
theorem leq_lt (a p : ByteArray) : (Op.bytesLess a.toList p.toList || a.toList == p.toList) = !(lt p a) := by
  cases h : lt p a with
  | true =>
    have h1 := Go.Files.lt_asymm h
    have h2 : (a.toList == p.toList) = false := by
      rw [beq_eq_false_iff_ne]
      exact fun e => Go.Files.lt_ne h (bytes_ext e.symm)
    unfold lt at h1
    rw [h1, h2]
    rfl
  | false =>
    by_cases he : a = p
    · subst he; simp
    · have := Go.Files.lt_of h (fun e => he e.symm)
      unfold lt at this
      rw [this]
      rfl
/-- Steps as cells. -/
abbrev SRow (w : World) (v : Value) (l : List St) : Prop := Row2 (fun x : St => .string x.kind) (fun x => .string x.name) w v l
abbrev scs (l : List St) : List Value := cs2 (fun x : St => .string x.kind) (fun x => .string x.name) l
/-- Files as cells. -/
abbrev fcs (l : List Fl) : List Value := cs2 (fun x : Fl => .string x.name) (fun x => .string x.data) l
theorem same_bytes {a b : ByteArray} (h : a = b) : (a.toList == b.toList) = true := by rw [h]; simp
theorem other_bytes {a b : ByteArray} (h : a ≠ b) : (a.toList == b.toList) = false := by
  rw [beq_eq_false_iff_ne]
  exact fun e => h (bytes_ext e)
def gOut : Option ByteArray → ByteArray × Bool
  | some d => (d, true)
  | none => (⟨#[]⟩, false)
theorem getF_step (l : List Fl) (j : Nat) (h : j < l.length) (a : ByteArray) : getF (l.drop j) a = if l[j].name = a then some l[j].data else getF (l.drop (j + 1)) a := by
  rw [List.drop_eq_getElem_cons h, getF]
theorem dropF_snoc (l : List Fl) (j : Nat) (h : j < l.length) (a : ByteArray) : dropF (l.take (j + 1)) a = if l[j].name = a then dropF (l.take j) a else dropF (l.take j) a ++ [l[j]] := by
  rw [List.take_succ_eq_append_getElem h, dropF, List.filter_append, ← dropF]
  split
  · rename_i e; simp [e]
  · rename_i e; simp [e]

def bit (b : Bool) : Int := if b then 1 else 0
/-- A file's line. -/
def lnOf (f : Fl) : Ln := ⟨f.name, (f.data.size : Int), (Go.Crc.crc 0 f.data.data.toList : Nat)⟩

theorem ins_len (a d : ByteArray) : ∀ l : List Fl, (insF a d l).length ≤ l.length + 1
  | [] => by simp [insF]
  | f :: r => by
    rw [insF]
    split
    · have := ins_len a d r
      simp only [List.length_cons]
      omega
    · split <;> simp

/-- What is answered: the steps, an error's number, its place. -/
def planOut (F T : List Ln) : List St × Nat × Int :=
  if (faultF (F.map keyL)).1 = 0 then (if (faultF (T.map keyL)).1 = 0 then (planM F T, 0, -1) else ([], faultF (T.map keyL))) else ([], faultF (F.map keyL))
end Go.Proofs.YtbflmkjlpopeaadDoor

namespace Go.Proofs.YtbflmkjlpopeaadDoor
open Go.RowKit

/-- Nil where there is no error. -/
structure NilOr (x : Value) (c : Nat) : Prop where
  none : c = 0 → x = .nilIface
  some : c ≠ 0 → ∃ t y, x = .iface t y
end Go.Proofs.YtbflmkjlpopeaadDoor

namespace Go.Proofs.YtbflmkjlpopeaadDoor
open Go.RowKit

structure FV where
  tB : TypeId
  xB : Value
  tN : TypeId
  xN : Value
  tF : TypeId
  xF : Value
  tO : TypeId
  xO : Value
/-- An error by its number. -/
def errF (e : FV) : Nat → Value
  | 0 => .nilIface
  | 2 => .iface e.tB e.xB
  | 5 => .iface e.tN e.xN
  | 8 => .iface e.tF e.xF
  | _ => .iface e.tO e.xO
structure FEr (e : FV) (w : World) : Prop where
  bound : w.cell? ⟨0, 0, none⟩ = some (.iface e.tB e.xB)
  name : w.cell? ⟨6, 0, none⟩ = some (.iface e.tN e.xN)
  full : w.cell? ⟨2, 0, none⟩ = some (.iface e.tF e.xF)
  order : w.cell? ⟨8, 0, none⟩ = some (.iface e.tO e.xO)
theorem FEr.below {e : FV} {w w' : World} (h : FEr e w) (hb : Below w.heap.size w w') : FEr e w' :=
  ⟨(hb.cell (World.block_lt_of_cell? _ _ h.bound)).trans h.bound, (hb.cell (World.block_lt_of_cell? _ _ h.name)).trans h.name, (hb.cell (World.block_lt_of_cell? _ _ h.full)).trans h.full, (hb.cell (World.block_lt_of_cell? _ _ h.order)).trans h.order⟩
theorem errF_form (e : FV) (c : Nat) (h : c ≠ 0) : ∃ t x, errF e c = .iface t x := by
  unfold errF
  split
  · exact absurd rfl h
  all_goals exact ⟨_, _, rfl⟩
/-- An error as it lies there: none, one without a place, one with its place. -/
def FX (e : FV) (w : World) (x : Value) (f : Nat × Int) : Prop :=
  (f.1 = 0 ∧ x = .nilIface) ∨ (f.1 ≠ 0 ∧ ((f.2 = -1 ∧ x = errF e f.1) ∨ ∃ p, x = .iface 78 (.pointer (some ⟨p, 0, none⟩)) ∧ w.cell? ⟨p, 0, none⟩ = some (.int .i64 f.2) ∧ w.cell? ⟨p, 1, none⟩ = some (errF e f.1)))
theorem FX.below {e : FV} {w w' : World} {x : Value} {f : Nat × Int} (h : FX e w x f) (hb : Below w.heap.size w w') : FX e w' x f := by
  rcases h with h | ⟨h, k | ⟨p, rfl, h0, h1⟩⟩
  · exact Or.inl h
  · exact Or.inr ⟨h, Or.inl k⟩
  · exact Or.inr ⟨h, Or.inr ⟨p, rfl, (hb.cell (World.block_lt_of_cell? _ _ h0)).trans h0, (hb.cell (World.block_lt_of_cell? _ _ h1)).trans h1⟩⟩
theorem FX.nilOr {e : FV} {w : World} {x : Value} {f : Nat × Int} (h : FX e w x f) : NilOr x f.1 := by
  rcases h with ⟨h, rfl⟩ | ⟨h, ⟨_, rfl⟩ | ⟨p, rfl, _, _⟩⟩
  · exact ⟨fun _ => rfl, fun k => absurd h k⟩
  · exact ⟨fun k => absurd k h, fun _ => errF_form e _ h⟩
  · exact ⟨fun k => absurd k h, fun _ => ⟨_, _, rfl⟩⟩
theorem FX.nil (e : FV) (w : World) (at_ : Int) : FX e w .nilIface (0, at_) := Or.inl ⟨rfl, rfl⟩
end Go.Proofs.YtbflmkjlpopeaadDoor

namespace Go.Proofs.YtbflmkjlpopeaadDoor
open Go.ChangeShapes Go.WideShapes Go.ChangeAt Go.RowKit

theorem Tryd.kpBound : Tryd.prog.globalNamed "packhorse/api.ErrBound" = some 0 := by kernel_rfl
theorem Tryd.kqBound : (Tryd.prog.globals[0]?).map (·.type) = some 26 := by kernel_rfl
theorem Tryd.kpName : Tryd.prog.globalNamed "packhorse/api.ErrName" = some 6 := by kernel_rfl
theorem Tryd.kqName : (Tryd.prog.globals[6]?).map (·.type) = some 26 := by kernel_rfl
theorem Tryd.kpFull : Tryd.prog.globalNamed "packhorse/api.ErrFull" = some 2 := by kernel_rfl
theorem Tryd.kqFull : (Tryd.prog.globals[2]?).map (·.type) = some 26 := by kernel_rfl
theorem Tryd.kpOrder : Tryd.prog.globalNamed "packhorse/api.ErrOrder" = some 8 := by kernel_rfl
theorem Tryd.kqOrder : (Tryd.prog.globals[8]?).map (·.type) = some 26 := by kernel_rfl
abbrev laidK4 : List (String × DataW Unit) := [("packhorse/api.ErrBound", Rows.laid_packhorse_api_ErrBound), ("packhorse/api.ErrName", Rows.laid_packhorse_api_ErrName), ("packhorse/api.ErrFull", Rows.laid_packhorse_api_ErrFull), ("packhorse/api.ErrOrder", Rows.laid_packhorse_api_ErrOrder)]

theorem fer_of_laid {W : World} (h : laidMetH Tryd.prog laidK4 W) : ∃ e, FEr e W := by
  rw [MakeChecks.laidMetH_plain _ _ _ (by kernel_rfl)] at h
  obtain ⟨aBound, _, hvBound, _⟩ := laid_sentinel h Tryd.kpBound Tryd.kqBound Tryd.underlying26 Tryd.row179 Tryd.underlying179 Tryd.underlying197 rfl rfl Tryd.underlying9 Tryd.cells197 Tryd.cells9
  obtain ⟨aName, _, hvName, _⟩ := laid_sentinel h.tail Tryd.kpName Tryd.kqName Tryd.underlying26 Tryd.row179 Tryd.underlying179 Tryd.underlying197 rfl rfl Tryd.underlying9 Tryd.cells197 Tryd.cells9
  obtain ⟨aFull, _, hvFull, _⟩ := laid_sentinel h.tail.tail Tryd.kpFull Tryd.kqFull Tryd.underlying26 Tryd.row179 Tryd.underlying179 Tryd.underlying197 rfl rfl Tryd.underlying9 Tryd.cells197 Tryd.cells9
  obtain ⟨aOrder, _, hvOrder, _⟩ := laid_sentinel h.tail.tail.tail Tryd.kpOrder Tryd.kqOrder Tryd.underlying26 Tryd.row179 Tryd.underlying179 Tryd.underlying197 rfl rfl Tryd.underlying9 Tryd.cells197 Tryd.cells9
  exact ⟨⟨_, _, _, _, _, _, _, _⟩, by simpa using World.var?_cell Tryd.kpBound hvBound 0, by simpa using World.var?_cell Tryd.kpName hvName 0, by simpa using World.var?_cell Tryd.kpFull hvFull 0, by simpa using World.var?_cell Tryd.kpOrder hvOrder 0⟩
theorem door_metK4 (os : Os) (args : Array Value) : laidMetH Tryd.prog laidK4 ((World.doorLaid Tryd.prog 400 os).forCall (fun _ _ => 0) ⟨#[], args, []⟩).memory :=
  laidMetH_of_parts3 (fuel := 8) (laidMet_of_run' 8 (by kernel_rfl) (by kernel_rfl)) (by kernel_rfl) (by kernel_rfl)
end Go.Proofs.YtbflmkjlpopeaadDoor
