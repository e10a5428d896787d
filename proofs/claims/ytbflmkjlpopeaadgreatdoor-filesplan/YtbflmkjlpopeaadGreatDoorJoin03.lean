/-
  Files, lines, steps as cells, and small facts on them. No function of the program.
  An argument of type []packhorseref2.Line reads as lines.
  An error that is nil where there is none.
  What the laws of stage 7 ask of package files, as contracts (shown elsewhere over the program's own text); the closed fact of stage 7.
  Contracts of errors.As and errors.Is at an *api.Fault, over this dump.
-/
import Derived.Test.YtbflmkjlpopeaadGreatDoorJoin02
import Derived.Deep.Slices
import Derived.Deep.Strs
import Derived.Test.YtbflmkjlpopeaadGreatDoorJoin01
namespace Go.Proofs.YtbflmkjlpopeaadGreatDoor
open Go.RowKit
open Go.Files (Fl Ln St lt getF dropF insF faultF keyL planM)

/-- Lines of the document's answer, as cells; lines of package files; files; steps. -/
abbrev MRow (w : World) (v : Value) (l : List Ln) : Prop := Row3 (fun x : Ln => .string x.name) (fun x => .int .i64 x.n) (fun x => .int .i64 x.sum) w v l
abbrev LRow (w : World) (v : Value) (l : List Ln) : Prop := Row3c (fun x : Ln => .string x.name) (fun x => .int .i64 x.n) (fun x => .int .u32 x.sum) w v l
abbrev FRow (w : World) (v : Value) (l : List Fl) : Prop := Row2 (fun x : Fl => .string x.name) (fun x => .string x.data) w v l

/-- A name that does not rise, as a test tells it. -/
theorem leq_lt (a p : ByteArray) : (Op.bytesLess a.toList p.toList || a.toList == p.toList) = !(lt p a) := by
  cases h : lt p a with
  | true =>
    have h1 := Go.Files.lt_asymm h
    have h2 : (a.toList == p.toList) = false := by
      rw [beq_eq_false_iff_ne]
      exact fun e => Go.Files.lt_ne h (bytes_ext e.symm)
    unfold lt at h1
    rw [h1, h2]
    rfl
  | false =>
    by_cases he : a = p
    · subst he; simp
    · have := Go.Files.lt_of h (fun e => he e.symm)
      unfold lt at this
      rw [this]
      rfl
/-- Steps as cells. -/
abbrev SRow (w : World) (v : Value) (l : List St) : Prop := Row2 (fun x : St => .string x.kind) (fun x => .string x.name) w v l
abbrev scs (l : List St) : List Value := cs2 (fun x : St => .string x.kind) (fun x => .string x.name) l
/-- Files as cells. -/
abbrev fcs (l : List Fl) : List Value := cs2 (fun x : Fl => .string x.name) (fun x => .string x.data) l
theorem same_bytes {a b : ByteArray} (h : a = b) : (a.toList == b.toList) = true := by rw [h]; simp
theorem other_bytes {a b : ByteArray} (h : a ≠ b) : (a.toList == b.toList) = false := by
  rw [beq_eq_false_iff_ne]
  exact fun e => h (bytes_ext e)
def gOut : Option ByteArray → ByteArray × Bool
  | some d => (d, true)
  | none => (⟨#[]⟩, false)
theorem getF_step (l : List Fl) (j : Nat) (h : j < l.length) (a : ByteArray) : getF (l.drop j) a = if l[j].name = a then some l[j].data else getF (l.drop (j + 1)) a := by
  rw [List.drop_eq_getElem_cons h, getF]
theorem dropF_snoc (l : List Fl) (j : Nat) (h : j < l.length) (a : ByteArray) : dropF (l.take (j + 1)) a = if l[j].name = a then dropF (l.take j) a else dropF (l.take j) a ++ [l[j]] := by
  rw [List.take_succ_eq_append_getElem h, dropF, List.filter_append, ← dropF]
  split
  · rename_i e; simp [e]
  · rename_i e; simp [e]

def bit (b : Bool) : Int := if b then 1 else 0
/-- A file's line. -/
def lnOf (f : Fl) : Ln := ⟨f.name, (f.data.size : Int), (Go.Crc.crc 0 f.data.data.toList : Nat)⟩

theorem ins_len (a d : ByteArray) : ∀ l : List Fl, (insF a d l).length ≤ l.length + 1
  | [] => by simp [insF]
  | f :: r => by
    rw [insF]
    split
    · have := ins_len a d r
      simp only [List.length_cons]
      omega
    · split <;> simp

/-- What is answered: the steps, an error's number, its place. -/
def planOut (F T : List Ln) : List St × Nat × Int :=
  if (faultF (F.map keyL)).1 = 0 then (if (faultF (T.map keyL)).1 = 0 then (planM F T, 0, -1) else ([], faultF (T.map keyL))) else ([], faultF (F.map keyL))
end Go.Proofs.YtbflmkjlpopeaadGreatDoor

namespace Go.Proofs.YtbflmkjlpopeaadGreatDoor
open Go.ChangeShapes Go.WideShapes Go.ChangeAt Go.RowKit
open Go.Files (Ln)

theorem Tryz.margcells62 : Tryz.prog.cellsOf 62 = 3 := by kernel_rfl
theorem Tryz.margcells3 : Tryz.prog.cellsOf 3 = 1 := by kernel_rfl
theorem Tryz.margcells9 : Tryz.prog.cellsOf 9 = 1 := by kernel_rfl
/-- A struct of 3 fields. -/
theorem marg_struct {H : Type} {enc : TypeId × Value → H} {P : Program} {w : World} {base : Nat} {spare : Nat → Bool} {held : Bool} {t : TypeId} {f0 f1 f2 : Field} {fuel : Nat} {cs : List Value} {x : DataW H × List MemPlace} (ht : P.underlying t = some (.struct #[f0, f1, f2])) (h : DataW.trod enc P w base spare held fuel t cs = some x) :
    ∃ y0 y1 y2 n, DataW.trod enc P w base spare held n f0.type ((cs.drop f0.offset).take (P.cellsOf f0.type)) = some y0 ∧ DataW.trod enc P w base spare held n f1.type ((cs.drop f1.offset).take (P.cellsOf f1.type)) = some y1 ∧ DataW.trod enc P w base spare held n f2.type ((cs.drop f2.offset).take (P.cellsOf f2.type)) = some y2 := by
  obtain ⟨xs, n, _, rfl, hl, hlen, hf⟩ := DataW.trod_struct ht h
  match xs, hlen with
  | [y0, y1, y2], _ => exact ⟨y0, y1, y2, n, by simpa using hf 0 f0 rfl, by simpa using hf 1 f1 rfl, by simpa using hf 2 f2 rfl⟩

set_option maxRecDepth 100000 in
/-- One element. -/
theorem marg_one {H : Type} {enc : TypeId × Value → H} {W : World} {base : Nat} {spare : Nat → Bool} {held : Bool} {n : Nat} {ad : Addr} {cs : List Value} {x : DataW H × List MemPlace}
    (h1 : W.cells? base ad 3 = some cs) (h2 : DataW.trod enc Tryz.prog W base spare held n 62 cs = some x) :
    ∃ o : Ln, W.cell? (ad.add 0) = some (.string o.name) ∧ W.cell? (ad.add 1) = some (.int .i64 o.n) ∧ W.cell? (ad.add 2) = some (.int .i64 o.sum) := by
  obtain ⟨_, hlen, hcell⟩ := World.cells?_some h1
  obtain ⟨v0, v1, v2, rfl⟩ : ∃ v0 v1 v2, cs = [v0, v1, v2] := by
    match cs, hlen with
    | [v0, v1, v2], _ => exact ⟨v0, v1, v2, rfl⟩
  obtain ⟨y0, y1, y2, k, g0, g1, g2⟩ := marg_struct Tryz.underlying62 h2
  simp only [Tryz.margcells3, Tryz.margcells9] at g0 g1 g2
  obtain ⟨z0, e0, _, _⟩ := DataW.trod_string Tryz.underlying9 g0
  obtain ⟨z1, e1, _, _⟩ := DataW.trod_int Tryz.underlying3 g1
  obtain ⟨z2, e2, _, _⟩ := DataW.trod_int Tryz.underlying3 g2
  simp at e0 e1 e2
  subst e0 e1 e2
  have c0 := hcell 0 (by omega)
  have c1 := hcell 1 (by omega)
  have c2 := hcell 2 (by omega)
  exact ⟨⟨z0, z1, z2⟩, by simpa using c0, by simpa using c1, by simpa using c2⟩

theorem marg_row {H : Type} {enc : TypeId × Value → H} {W : World} {base : Nat} {spare : Nat → Bool} {held : Bool} {fuel : Nat} {a : Option Addr} {len cap : Nat} {x : DataW H × List MemPlace}
    (h : DataW.trod enc Tryz.prog W base spare held fuel 22 [.slice a len cap] = some x) : ∃ l : List Ln, l.length = len ∧ MRow W (.slice a l.length cap) l := by
  rcases Go.Deep.open_slice Tryz.underlying22 h with ⟨hcs, _⟩ | ⟨ad, len', cap', m, n, D, Pl, hcs, hb, hl, hm, hmm, rfl, hx⟩
  · simp at hcs
    obtain ⟨rfl, rfl, rfl⟩ := hcs
    exact ⟨[], rfl, ⟨none, 0, rfl, fun h => by simp at h⟩⟩
  · simp at hcs
    obtain ⟨rfl, rfl, rfl⟩ := hcs
    have hlm : len ≤ m := by rw [hmm]; split <;> omega
    have each : ∀ i, i < len → ∃ o : Ln, W.cell? ((ad.add (i * 3)).add 0) = some (.string o.name) ∧ W.cell? ((ad.add (i * 3)).add 1) = some (.int .i64 o.n) ∧ W.cell? ((ad.add (i * 3)).add 2) = some (.int .i64 o.sum) := by
      intro i hi
      obtain ⟨cs', h1, h2⟩ := hx i (by omega)
      rw [Tryz.margcells62] at h1
      exact marg_one h1 h2
    obtain ⟨f, hf⟩ := Go.Deep.choose_lt each
    have hll : ((List.range len).map f).length = len := by simp
    refine ⟨(List.range len).map f, hll, ⟨some ad, cap, rfl, fun hp => ?_⟩⟩
    obtain ⟨bl, off, spot⟩ := ad
    have h0 := (hf 0 (by omega)).1
    have hspot : spot = none := by simpa [Addr.add] using World.cell?_spot h0
    subst hspot
    refine ⟨bl, off, rfl, fun j hj => ?_⟩
    have hj' : j < len := by omega
    obtain ⟨k0, k1, k2⟩ := hf j hj'
    have eg : ((List.range len).map f)[j] = f j := by simp
    rw [eg]
    rw [Go.Deep.add_add, add_plain] at k0 k1 k2
    exact ⟨by simpa using k0, by simpa [Nat.add_assoc] using k1, by simpa [Nat.add_assoc] using k2⟩
end Go.Proofs.YtbflmkjlpopeaadGreatDoor

namespace Go.Proofs.YtbflmkjlpopeaadGreatDoor
open Go.RowKit

/-- Nil where there is no error. -/
structure NilOr (x : Value) (c : Nat) : Prop where
  none : c = 0 → x = .nilIface
  some : c ≠ 0 → ∃ t y, x = .iface t y
end Go.Proofs.YtbflmkjlpopeaadGreatDoor

namespace Go.Proofs.YtbflmkjlpopeaadGreatDoor
open Go.RowKit
open Go.Files (Fl Ln getF dropF putF faultF keyF isNm)

/-- Files that a law may hand in. -/
def Fair (l : List Fl) : Prop := l.length ≤ 900 ∧ ∀ x ∈ l, x.name.size ≤ 1000000 ∧ x.data.size ≤ 1000000
/-- The lines that a list comes to. -/
def listF (l : List Fl) : List Ln := if (faultF (l.map keyF)).1 = 0 then l.map lnOf else []
/-- Where no error is met. -/
structure FilesGet : Prop where
  get : ∀ v l a W, FRow W v l → Fair l → a.size ≤ 1000000 → Calls Tryz.prog 19 #[v, .string a] W fun r w' => r = .returned (.tuple #[.string (gOut (getF l a)).1, .bool (gOut (getF l a)).2]) ∧ Below W.heap.size W w'
/-- Where it is asked no more than whether there is an error: Env: what the errors' variables hold. -/
structure FilesAll (Env : World → Prop) : Prop where
  put : ∀ v l a d W, FRow W v l → Fair l → a.size ≤ 1000000 → d.size ≤ 1000000 → Env W → Calls Tryz.prog 17 #[v, .string a, .string d] W fun r w' =>
    (∃ u x, r = .returned (.tuple #[u, x]) ∧ FRow w' u (putF l a d).1 ∧ NilOr x (putF l a d).2.1) ∧ Below W.heap.size W w'
  list : ∀ v l W, FRow W v l → Fair l → Env W → Calls Tryz.prog 18 #[v] W fun r w' =>
    (∃ u x, r = .returned (.tuple #[u, x]) ∧ LRow w' u (listF l) ∧ NilOr x (faultF (l.map keyF)).1) ∧ Below W.heap.size W w'

set_option maxHeartbeats 2000000 in
set_option maxRecDepth 100000 in
/-- The closed fact. -/
theorem filed_ok (Env : World → Prop) (w : World) (hS : Env w) (hEB : ∀ w w', Env w → Below w.heap.size w w' → Env w') (hG : FilesGet) (hA : FilesAll Env) :
    Calls Tryz.prog 4 #[] w fun r w' => r = .returned (.bool true) ∧ Below w.heap.size w w' := by
  have hfair : Fair [⟨⟨#[97]⟩, ⟨#[49, 50, 51, 52, 53, 54, 55, 56, 57]⟩⟩] := ⟨by decide, by decide⟩
  have HP := hide (hA.put (.slice none 0 0) [] ⟨#[97]⟩ ⟨#[49, 50, 51, 52, 53, 54, 55, 56, 57]⟩ w (Row2.nil w) ⟨by decide, by simp⟩ (by decide) (by decide) hS)
  rw [show putF [] ⟨#[97]⟩ ⟨#[49, 50, 51, 52, 53, 54, 55, 56, 57]⟩ = ([⟨⟨#[97]⟩, ⟨#[49, 50, 51, 52, 53, 54, 55, 56, 57]⟩⟩], 0, -1) from by decide] at HP
  have HL := hide (fun v W (h : FRow W v [⟨⟨#[97]⟩, ⟨#[49, 50, 51, 52, 53, 54, 55, 56, 57]⟩⟩]) (k : Env W) => hA.list v _ W h hfair k)
  have hl : listF [⟨⟨#[97]⟩, ⟨#[49, 50, 51, 52, 53, 54, 55, 56, 57]⟩⟩] = [⟨⟨#[97]⟩, 9, 3421780262⟩] := by decide
  rw [hl, show (faultF ([⟨⟨#[97]⟩, ⟨#[49, 50, 51, 52, 53, 54, 55, 56, 57]⟩⟩].map keyF)).1 = 0 from by decide] at HL
  have HG := hide (fun v W (h : FRow W v [⟨⟨#[97]⟩, ⟨#[49, 50, 51, 52, 53, 54, 55, 56, 57]⟩⟩]) => hG.get v _ ⟨#[97]⟩ W h hfair (by decide))
  rw [show gOut (getF [⟨⟨#[97]⟩, ⟨#[49, 50, 51, 52, 53, 54, 55, 56, 57]⟩⟩] ⟨#[97]⟩) = (⟨#[49, 50, 51, 52, 53, 54, 55, 56, 57]⟩, true) from by decide] at HG
  simp only at HP HL HG
  have HV := hide (fun w' hb => hEB w w' hS hb)
  clear hS hEB hG hA hfair hl
  go_enter Tryz.func4, Tryz.ntmps4
  go_wp2_with fail
  refine HP.out.mono ?_
  rintro r w1 ⟨⟨u, x, rfl, hu, hx⟩, hb1⟩
  obtain rfl := hx.none rfl
  have Hu := hide hu
  have Hb1 := hide hb1
  obtain ⟨a1, c1, rfl, _⟩ := hu
  clear hx hb1 HP
  go_wp2_with fail
  refine (HL.out _ _ Hu.out (HV.out _ Hb1.out)).mono ?_
  rintro r w2 ⟨⟨z, y, rfl, hz, hy⟩, hb2⟩
  obtain rfl := hy.none rfl
  have Hu2 := hide (Hu.out.below hb2)
  have Hz := hide hz
  have Hb2 := hide (bthen Hb1.out hb2)
  obtain ⟨a2, c2, rfl, hz'⟩ := hz
  obtain ⟨b, o, rfl, hc⟩ := hz' (by decide)
  obtain ⟨_, _, e2⟩ := hc 0 (by decide)
  clear hy hb2 HL Hu Hb1 hc hz'
  go_wp2_with fail
  refine (HG.out _ _ Hu2.out).mono ?_
  rintro r w3 ⟨rfl, hb3⟩
  have k2 := (hb3.cell (World.block_lt_of_cell? _ _ e2)).trans e2
  have Hb3 := hide (bthen Hb2.out hb3)
  clear hb3 e2 HG Hb2 Hu2 Hz
  go_wp2
  go_ret
  exact ⟨rfl, Hb3.out⟩
end Go.Proofs.YtbflmkjlpopeaadGreatDoor

namespace Go.Proofs.YtbflmkjlpopeaadGreatDoor
open Go.RowKit Go.Extern.Stop Go.Stop Go.Extern

theorem Tryz.typeOf29 (v : Value) (w : World) : (callFunc 70 #[.iface 97 v]).run Tryz.prog w = .ok (.value (.iface 148 (.agg #[.pointer (some ⟨14, 97, none⟩)]))) w := by kernel_rfl
theorem Tryz.assignable29 (w : World) : (callFunc 111 #[.agg #[.pointer (some ⟨14, 97, none⟩)], .iface 148 (.agg #[.pointer (some ⟨14, 97, none⟩)])]).run Tryz.prog w = .ok (.value (.bool true)) w := by kernel_rfl
theorem Tryz.valueOf29 (t : Addr) (w : World) : (callFunc 66 #[.iface 97 (.pointer (some t))]).run Tryz.prog w = .ok (.value (.agg #[.pointer (some ⟨14, 97, none⟩), .pointer (some ⟨w.heap.size, 0, none⟩), .int .u64 150])) (w.alloc (.cells #[.pointer (some t)] 97)) := by kernel_rfl
theorem Tryz.elemOf53 (w : World) : (Rtype.elem? 99).run Tryz.prog w = .ok (some 97) w := by kernel_rfl
theorem Tryz.mk29 (p : Addr) (w : World) : (ReflectliteValue.mk 97 p ReflectliteValue.flagAddr).run Tryz.prog w = .ok (.agg #[.pointer (some ⟨14, 97, none⟩), .pointer (some p), .int .u64 406]) w := by kernel_rfl
theorem Tryz.parts29a (a : Addr) (w : World) : (ReflectliteValue.parts (.agg #[.pointer (some ⟨14, 97, none⟩), .pointer (some a), .int .u64 406])).run Tryz.prog w = .ok (some (97, a, 406)) w := by kernel_rfl
theorem Tryz.parts29 (a : Addr) (w : World) : (ReflectliteValue.parts (.agg #[.pointer (some ⟨14, 97, none⟩), .pointer (some a), .int .u64 150])).run Tryz.prog w = .ok (some (97, a, 150)) w := by kernel_rfl
theorem Tryz.direct29 (w : World) : (Rtype.directlyAssignable 97 97).run Tryz.prog w = .ok true w := by kernel_rfl

/-- Value.Elem at the Value of a pointer that is not nil. -/
theorem Tryz.elemV53 (a p : Addr) (W : World) (ha : W.cell? a = some (.pointer (some p))) :
    (callFunc 81 #[.agg #[.pointer (some ⟨14, 99, none⟩), .pointer (some a), .int .u64 150]]).run Tryz.prog W = .ok (.value (.agg #[.pointer (some ⟨14, 97, none⟩), .pointer (some p), .int .u64 406])) W := by
  rw [@run_callFunc_extern Tryz.prog 81 _ (ReflectliteValue.method (ReflectliteValue.valueError "reflectlite.Value.Elem" 0) ReflectliteValue.elem) Tryz.func81 (by kernel_rfl) (by kernel_rfl) (by kernel_rfl) (by kernel_rfl)]
  obtain ⟨K, hK, hm⟩ := value_method (ReflectliteValue.valueError "reflectlite.Value.Elem" 0) ReflectliteValue.elem (.agg #[.pointer (some ⟨14, 99, none⟩), .pointer (some a), .int .u64 150])
  rw [hm]
  simp only [Sem.run_bind, Tryz.parts53, Result.andThen, hK]
  simp [ReflectliteValue.elem, loadVar, isAgg, underlying, Tryz.underlying99, ha, Result.andThen, Tryz.elemOf53, Tryz.mk29]

/-- Value.Set: the variable at ta gets what the Value's own variable b holds. -/
theorem Tryz.set29 (ta b e : Addr) (old : Value) (W : World) (hb : W.cell? b = some (.pointer (some e))) (ht : W.cell? ta = some old) (hf : W.frozen? ta = false) :
    (callFunc 82 #[.agg #[.pointer (some ⟨14, 97, none⟩), .pointer (some ta), .int .u64 406], .agg #[.pointer (some ⟨14, 97, none⟩), .pointer (some b), .int .u64 150]]).run Tryz.prog W = .ok (.value (.tuple #[])) (W.setCell ta (.pointer (some e))) := by
  rw [@run_callFunc_extern Tryz.prog 82 _ ReflectliteValue.set Tryz.func82 (by kernel_rfl) (by kernel_rfl) (by kernel_rfl) (by kernel_rfl)]
  change (Sem.run Tryz.prog (ReflectliteValue.parts (.agg #[.pointer (some ⟨14, 97, none⟩), .pointer (some ta), .int .u64 406]) >>= fun o1 => ReflectliteValue.parts (.agg #[.pointer (some ⟨14, 97, none⟩), .pointer (some b), .int .u64 150]) >>= _) W).andThen _ = _
  simp only [Sem.run_bind, Tryz.parts29a, Tryz.parts29, Result.andThen]
  simp [ReflectliteValue.flagAddr, loadVar, isAgg, underlying, Tryz.underlying97, hb, Result.andThen, Tryz.direct29, storeVar, Value.cells, storeCells, Addr.add]
  rw [run_store Tryz.prog W ta _ _ (by rfl)]
  simp [ht, hf]

theorem Tryz.noIsF (v : Value) (xT : TypeId) (w : World) : (Instr.typeAssert (.iface 97 v) xT 158 true).run Tryz.prog w = .ok (.tuple #[.nilIface, .bool false]) w := run_typeAssert_lacksB Tryz.underlying158 (by kernel_rfl) (by kernel_rfl) v xT w
theorem Tryz.hasUnwrapF (v : Value) (xT : TypeId) (w : World) : (Instr.typeAssert (.iface 97 v) xT 155 true).run Tryz.prog w = .ok (.tuple #[.iface 97 v, .bool true]) w := run_typeAssert_hasB Tryz.underlying155 (by kernel_rfl) v xT w

set_option maxHeartbeats 1000000 in
set_option maxRecDepth 100000 in
/-- errors.Is of a Fault that wraps the target. -/
theorem is_wrap_same (pb : Nat) (b : Addr) (w : World) (h1 : w.cell? ⟨pb, 1, none⟩ = some (.iface 164 (.pointer (some b)))) :
    Calls Tryz.prog 46 #[.iface 97 (.pointer (some ⟨pb, 0, none⟩)), .iface 164 (.pointer (some b))] w fun e w' => e = .returned (.bool true) ∧ w' = w := by
  obtain ⟨i, hi, hcmp⟩ := Option.map_eq_some_iff.1 Tryz.isComp
  obtain ⟨j, hj, hjs⟩ := Option.map_eq_some_iff.1 Tryz.isSize
  have tT := Tryz.typeOf55
  have cT := Tryz.comparable55
  have nE := Tryz.noIsE
  have uE := Tryz.noUnwrapE
  have vE := Tryz.noUnwrapsE
  have nW := Tryz.noIsF
  have uW := Tryz.hasUnwrapF
  have heq := run_eql_iface_ptr_same (P := Tryz.prog) w b Tryz.underlying29 Tryz.underlying164 hi hcmp hj
  have hty := run_eql_iface_types (P := Tryz.prog) 97 164 (.pointer (some ⟨pb, 0, none⟩)) (.pointer (some b)) Tryz.underlying29 (by decide) w
  go_enter Tryz.func46, Tryz.ntmps46
  go_wp2
  refine wp_loop_rounds 2 ?_
  rw [rounds_succ]
  go_wp2
  rw [rounds_succ]
  go_wp2
  go_ret
  exact ⟨rfl, rfl⟩

set_option maxHeartbeats 1000000 in
set_option maxRecDepth 100000 in
/-- errors.Is of a Fault that wraps another error of errors.New's make. -/
theorem is_wrap_other (pb : Nat) (a b : Addr) (ca cb : Array Value) (ta tb : TypeId) (w : World) (h1 : w.cell? ⟨pb, 1, none⟩ = some (.iface 164 (.pointer (some a)))) (hne : a ≠ b) (ha : w.heap[a.block]? = some (.cells ca ta (0, 0))) (hb : w.heap[b.block]? = some (.cells cb tb (0, 0))) :
    Calls Tryz.prog 46 #[.iface 97 (.pointer (some ⟨pb, 0, none⟩)), .iface 164 (.pointer (some b))] w fun e w' => e = .returned (.bool false) ∧ w' = w := by
  obtain ⟨i, hi, hcmp⟩ := Option.map_eq_some_iff.1 Tryz.isComp
  obtain ⟨j, hj, hjs⟩ := Option.map_eq_some_iff.1 Tryz.isSize
  have tT := Tryz.typeOf55
  have cT := Tryz.comparable55
  have nE := Tryz.noIsE
  have uE := Tryz.noUnwrapE
  have vE := Tryz.noUnwrapsE
  have nW := Tryz.noIsF
  have uW := Tryz.hasUnwrapF
  have heq := run_eql_iface_ptr_other (P := Tryz.prog) w Tryz.underlying29 Tryz.underlying164 hi hcmp hj (by rw [hjs]; decide) hne ha hb
  have hty := run_eql_iface_types (P := Tryz.prog) 97 164 (.pointer (some ⟨pb, 0, none⟩)) (.pointer (some b)) Tryz.underlying29 (by decide) w
  go_enter Tryz.func46, Tryz.ntmps46
  go_wp2
  refine wp_loop_rounds 2 ?_
  rw [rounds_succ]
  go_wp2
  rw [rounds_succ]
  go_wp2
  go_ret
  exact ⟨rfl, rfl⟩

set_option maxHeartbeats 4000000 in
set_option maxRecDepth 100000 in
/-- errors.As of a Fault, the target a variable of type *api.Fault of the caller's own: true, and the variable points to it. -/
theorem as_hit (e : Addr) (t : Nat) (w : World) (ht : t < w.heap.size) (hg : w.cell? ⟨12, 0, none⟩ = some (.iface 148 (.agg #[.pointer (some ⟨14, 29, none⟩)]))) (ht0 : w.cell? ⟨t, 0, none⟩ = some (.pointer none)) (hf0 : w.frozen? ⟨t, 0, none⟩ = false) :
    Calls Tryz.prog 45 #[.iface 97 (.pointer (some e)), .iface 99 (.pointer (some ⟨t, 0, none⟩))] w fun ev w' => ev = .returned (.bool true) ∧ Below t w w' ∧ w'.cell? ⟨t, 0, none⟩ = some (.pointer (some e)) ∧ (∀ k, k < w.heap.size → k ≠ t → w'.heap[k]? = w.heap[k]?) := by
  have f6 := Tryz.valueOf53
  have f7 := Tryz.type53
  have k27 := Tryz.kind53
  have k25 := Tryz.kind29
  have e27 := Tryz.elem53
  have i25 := Tryz.implements29
  have tO := Tryz.typeOf29
  have a25 := Tryz.assignable29
  have v25 := Tryz.valueOf29
  have n8 := Tryz.isNil53 ⟨w.heap.size, 0, none⟩ ⟨t, 0, none⟩ ((w.alloc (.cells #[.pointer (some ⟨t, 0, none⟩)] 99)).alloc (.cells #[.pointer (some ⟨14, 99, none⟩), .pointer (some ⟨w.heap.size, 0, none⟩), .int .u64 150] 128)) (by simp)
  have hlt : 12 < w.heap.size := World.block_lt_of_cell? _ _ hg
  have hg2 : ((w.alloc (.cells #[.pointer (some ⟨t, 0, none⟩)] 99)).alloc (.cells #[.pointer (some ⟨14, 99, none⟩), .pointer (some ⟨w.heap.size, 0, none⟩), .int .u64 150] 128)).cell? ⟨12, 0, none⟩ = some (.iface 148 (.agg #[.pointer (some ⟨14, 29, none⟩)])) := by
    rw [World.cell?_alloc_lt _ _ ⟨12, 0, none⟩ (by simp; omega), World.cell?_alloc_lt _ _ ⟨12, 0, none⟩ hlt]; exact hg
  have el := Tryz.elemV53 ⟨w.heap.size, 0, none⟩ ⟨t, 0, none⟩ (((w.alloc (.cells #[.pointer (some ⟨t, 0, none⟩)] 99)).alloc (.cells #[.pointer (some ⟨14, 99, none⟩), .pointer (some ⟨w.heap.size, 0, none⟩), .int .u64 150] 128)).alloc (.cells #[.pointer (some ⟨14, 99, none⟩), .pointer (some ⟨w.heap.size, 0, none⟩), .int .u64 150] 128)) (by rw [World.cell?_alloc_lt _ _ ⟨w.heap.size, 0, none⟩ (by simp; omega)]; simp)
  have st := Tryz.set29 ⟨t, 0, none⟩ ⟨w.heap.size + 1 + 1 + 1, 0, none⟩ e (.pointer none) ((((w.alloc (.cells #[.pointer (some ⟨t, 0, none⟩)] 99)).alloc (.cells #[.pointer (some ⟨14, 99, none⟩), .pointer (some ⟨w.heap.size, 0, none⟩), .int .u64 150] 128)).alloc (.cells #[.pointer (some ⟨14, 99, none⟩), .pointer (some ⟨w.heap.size, 0, none⟩), .int .u64 150] 128)).alloc (.cells #[.pointer (some e)] 97))
    (by rw [World.cell?_alloc_at _ _ _ _ (by simp)]; rfl)
    (by rw [World.cell?_alloc_lt _ _ ⟨t, 0, none⟩ (by simp; omega), World.cell?_alloc_lt _ _ ⟨t, 0, none⟩ (by simp; omega), World.cell?_alloc_lt _ _ ⟨t, 0, none⟩ (by simp; omega), World.cell?_alloc_lt _ _ ⟨t, 0, none⟩ ht]; exact ht0)
    (by rw [World.frozen?_alloc_old _ _ ⟨t, 0, none⟩ (by simp; omega), World.frozen?_alloc_old _ _ ⟨t, 0, none⟩ (by simp; omega), World.frozen?_alloc_old _ _ ⟨t, 0, none⟩ (by simp; omega), World.frozen?_alloc_old _ _ ⟨t, 0, none⟩ (Nat.ne_of_lt ht)]; exact hf0)
  have hb : Below w.heap.size w ((((w.alloc (.cells #[.pointer (some ⟨t, 0, none⟩)] 99)).alloc (.cells #[.pointer (some ⟨14, 99, none⟩), .pointer (some ⟨w.heap.size, 0, none⟩), .int .u64 150] 128)).alloc (.cells #[.pointer (some ⟨14, 99, none⟩), .pointer (some ⟨w.heap.size, 0, none⟩), .int .u64 150] 128)).alloc (.cells #[.pointer (some e)] 97)) := by go_grown
  have Hb := hide hb
  clear hb
  go_enter Tryz.func45, Tryz.ntmps45
  go_wp2
  refine wp_loop_rounds 1 ?_
  rw [rounds_succ]
  go_wp2
  go_ret
  refine ⟨rfl, (Hb.out.mono (by omega)).setCell (by simp) _, World.cell?_setCell_same _ _ _ ((Hb.out.cell (p := ⟨t, 0, none⟩) ht).trans ht0), fun k hk hkt => ?_⟩
  rw [Below.heap_setCell _ _ _ _ (by simpa using hkt)]
  exact Hb.out.block k hk
end Go.Proofs.YtbflmkjlpopeaadGreatDoor
