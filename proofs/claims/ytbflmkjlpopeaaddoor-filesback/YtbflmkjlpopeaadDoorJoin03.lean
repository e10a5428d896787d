/-
  What the row's condition on the five errors' variables that package files meets gives the walk; the door's own heap meets it.
  An argument of type []api.File reads as files.
  What the laws of stage 7 ask of package files, as contracts (shown elsewhere over the program's own text); the closed fact of stage 7.
  Files as cells: what the program's table says of their type.
  Contracts of the laws' LongFiles, OwnFiles over this dump.
-/
import Derived.Test.YtbflmkjlpopeaadDoorJoin01
import Derived.Test.YtbflmkjlpopeaadDoorJoin02
import Derived.Deep.Slices
import Derived.Deep.Strs
import Derived.BigQuiet
import Derived.Deep.QuietTactic
import Derived.Laws.Cover1
namespace Go.Proofs.YtbflmkjlpopeaadDoor
open Go.ChangeShapes Go.WideShapes Go.ChangeAt Go.RowKit

theorem Tryd.bpText : Tryd.prog.globalNamed "packhorse/api.ErrText" = some 3 := by kernel_rfl
theorem Tryd.bqText : (Tryd.prog.globals[3]?).map (·.type) = some 26 := by kernel_rfl
theorem Tryd.bpBound : Tryd.prog.globalNamed "packhorse/api.ErrBound" = some 0 := by kernel_rfl
theorem Tryd.bqBound : (Tryd.prog.globals[0]?).map (·.type) = some 26 := by kernel_rfl
theorem Tryd.bpName : Tryd.prog.globalNamed "packhorse/api.ErrName" = some 6 := by kernel_rfl
theorem Tryd.bqName : (Tryd.prog.globals[6]?).map (·.type) = some 26 := by kernel_rfl
theorem Tryd.bpFull : Tryd.prog.globalNamed "packhorse/api.ErrFull" = some 2 := by kernel_rfl
theorem Tryd.bqFull : (Tryd.prog.globals[2]?).map (·.type) = some 26 := by kernel_rfl
theorem Tryd.bpOrder : Tryd.prog.globalNamed "packhorse/api.ErrOrder" = some 8 := by kernel_rfl
theorem Tryd.bqOrder : (Tryd.prog.globals[8]?).map (·.type) = some 26 := by kernel_rfl
abbrev laidB5 : List (String × DataW Unit) := [("packhorse/api.ErrText", Rows.laid_packhorse_api_ErrText), ("packhorse/api.ErrBound", Rows.laid_packhorse_api_ErrBound), ("packhorse/api.ErrName", Rows.laid_packhorse_api_ErrName), ("packhorse/api.ErrFull", Rows.laid_packhorse_api_ErrFull), ("packhorse/api.ErrOrder", Rows.laid_packhorse_api_ErrOrder)]

theorem fert_of_laid {W : World} (h : laidMetH Tryd.prog laidB5 W) : ∃ e, FErT e W := by
  rw [MakeChecks.laidMetH_plain _ _ _ (by kernel_rfl)] at h
  obtain ⟨aText, _, hvText, _⟩ := laid_sentinel h Tryd.bpText Tryd.bqText Tryd.underlying26 Tryd.row179 Tryd.underlying179 Tryd.underlying197 rfl rfl Tryd.underlying9 Tryd.cells197 Tryd.cells9
  obtain ⟨aBound, _, hvBound, _⟩ := laid_sentinel h.tail Tryd.bpBound Tryd.bqBound Tryd.underlying26 Tryd.row179 Tryd.underlying179 Tryd.underlying197 rfl rfl Tryd.underlying9 Tryd.cells197 Tryd.cells9
  obtain ⟨aName, _, hvName, _⟩ := laid_sentinel h.tail.tail Tryd.bpName Tryd.bqName Tryd.underlying26 Tryd.row179 Tryd.underlying179 Tryd.underlying197 rfl rfl Tryd.underlying9 Tryd.cells197 Tryd.cells9
  obtain ⟨aFull, _, hvFull, _⟩ := laid_sentinel h.tail.tail.tail Tryd.bpFull Tryd.bqFull Tryd.underlying26 Tryd.row179 Tryd.underlying179 Tryd.underlying197 rfl rfl Tryd.underlying9 Tryd.cells197 Tryd.cells9
  obtain ⟨aOrder, _, hvOrder, _⟩ := laid_sentinel h.tail.tail.tail.tail Tryd.bpOrder Tryd.bqOrder Tryd.underlying26 Tryd.row179 Tryd.underlying179 Tryd.underlying197 rfl rfl Tryd.underlying9 Tryd.cells197 Tryd.cells9
  exact ⟨⟨⟨_, _, _, _, _, _, _, _⟩, _, _⟩, ⟨by simpa using World.var?_cell Tryd.bpBound hvBound 0, by simpa using World.var?_cell Tryd.bpName hvName 0, by simpa using World.var?_cell Tryd.bpFull hvFull 0, by simpa using World.var?_cell Tryd.bpOrder hvOrder 0⟩, by simpa using World.var?_cell Tryd.bpText hvText 0⟩
theorem door_metB5 (os : Os) (args : Array Value) : laidMetH Tryd.prog laidB5 ((World.doorLaid Tryd.prog 400 os).forCall (fun _ _ => 0) ⟨#[], args, []⟩).memory :=
  laidMetH_of_parts3 (fuel := 8) (laidMet_of_run' 8 (by kernel_rfl) (by kernel_rfl)) (by kernel_rfl) (by kernel_rfl)
end Go.Proofs.YtbflmkjlpopeaadDoor

namespace Go.Proofs.YtbflmkjlpopeaadDoor
open Go.ChangeShapes Go.WideShapes Go.ChangeAt Go.RowKit
open Go.Files (Fl)

theorem Tryd.fargcells62 : Tryd.prog.cellsOf 62 = 2 := by kernel_rfl
theorem Tryd.fargcells9 : Tryd.prog.cellsOf 9 = 1 := by kernel_rfl
/-- A struct of 2 fields. -/
theorem farg_struct {H : Type} {enc : TypeId × Value → H} {P : Program} {w : World} {base : Nat} {spare : Nat → Bool} {held : Bool} {t : TypeId} {f0 f1 : Field} {fuel : Nat} {cs : List Value} {x : DataW H × List MemPlace} (ht : P.underlying t = some (.struct #[f0, f1])) (h : DataW.trod enc P w base spare held fuel t cs = some x) :
    ∃ y0 y1 n, DataW.trod enc P w base spare held n f0.type ((cs.drop f0.offset).take (P.cellsOf f0.type)) = some y0 ∧ DataW.trod enc P w base spare held n f1.type ((cs.drop f1.offset).take (P.cellsOf f1.type)) = some y1 := by
  obtain ⟨xs, n, _, rfl, hl, hlen, hf⟩ := DataW.trod_struct ht h
  match xs, hlen with
  | [y0, y1], _ => exact ⟨y0, y1, n, by simpa using hf 0 f0 rfl, by simpa using hf 1 f1 rfl⟩

set_option maxRecDepth 100000 in
/-- One element. -/
theorem farg_one {H : Type} {enc : TypeId × Value → H} {W : World} {base : Nat} {spare : Nat → Bool} {held : Bool} {n : Nat} {ad : Addr} {cs : List Value} {x : DataW H × List MemPlace}
    (h1 : W.cells? base ad 2 = some cs) (h2 : DataW.trod enc Tryd.prog W base spare held n 62 cs = some x) :
    ∃ o : Fl, W.cell? (ad.add 0) = some (.string o.name) ∧ W.cell? (ad.add 1) = some (.string o.data) := by
  obtain ⟨_, hlen, hcell⟩ := World.cells?_some h1
  obtain ⟨v0, v1, rfl⟩ : ∃ v0 v1, cs = [v0, v1] := by
    match cs, hlen with
    | [v0, v1], _ => exact ⟨v0, v1, rfl⟩
  obtain ⟨y0, y1, k, g0, g1⟩ := farg_struct Tryd.underlying62 h2
  simp only [Tryd.fargcells9] at g0 g1
  obtain ⟨z0, e0, _, _⟩ := DataW.trod_string Tryd.underlying9 g0
  obtain ⟨z1, e1, _, _⟩ := DataW.trod_string Tryd.underlying9 g1
  simp at e0 e1
  subst e0 e1
  have c0 := hcell 0 (by omega)
  have c1 := hcell 1 (by omega)
  exact ⟨⟨z0, z1⟩, by simpa using c0, by simpa using c1⟩

theorem farg_row {H : Type} {enc : TypeId × Value → H} {W : World} {base : Nat} {spare : Nat → Bool} {held : Bool} {fuel : Nat} {a : Option Addr} {len cap : Nat} {x : DataW H × List MemPlace}
    (h : DataW.trod enc Tryd.prog W base spare held fuel 32 [.slice a len cap] = some x) : ∃ l : List Fl, l.length = len ∧ FRow W (.slice a l.length cap) l := by
  rcases Go.Deep.open_slice Tryd.underlying32 h with ⟨hcs, _⟩ | ⟨ad, len', cap', m, n, D, Pl, hcs, hb, hl, hm, hmm, rfl, hx⟩
  · simp at hcs
    obtain ⟨rfl, rfl, rfl⟩ := hcs
    exact ⟨[], rfl, ⟨none, 0, rfl, fun h => by simp at h⟩⟩
  · simp at hcs
    obtain ⟨rfl, rfl, rfl⟩ := hcs
    have hlm : len ≤ m := by rw [hmm]; split <;> omega
    have each : ∀ i, i < len → ∃ o : Fl, W.cell? ((ad.add (i * 2)).add 0) = some (.string o.name) ∧ W.cell? ((ad.add (i * 2)).add 1) = some (.string o.data) := by
      intro i hi
      obtain ⟨cs', h1, h2⟩ := hx i (by omega)
      rw [Tryd.fargcells62] at h1
      exact farg_one h1 h2
    obtain ⟨f, hf⟩ := Go.Deep.choose_lt each
    have hll : ((List.range len).map f).length = len := by simp
    refine ⟨(List.range len).map f, hll, ⟨some ad, cap, rfl, fun hp => ?_⟩⟩
    obtain ⟨bl, off, spot⟩ := ad
    have h0 := (hf 0 (by omega)).1
    have hspot : spot = none := by simpa [Addr.add] using World.cell?_spot h0
    subst hspot
    refine ⟨bl, off, rfl, fun j hj => ?_⟩
    have hj' : j < len := by omega
    obtain ⟨k0, k1⟩ := hf j hj'
    have eg : ((List.range len).map f)[j] = f j := by simp
    rw [eg]
    rw [Go.Deep.add_add, add_plain] at k0 k1
    exact ⟨by simpa using k0, by simpa [Nat.add_assoc] using k1⟩
end Go.Proofs.YtbflmkjlpopeaadDoor

namespace Go.Proofs.YtbflmkjlpopeaadDoor
open Go.RowKit
open Go.Files (Fl Ln getF dropF putF faultF keyF isNm)

/-- Files that a law may hand in. -/
def Fair (l : List Fl) : Prop := l.length ≤ 900 ∧ ∀ x ∈ l, x.name.size ≤ 1000000 ∧ x.data.size ≤ 1000000
/-- The lines that a list comes to. -/
def listF (l : List Fl) : List Ln := if (faultF (l.map keyF)).1 = 0 then l.map lnOf else []
/-- Where no error is met. -/
structure FilesGet : Prop where
  get : ∀ v l a W, FRow W v l → Fair l → a.size ≤ 1000000 → Calls Tryd.prog 20 #[v, .string a] W fun r w' => r = .returned (.tuple #[.string (gOut (getF l a)).1, .bool (gOut (getF l a)).2]) ∧ Below W.heap.size W w'
/-- Where it is asked no more than whether there is an error: Env: what the errors' variables hold. -/
structure FilesAll (Env : World → Prop) : Prop where
  put : ∀ v l a d W, FRow W v l → Fair l → a.size ≤ 1000000 → d.size ≤ 1000000 → Env W → Calls Tryd.prog 25 #[v, .string a, .string d] W fun r w' =>
    (∃ u x, r = .returned (.tuple #[u, x]) ∧ FRow w' u (putF l a d).1 ∧ NilOr x (putF l a d).2.1) ∧ Below W.heap.size W w'
  list : ∀ v l W, FRow W v l → Fair l → Env W → Calls Tryd.prog 27 #[v] W fun r w' =>
    (∃ u x, r = .returned (.tuple #[u, x]) ∧ LRow w' u (listF l) ∧ NilOr x (faultF (l.map keyF)).1) ∧ Below W.heap.size W w'

set_option maxHeartbeats 2000000 in
set_option maxRecDepth 100000 in
/-- The closed fact. -/
theorem filed_ok (Env : World → Prop) (w : World) (hS : Env w) (hEB : ∀ w w', Env w → Below w.heap.size w w' → Env w') (hG : FilesGet) (hA : FilesAll Env) :
    Calls Tryd.prog 12 #[] w fun r w' => r = .returned (.bool true) ∧ Below w.heap.size w w' := by
  have hfair : Fair [⟨⟨#[97]⟩, ⟨#[49, 50, 51, 52, 53, 54, 55, 56, 57]⟩⟩] := ⟨by decide, by decide⟩
  have HP := hide (hA.put (.slice none 0 0) [] ⟨#[97]⟩ ⟨#[49, 50, 51, 52, 53, 54, 55, 56, 57]⟩ w (Row2.nil w) ⟨by decide, by simp⟩ (by decide) (by decide) hS)
  rw [show putF [] ⟨#[97]⟩ ⟨#[49, 50, 51, 52, 53, 54, 55, 56, 57]⟩ = ([⟨⟨#[97]⟩, ⟨#[49, 50, 51, 52, 53, 54, 55, 56, 57]⟩⟩], 0, -1) from by decide] at HP
  have HL := hide (fun v W (h : FRow W v [⟨⟨#[97]⟩, ⟨#[49, 50, 51, 52, 53, 54, 55, 56, 57]⟩⟩]) (k : Env W) => hA.list v _ W h hfair k)
  have hl : listF [⟨⟨#[97]⟩, ⟨#[49, 50, 51, 52, 53, 54, 55, 56, 57]⟩⟩] = [⟨⟨#[97]⟩, 9, 3421780262⟩] := by decide
  rw [hl, show (faultF ([⟨⟨#[97]⟩, ⟨#[49, 50, 51, 52, 53, 54, 55, 56, 57]⟩⟩].map keyF)).1 = 0 from by decide] at HL
  have HG := hide (fun v W (h : FRow W v [⟨⟨#[97]⟩, ⟨#[49, 50, 51, 52, 53, 54, 55, 56, 57]⟩⟩]) => hG.get v _ ⟨#[97]⟩ W h hfair (by decide))
  rw [show gOut (getF [⟨⟨#[97]⟩, ⟨#[49, 50, 51, 52, 53, 54, 55, 56, 57]⟩⟩] ⟨#[97]⟩) = (⟨#[49, 50, 51, 52, 53, 54, 55, 56, 57]⟩, true) from by decide] at HG
  simp only at HP HL HG
  have HV := hide (fun w' hb => hEB w w' hS hb)
  clear hS hEB hG hA hfair hl
  go_enter Tryd.func12, Tryd.ntmps12
  go_wp2_with fail
  refine HP.out.mono ?_
  rintro r w1 ⟨⟨u, x, rfl, hu, hx⟩, hb1⟩
  obtain rfl := hx.none rfl
  have Hu := hide hu
  have Hb1 := hide hb1
  obtain ⟨a1, c1, rfl, _⟩ := hu
  clear hx hb1 HP
  go_wp2_with fail
  refine (HL.out _ _ Hu.out (HV.out _ Hb1.out)).mono ?_
  rintro r w2 ⟨⟨z, y, rfl, hz, hy⟩, hb2⟩
  obtain rfl := hy.none rfl
  have Hu2 := hide (Hu.out.below hb2)
  have Hz := hide hz
  have Hb2 := hide (bthen Hb1.out hb2)
  obtain ⟨a2, c2, rfl, hz'⟩ := hz
  obtain ⟨b, o, rfl, hc⟩ := hz' (by decide)
  obtain ⟨_, _, e2⟩ := hc 0 (by decide)
  clear hy hb2 HL Hu Hb1 hc hz'
  go_wp2_with fail
  refine (HG.out _ _ Hu2.out).mono ?_
  rintro r w3 ⟨rfl, hb3⟩
  have k2 := (hb3.cell (World.block_lt_of_cell? _ _ e2)).trans e2
  have Hb3 := hide (bthen Hb2.out hb3)
  clear hb3 e2 HG Hb2 Hu2 Hz
  go_wp2
  go_ret
  exact ⟨rfl, Hb3.out⟩
end Go.Proofs.YtbflmkjlpopeaadDoor

namespace Go.Proofs.YtbflmkjlpopeaadDoor
open Go.RowKit

theorem Tryd.info62 : (Tryd.prog.info? 62).map (fun i => (i.zero, i.size, i.bytes)) = some (some (.agg #[.string ⟨#[]⟩, .string ⟨#[]⟩]), 2, 32) := by kernel_rfl
end Go.Proofs.YtbflmkjlpopeaadDoor

namespace Go.Proofs.YtbflmkjlpopeaadDoor
open Go.RowKit
open Go.Files (Fl)

/-- Is a file too long for a law? -/
def longX (most : Int) (x : Fl) : Bool := decide (30 < x.name.size) || (decide (most < x.data.size) && decide (x.data.size ≠ 4001))
def longF (l : List Fl) (most : Int) : Bool := decide (25 < l.length) || l.any (longX most)
theorem longF_false {l : List Fl} {most : Int} (h : longF l most = false) : l.length ≤ 25 ∧ ∀ x ∈ l, x.name.size ≤ 30 ∧ ((x.data.size : Int) ≤ most ∨ x.data.size = 4001) := by
  simp only [longF, Bool.or_eq_false_iff, decide_eq_false_iff_not, List.any_eq_false] at h
  refine ⟨by omega, fun o ho => ?_⟩
  have := h.2 o ho
  simp only [longX, Bool.or_eq_true, Bool.and_eq_true, decide_eq_true_eq] at this
  omega

set_option maxHeartbeats 2000000 in
set_option maxRecDepth 100000 in
theorem longFiles_ok (v : Value) (l : List Fl) (most : Int) (w : World) (hv : FRow w v l) :
    Calls Tryd.prog 13 #[v, .int .i64 most] w fun r w' => r = .returned (.int .i64 (bit (longF l most))) ∧ w' = w := by
  obtain ⟨a, c, rfl, hv⟩ := hv
  have HV := hide hv
  clear hv
  by_cases h25 : 25 < l.length
  · have h25' : (25 : Int) < l.length := by omega
    have HB : Hid (longF l most = true) := by simp [Hid, longF, h25]
    go_enter Tryd.func13, Tryd.ntmps13
    go_wp2_with fail
    go_ret
    exact ⟨by rw [HB.out]; rfl, rfl⟩
  · have h25' : (l.length : Int) ≤ 25 := by omega
    have H0 : Hid ((l.drop 0).any (longX most) = longF l most) := by rw [List.drop_zero]; simp only [Hid, longF]; rw [decide_eq_false (by omega)]; rfl
    generalize longF l most = B at *
    go_enter Tryd.func13, Tryd.ntmps13
    go_wp2_with fail
    go_loopw [5] (fun t wr => ∃ j : Nat, t = .int .i64 j ∧ j ≤ l.length ∧ Hid ((l.drop j).any (longX most) = B) ∧ wr = w) (fun t _ => l.length - (intOf t).toNat)
    case atStart => exact ⟨0, rfl, by omega, H0.out, rfl⟩
    case round =>
      clear H0
      obtain ⟨j, rfl, hj, HI, rfl⟩ := hrel
      by_cases hlt : j < l.length
      · have hlt' : (j : Int) < l.length := by omega
        obtain ⟨b, o, rfl, hc⟩ := HV.out (by omega)
        obtain ⟨d0, d1⟩ := hc j hlt
        have hI := HI.out
        rw [List.drop_eq_getElem_cons hlt, List.any_cons] at hI
        have HI' := hide hI
        clear hc HV HI hI
        generalize l[j] = x at *
        obtain ⟨k, d⟩ := x
        simp only [longX] at d0 d1 HI'
        by_cases g1 : 30 < k.size
        · have c1 : decide ((30 : Int) < k.size) = true := by simp; omega
          have hI := HI'.out
          rw [decide_eq_true g1, Bool.true_or, Bool.true_or] at hI
          subst hI
          clear g1 HI'
          go_wp2_with fail
          go_ret
          exact ⟨rfl, rfl⟩
        · have c1 : decide ((30 : Int) < k.size) = false := by simp; omega
          by_cases g2 : most < d.size
          · have c2 : decide (most < (d.size : Int)) = true := by simp; omega
            by_cases g3 : d.size = 4001
            · have c3 : ((d.size : Int) != 4001) = false := by simp; omega
              have hI := HI'.out
              rw [decide_eq_false g1, decide_eq_false (show ¬ d.size ≠ 4001 by omega), Bool.and_false, Bool.false_or, Bool.false_or] at hI
              have HI := hide hI
              clear g1 g2 g3 HI' hI
              go_wp2_with fail
              go_roundw
              case rel => exact ⟨j + 1, by go_num, by omega, HI.out, trivial⟩
              case measure => simp [intOf]; omega
            · have c3 : ((d.size : Int) != 4001) = true := by simp; omega
              have hI := HI'.out
              rw [decide_eq_true g2, decide_eq_true (show d.size ≠ 4001 from g3), Bool.and_true, Bool.or_true, Bool.true_or] at hI
              subst hI
              clear g1 g2 g3 HI'
              go_wp2_with fail
              go_ret
              exact ⟨rfl, rfl⟩
          · have c2 : decide (most < (d.size : Int)) = false := by simp; omega
            have hI := HI'.out
            rw [decide_eq_false g1, decide_eq_false g2, Bool.false_and, Bool.false_or, Bool.false_or] at hI
            have HI := hide hI
            clear g1 g2 HI' hI
            go_wp2_with fail
            go_roundw
            case rel => exact ⟨j + 1, by go_num, by omega, HI.out, trivial⟩
            case measure => simp [intOf]; omega
      · have hle : (l.length : Int) ≤ (j : Int) := by omega
        have hI := HI.out
        rw [List.drop_eq_nil_of_le (by omega), List.any_nil] at hI
        subst hI
        clear HI
        go_wp2_with fail
        go_ret
        exact ⟨rfl, rfl⟩

set_option maxHeartbeats 1000000 in
set_option maxRecDepth 100000 in
theorem ownFiles_none (a : Option Addr) (c : Nat) (w : World) :
    Calls Tryd.prog 14 #[.slice a 0 c] w fun r w' => (∃ u, r = .returned u ∧ FRow w' u []) ∧ Below w.heap.size w w' := by
  obtain ⟨i0, hi, hz0, hz1, hz2⟩ := info_parts Tryd.info62
  cases a with
  | none =>
    go_enter Tryd.func14, Tryd.ntmps14
    go_wp2
    go_ret
    exact ⟨⟨_, rfl, ⟨none, 0, rfl, fun h => by simp at h⟩⟩, Below.refl _ _⟩
  | some ad =>
    go_enter Tryd.func14, Tryd.ntmps14
    go_wp2_with (first | (at_builtin; refine wpList_append_own _ rfl (.tmp 4) (.tmp 5) 32 rfl w.heap.size 62 i0 (.agg #[.string ⟨#[]⟩, .string ⟨#[]⟩]) 2 32 Tryd.underlying32 hi hz0 hz1 hz2 rfl (by decide) (.slice none 0 0) 0 [] rfl ?own ad 0 c [] rfl rfl ?c1 ?c2 ?b1 ?b2 ?b3 ?next))
    case own => exact World.ownsRow_nil _ _ _ _
    case c1 => intro j u hu; simp at hu
    case c2 => intro u hu; cases hu
    case b1 => unfold maxLen; omega
    case b2 => omega
    case b3 => exact Nat.le_refl _
    case next =>
      intro v5 w5 hown5 hgrow5 _
      have Hb5 := hide ((Below.refl w.heap.size w).grown hgrow5 (Nat.le_refl _) (fun k hk => by cases hk))
      have Hown5 := hide hown5
      clear hown5 hgrow5
      go_wp2_with fail
      go_ret
      exact ⟨⟨_, rfl, Row2.of_own (l := ([] : List Fl)) Hown5.out⟩, Hb5.out⟩

set_option maxHeartbeats 1000000 in
set_option maxRecDepth 100000 in
theorem ownFiles_ok (v : Value) (l : List Fl) (w : World) (hv : FRow w v l) (hl : l.length ≤ 1000) :
    Calls Tryd.prog 14 #[v] w fun r w' => (∃ u, r = .returned u ∧ FRow w' u l) ∧ Below w.heap.size w w' := by
  obtain ⟨i0, hi, hz0, hz1, hz2⟩ := info_parts Tryd.info62
  have hv' := hv
  obtain ⟨a, c, rfl, _⟩ := hv'
  by_cases hp : 0 < l.length
  · obtain ⟨b, o, rfl, hn⟩ := Row2.news hv hp
    have Hn := hide hn
    clear hn hv
    go_enter Tryd.func14, Tryd.ntmps14
    go_wp2_with (first | (at_builtin; refine wpList_append_own _ rfl (.tmp 4) (.tmp 5) 32 rfl w.heap.size 62 i0 (.agg #[.string ⟨#[]⟩, .string ⟨#[]⟩]) 2 32 Tryd.underlying32 hi hz0 hz1 hz2 rfl (by decide) (.slice none 0 0) 0 [] rfl ?own ⟨b, o, none⟩ l.length c (fcs l) rfl ?c0 ?c1 ?c2 ?b1 ?b2 ?b3 ?next))
    case own => exact World.ownsRow_nil _ _ _ _
    case c0 => exact cs2_length l
    case c1 => intro j u hu; have h := Hn.out j u hu; rw [Go.WideShapes.add_plain] at h; exact h
    case c2 => intro u hu; simp only [fcs, cs2, List.mem_flatMap] at hu; obtain ⟨x, _, hu⟩ := hu; simp at hu; rcases hu with rfl | rfl <;> rfl
    case b1 => unfold maxLen; omega
    case b2 => omega
    case next =>
      intro v5 w5 hown5 hgrow5 _
      have Hb5 := hide ((Below.refl w.heap.size w).grown hgrow5 (Nat.le_refl _) (fun k hk => by cases hk))
      have Hown5 := hide hown5
      clear hown5 hgrow5
      go_wp2_with fail
      go_ret
      refine ⟨⟨_, rfl, ?_⟩, Hb5.out⟩
      have h := Hown5.out
      exact Row2.of_own h
  · have hz : l = [] := by cases l with
      | nil => rfl
      | cons x r => simp at hp
    subst hz
    exact ownFiles_none a c w

end Go.Proofs.YtbflmkjlpopeaadDoor
