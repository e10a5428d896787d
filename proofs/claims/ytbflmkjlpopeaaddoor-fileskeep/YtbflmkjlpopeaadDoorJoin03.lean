/-
  An argument of type []api.File reads as files.
  What the laws of stage 7 ask of package files, as contracts (shown elsewhere over the program's own text); the closed fact of stage 7.
  Files as cells: what the program's table says of their type.
  Contracts of the laws' LongFiles, OwnFiles over this dump.
  Plain mathematics of numbers as bytes: 'enc' (seven bits a byte, the lowest first) and 'scan' (the reader's loop), and that what was written is read back, whatever stands behind. No program, no walk.
-/
import Derived.Test.YtbflmkjlpopeaadDoorJoin02
import Derived.Deep.Slices
import Derived.Deep.Strs
import Derived.BigQuiet
import Derived.Deep.QuietTactic
import Derived.Laws.Cover1
namespace Go.Proofs.YtbflmkjlpopeaadDoor
open Go.ChangeShapes Go.WideShapes Go.ChangeAt Go.RowKit
open Go.Files (Fl)

theorem Tryd.fargcells62 : Tryd.prog.cellsOf 62 = 2 := by kernel_rfl
theorem Tryd.fargcells9 : Tryd.prog.cellsOf 9 = 1 := by kernel_rfl
/-- A struct of 2 fields. -/
theorem farg_struct {H : Type} {enc : TypeId × Value → H} {P : Program} {w : World} {base : Nat} {spare : Nat → Bool} {held : Bool} {t : TypeId} {f0 f1 : Field} {fuel : Nat} {cs : List Value} {x : DataW H × List MemPlace} (ht : P.underlying t = some (.struct #[f0, f1])) (h : DataW.trod enc P w base spare held fuel t cs = some x) :
    ∃ y0 y1 n, DataW.trod enc P w base spare held n f0.type ((cs.drop f0.offset).take (P.cellsOf f0.type)) = some y0 ∧ DataW.trod enc P w base spare held n f1.type ((cs.drop f1.offset).take (P.cellsOf f1.type)) = some y1 := by
  obtain ⟨xs, n, _, rfl, hl, hlen, hf⟩ := DataW.trod_struct ht h
  match xs, hlen with
  | [y0, y1], _ => exact ⟨y0, y1, n, by simpa using hf 0 f0 rfl, by simpa using hf 1 f1 rfl⟩

set_option maxRecDepth 100000 in
/-- One element. -/
theorem farg_one {H : Type} {enc : TypeId × Value → H} {W : World} {base : Nat} {spare : Nat → Bool} {held : Bool} {n : Nat} {ad : Addr} {cs : List Value} {x : DataW H × List MemPlace}
    (h1 : W.cells? base ad 2 = some cs) (h2 : DataW.trod enc Tryd.prog W base spare held n 62 cs = some x) :
    ∃ o : Fl, W.cell? (ad.add 0) = some (.string o.name) ∧ W.cell? (ad.add 1) = some (.string o.data) := by
  obtain ⟨_, hlen, hcell⟩ := World.cells?_some h1
  obtain ⟨v0, v1, rfl⟩ : ∃ v0 v1, cs = [v0, v1] := by
    match cs, hlen with
    | [v0, v1], _ => exact ⟨v0, v1, rfl⟩
  obtain ⟨y0, y1, k, g0, g1⟩ := farg_struct Tryd.underlying62 h2
  simp only [Tryd.fargcells9] at g0 g1
  obtain ⟨z0, e0, _, _⟩ := DataW.trod_string Tryd.underlying9 g0
  obtain ⟨z1, e1, _, _⟩ := DataW.trod_string Tryd.underlying9 g1
  simp at e0 e1
  subst e0 e1
  have c0 := hcell 0 (by omega)
  have c1 := hcell 1 (by omega)
  exact ⟨⟨z0, z1⟩, by simpa using c0, by simpa using c1⟩

theorem farg_row {H : Type} {enc : TypeId × Value → H} {W : World} {base : Nat} {spare : Nat → Bool} {held : Bool} {fuel : Nat} {a : Option Addr} {len cap : Nat} {x : DataW H × List MemPlace}
    (h : DataW.trod enc Tryd.prog W base spare held fuel 32 [.slice a len cap] = some x) : ∃ l : List Fl, l.length = len ∧ FRow W (.slice a l.length cap) l := by
  rcases Go.Deep.open_slice Tryd.underlying32 h with ⟨hcs, _⟩ | ⟨ad, len', cap', m, n, D, Pl, hcs, hb, hl, hm, hmm, rfl, hx⟩
  · simp at hcs
    obtain ⟨rfl, rfl, rfl⟩ := hcs
    exact ⟨[], rfl, ⟨none, 0, rfl, fun h => by simp at h⟩⟩
  · simp at hcs
    obtain ⟨rfl, rfl, rfl⟩ := hcs
    have hlm : len ≤ m := by rw [hmm]; split <;> omega
    have each : ∀ i, i < len → ∃ o : Fl, W.cell? ((ad.add (i * 2)).add 0) = some (.string o.name) ∧ W.cell? ((ad.add (i * 2)).add 1) = some (.string o.data) := by
      intro i hi
      obtain ⟨cs', h1, h2⟩ := hx i (by omega)
      rw [Tryd.fargcells62] at h1
      exact farg_one h1 h2
    obtain ⟨f, hf⟩ := Go.Deep.choose_lt each
    have hll : ((List.range len).map f).length = len := by simp
    refine ⟨(List.range len).map f, hll, ⟨some ad, cap, rfl, fun hp => ?_⟩⟩
    obtain ⟨bl, off, spot⟩ := ad
    have h0 := (hf 0 (by omega)).1
    have hspot : spot = none := by simpa [Addr.add] using World.cell?_spot h0
    subst hspot
    refine ⟨bl, off, rfl, fun j hj => ?_⟩
    have hj' : j < len := by omega
    obtain ⟨k0, k1⟩ := hf j hj'
    have eg : ((List.range len).map f)[j] = f j := by simp
    rw [eg]
    rw [Go.Deep.add_add, add_plain] at k0 k1
    exact ⟨by simpa using k0, by simpa [Nat.add_assoc] using k1⟩
end Go.Proofs.YtbflmkjlpopeaadDoor

namespace Go.Proofs.YtbflmkjlpopeaadDoor
open Go.RowKit
open Go.Files (Fl Ln getF dropF putF faultF keyF isNm)

/-- Files that a law may hand in. -/
def Fair (l : List Fl) : Prop := l.length ≤ 900 ∧ ∀ x ∈ l, x.name.size ≤ 1000000 ∧ x.data.size ≤ 1000000
/-- The lines that a list comes to. -/
def listF (l : List Fl) : List Ln := if (faultF (l.map keyF)).1 = 0 then l.map lnOf else []
/-- Where no error is met. -/
structure FilesGet : Prop where
  get : ∀ v l a W, FRow W v l → Fair l → a.size ≤ 1000000 → Calls Tryd.prog 20 #[v, .string a] W fun r w' => r = .returned (.tuple #[.string (gOut (getF l a)).1, .bool (gOut (getF l a)).2]) ∧ Below W.heap.size W w'
/-- Where it is asked no more than whether there is an error: Env: what the errors' variables hold. -/
structure FilesAll (Env : World → Prop) : Prop where
  put : ∀ v l a d W, FRow W v l → Fair l → a.size ≤ 1000000 → d.size ≤ 1000000 → Env W → Calls Tryd.prog 25 #[v, .string a, .string d] W fun r w' =>
    (∃ u x, r = .returned (.tuple #[u, x]) ∧ FRow w' u (putF l a d).1 ∧ NilOr x (putF l a d).2.1) ∧ Below W.heap.size W w'
  list : ∀ v l W, FRow W v l → Fair l → Env W → Calls Tryd.prog 27 #[v] W fun r w' =>
    (∃ u x, r = .returned (.tuple #[u, x]) ∧ LRow w' u (listF l) ∧ NilOr x (faultF (l.map keyF)).1) ∧ Below W.heap.size W w'

set_option maxHeartbeats 2000000 in
set_option maxRecDepth 100000 in
/-- The closed fact. -/
theorem filed_ok (Env : World → Prop) (w : World) (hS : Env w) (hEB : ∀ w w', Env w → Below w.heap.size w w' → Env w') (hG : FilesGet) (hA : FilesAll Env) :
    Calls Tryd.prog 12 #[] w fun r w' => r = .returned (.bool true) ∧ Below w.heap.size w w' := by
  have hfair : Fair [⟨⟨#[97]⟩, ⟨#[49, 50, 51, 52, 53, 54, 55, 56, 57]⟩⟩] := ⟨by decide, by decide⟩
  have HP := hide (hA.put (.slice none 0 0) [] ⟨#[97]⟩ ⟨#[49, 50, 51, 52, 53, 54, 55, 56, 57]⟩ w (Row2.nil w) ⟨by decide, by simp⟩ (by decide) (by decide) hS)
  rw [show putF [] ⟨#[97]⟩ ⟨#[49, 50, 51, 52, 53, 54, 55, 56, 57]⟩ = ([⟨⟨#[97]⟩, ⟨#[49, 50, 51, 52, 53, 54, 55, 56, 57]⟩⟩], 0, -1) from by decide] at HP
  have HL := hide (fun v W (h : FRow W v [⟨⟨#[97]⟩, ⟨#[49, 50, 51, 52, 53, 54, 55, 56, 57]⟩⟩]) (k : Env W) => hA.list v _ W h hfair k)
  have hl : listF [⟨⟨#[97]⟩, ⟨#[49, 50, 51, 52, 53, 54, 55, 56, 57]⟩⟩] = [⟨⟨#[97]⟩, 9, 3421780262⟩] := by decide
  rw [hl, show (faultF ([⟨⟨#[97]⟩, ⟨#[49, 50, 51, 52, 53, 54, 55, 56, 57]⟩⟩].map keyF)).1 = 0 from by decide] at HL
  have HG := hide (fun v W (h : FRow W v [⟨⟨#[97]⟩, ⟨#[49, 50, 51, 52, 53, 54, 55, 56, 57]⟩⟩]) => hG.get v _ ⟨#[97]⟩ W h hfair (by decide))
  rw [show gOut (getF [⟨⟨#[97]⟩, ⟨#[49, 50, 51, 52, 53, 54, 55, 56, 57]⟩⟩] ⟨#[97]⟩) = (⟨#[49, 50, 51, 52, 53, 54, 55, 56, 57]⟩, true) from by decide] at HG
  simp only at HP HL HG
  have HV := hide (fun w' hb => hEB w w' hS hb)
  clear hS hEB hG hA hfair hl
  go_enter Tryd.func12, Tryd.ntmps12
  go_wp2_with fail
  refine HP.out.mono ?_
  rintro r w1 ⟨⟨u, x, rfl, hu, hx⟩, hb1⟩
  obtain rfl := hx.none rfl
  have Hu := hide hu
  have Hb1 := hide hb1
  obtain ⟨a1, c1, rfl, _⟩ := hu
  clear hx hb1 HP
  go_wp2_with fail
  refine (HL.out _ _ Hu.out (HV.out _ Hb1.out)).mono ?_
  rintro r w2 ⟨⟨z, y, rfl, hz, hy⟩, hb2⟩
  obtain rfl := hy.none rfl
  have Hu2 := hide (Hu.out.below hb2)
  have Hz := hide hz
  have Hb2 := hide (bthen Hb1.out hb2)
  obtain ⟨a2, c2, rfl, hz'⟩ := hz
  obtain ⟨b, o, rfl, hc⟩ := hz' (by decide)
  obtain ⟨_, _, e2⟩ := hc 0 (by decide)
  clear hy hb2 HL Hu Hb1 hc hz'
  go_wp2_with fail
  refine (HG.out _ _ Hu2.out).mono ?_
  rintro r w3 ⟨rfl, hb3⟩
  have k2 := (hb3.cell (World.block_lt_of_cell? _ _ e2)).trans e2
  have Hb3 := hide (bthen Hb2.out hb3)
  clear hb3 e2 HG Hb2 Hu2 Hz
  go_wp2
  go_ret
  exact ⟨rfl, Hb3.out⟩
end Go.Proofs.YtbflmkjlpopeaadDoor

namespace Go.Proofs.YtbflmkjlpopeaadDoor
open Go.RowKit

theorem Tryd.info62 : (Tryd.prog.info? 62).map (fun i => (i.zero, i.size, i.bytes)) = some (some (.agg #[.string ⟨#[]⟩, .string ⟨#[]⟩]), 2, 32) := by kernel_rfl
end Go.Proofs.YtbflmkjlpopeaadDoor

namespace Go.Proofs.YtbflmkjlpopeaadDoor
open Go.RowKit
open Go.Files (Fl)

/-- Is a file too long for a law? -/
def longX (most : Int) (x : Fl) : Bool := decide (30 < x.name.size) || (decide (most < x.data.size) && decide (x.data.size ≠ 4001))
def longF (l : List Fl) (most : Int) : Bool := decide (25 < l.length) || l.any (longX most)
theorem longF_false {l : List Fl} {most : Int} (h : longF l most = false) : l.length ≤ 25 ∧ ∀ x ∈ l, x.name.size ≤ 30 ∧ ((x.data.size : Int) ≤ most ∨ x.data.size = 4001) := by
  simp only [longF, Bool.or_eq_false_iff, decide_eq_false_iff_not, List.any_eq_false] at h
  refine ⟨by omega, fun o ho => ?_⟩
  have := h.2 o ho
  simp only [longX, Bool.or_eq_true, Bool.and_eq_true, decide_eq_true_eq] at this
  omega

set_option maxHeartbeats 2000000 in
set_option maxRecDepth 100000 in
theorem longFiles_ok (v : Value) (l : List Fl) (most : Int) (w : World) (hv : FRow w v l) :
    Calls Tryd.prog 13 #[v, .int .i64 most] w fun r w' => r = .returned (.int .i64 (bit (longF l most))) ∧ w' = w := by
  obtain ⟨a, c, rfl, hv⟩ := hv
  have HV := hide hv
  clear hv
  by_cases h25 : 25 < l.length
  · have h25' : (25 : Int) < l.length := by omega
    have HB : Hid (longF l most = true) := by simp [Hid, longF, h25]
    go_enter Tryd.func13, Tryd.ntmps13
    go_wp2_with fail
    go_ret
    exact ⟨by rw [HB.out]; rfl, rfl⟩
  · have h25' : (l.length : Int) ≤ 25 := by omega
    have H0 : Hid ((l.drop 0).any (longX most) = longF l most) := by rw [List.drop_zero]; simp only [Hid, longF]; rw [decide_eq_false (by omega)]; rfl
    generalize longF l most = B at *
    go_enter Tryd.func13, Tryd.ntmps13
    go_wp2_with fail
    go_loopw [5] (fun t wr => ∃ j : Nat, t = .int .i64 j ∧ j ≤ l.length ∧ Hid ((l.drop j).any (longX most) = B) ∧ wr = w) (fun t _ => l.length - (intOf t).toNat)
    case atStart => exact ⟨0, rfl, by omega, H0.out, rfl⟩
    case round =>
      clear H0
      obtain ⟨j, rfl, hj, HI, rfl⟩ := hrel
      by_cases hlt : j < l.length
      · have hlt' : (j : Int) < l.length := by omega
        obtain ⟨b, o, rfl, hc⟩ := HV.out (by omega)
        obtain ⟨d0, d1⟩ := hc j hlt
        have hI := HI.out
        rw [List.drop_eq_getElem_cons hlt, List.any_cons] at hI
        have HI' := hide hI
        clear hc HV HI hI
        generalize l[j] = x at *
        obtain ⟨k, d⟩ := x
        simp only [longX] at d0 d1 HI'
        by_cases g1 : 30 < k.size
        · have c1 : decide ((30 : Int) < k.size) = true := by simp; omega
          have hI := HI'.out
          rw [decide_eq_true g1, Bool.true_or, Bool.true_or] at hI
          subst hI
          clear g1 HI'
          go_wp2_with fail
          go_ret
          exact ⟨rfl, rfl⟩
        · have c1 : decide ((30 : Int) < k.size) = false := by simp; omega
          by_cases g2 : most < d.size
          · have c2 : decide (most < (d.size : Int)) = true := by simp; omega
            by_cases g3 : d.size = 4001
            · have c3 : ((d.size : Int) != 4001) = false := by simp; omega
              have hI := HI'.out
              rw [decide_eq_false g1, decide_eq_false (show ¬ d.size ≠ 4001 by omega), Bool.and_false, Bool.false_or, Bool.false_or] at hI
              have HI := hide hI
              clear g1 g2 g3 HI' hI
              go_wp2_with fail
              go_roundw
              case rel => exact ⟨j + 1, by go_num, by omega, HI.out, trivial⟩
              case measure => simp [intOf]; omega
            · have c3 : ((d.size : Int) != 4001) = true := by simp; omega
              have hI := HI'.out
              rw [decide_eq_true g2, decide_eq_true (show d.size ≠ 4001 from g3), Bool.and_true, Bool.or_true, Bool.true_or] at hI
              subst hI
              clear g1 g2 g3 HI'
              go_wp2_with fail
              go_ret
              exact ⟨rfl, rfl⟩
          · have c2 : decide (most < (d.size : Int)) = false := by simp; omega
            have hI := HI'.out
            rw [decide_eq_false g1, decide_eq_false g2, Bool.false_and, Bool.false_or, Bool.false_or] at hI
            have HI := hide hI
            clear g1 g2 HI' hI
            go_wp2_with fail
            go_roundw
            case rel => exact ⟨j + 1, by go_num, by omega, HI.out, trivial⟩
            case measure => simp [intOf]; omega
      · have hle : (l.length : Int) ≤ (j : Int) := by omega
        have hI := HI.out
        rw [List.drop_eq_nil_of_le (by omega), List.any_nil] at hI
        subst hI
        clear HI
        go_wp2_with fail
        go_ret
        exact ⟨rfl, rfl⟩

set_option maxHeartbeats 1000000 in
set_option maxRecDepth 100000 in
theorem ownFiles_none (a : Option Addr) (c : Nat) (w : World) :
    Calls Tryd.prog 14 #[.slice a 0 c] w fun r w' => (∃ u, r = .returned u ∧ FRow w' u []) ∧ Below w.heap.size w w' := by
  obtain ⟨i0, hi, hz0, hz1, hz2⟩ := info_parts Tryd.info62
  cases a with
  | none =>
    go_enter Tryd.func14, Tryd.ntmps14
    go_wp2
    go_ret
    exact ⟨⟨_, rfl, ⟨none, 0, rfl, fun h => by simp at h⟩⟩, Below.refl _ _⟩
  | some ad =>
    go_enter Tryd.func14, Tryd.ntmps14
    go_wp2_with (first | (at_builtin; refine wpList_append_own _ rfl (.tmp 4) (.tmp 5) 32 rfl w.heap.size 62 i0 (.agg #[.string ⟨#[]⟩, .string ⟨#[]⟩]) 2 32 Tryd.underlying32 hi hz0 hz1 hz2 rfl (by decide) (.slice none 0 0) 0 [] rfl ?own ad 0 c [] rfl rfl ?c1 ?c2 ?b1 ?b2 ?b3 ?next))
    case own => exact World.ownsRow_nil _ _ _ _
    case c1 => intro j u hu; simp at hu
    case c2 => intro u hu; cases hu
    case b1 => unfold maxLen; omega
    case b2 => omega
    case b3 => exact Nat.le_refl _
    case next =>
      intro v5 w5 hown5 hgrow5 _
      have Hb5 := hide ((Below.refl w.heap.size w).grown hgrow5 (Nat.le_refl _) (fun k hk => by cases hk))
      have Hown5 := hide hown5
      clear hown5 hgrow5
      go_wp2_with fail
      go_ret
      exact ⟨⟨_, rfl, Row2.of_own (l := ([] : List Fl)) Hown5.out⟩, Hb5.out⟩

set_option maxHeartbeats 1000000 in
set_option maxRecDepth 100000 in
theorem ownFiles_ok (v : Value) (l : List Fl) (w : World) (hv : FRow w v l) (hl : l.length ≤ 1000) :
    Calls Tryd.prog 14 #[v] w fun r w' => (∃ u, r = .returned u ∧ FRow w' u l) ∧ Below w.heap.size w w' := by
  obtain ⟨i0, hi, hz0, hz1, hz2⟩ := info_parts Tryd.info62
  have hv' := hv
  obtain ⟨a, c, rfl, _⟩ := hv'
  by_cases hp : 0 < l.length
  · obtain ⟨b, o, rfl, hn⟩ := Row2.news hv hp
    have Hn := hide hn
    clear hn hv
    go_enter Tryd.func14, Tryd.ntmps14
    go_wp2_with (first | (at_builtin; refine wpList_append_own _ rfl (.tmp 4) (.tmp 5) 32 rfl w.heap.size 62 i0 (.agg #[.string ⟨#[]⟩, .string ⟨#[]⟩]) 2 32 Tryd.underlying32 hi hz0 hz1 hz2 rfl (by decide) (.slice none 0 0) 0 [] rfl ?own ⟨b, o, none⟩ l.length c (fcs l) rfl ?c0 ?c1 ?c2 ?b1 ?b2 ?b3 ?next))
    case own => exact World.ownsRow_nil _ _ _ _
    case c0 => exact cs2_length l
    case c1 => intro j u hu; have h := Hn.out j u hu; rw [Go.WideShapes.add_plain] at h; exact h
    case c2 => intro u hu; simp only [fcs, cs2, List.mem_flatMap] at hu; obtain ⟨x, _, hu⟩ := hu; simp at hu; rcases hu with rfl | rfl <;> rfl
    case b1 => unfold maxLen; omega
    case b2 => omega
    case next =>
      intro v5 w5 hown5 hgrow5 _
      have Hb5 := hide ((Below.refl w.heap.size w).grown hgrow5 (Nat.le_refl _) (fun k hk => by cases hk))
      have Hown5 := hide hown5
      clear hown5 hgrow5
      go_wp2_with fail
      go_ret
      refine ⟨⟨_, rfl, ?_⟩, Hb5.out⟩
      have h := Hown5.out
      exact Row2.of_own h
  · have hz : l = [] := by cases l with
      | nil => rfl
      | cons x r => simp at hp
    subst hz
    exact ownFiles_none a c w

end Go.Proofs.YtbflmkjlpopeaadDoor

namespace Go.Num

/-- The bytes of n, with fuel: at most k + 1 bytes. -/
def encF : Nat → Nat → List UInt8
  | 0, n => [UInt8.ofNat n]
  | k + 1, n => if n < 128 then [UInt8.ofNat n] else UInt8.ofNat (n % 128 + 128) :: encF k (n / 128)
def enc (n : Nat) : List UInt8 := encF 5 n

theorem encF_length_pos (k n : Nat) : 0 < (encF k n).length := by
  cases k with
  | zero => simp [encF]
  | succ k => unfold encF; split <;> simp

theorem encF_length_le (k n : Nat) : (encF k n).length ≤ k + 1 := by
  induction k generalizing n with
  | zero => simp [encF]
  | succ k ih => unfold encF; split
                 · simp
                 · have := ih (n / 128); simp; omega

theorem enc_length_le (n : Nat) : (enc n).length ≤ 6 := encF_length_le 5 n

/-- A small number is one byte, whatever the fuel. -/
theorem encF_small (k n : Nat) (h : n < 128) : encF k n = [UInt8.ofNat n] := by
  cases k with
  | zero => rfl
  | succ k => unfold encF; rw [if_pos h]
theorem encF_big (k n : Nat) (h : 128 ≤ n) : encF (k + 1) n = UInt8.ofNat (n % 128 + 128) :: encF k (n / 128) := by
  rw [encF, if_neg (by omega)]

theorem toNat_ofNat (n : Nat) (h : n < 256) : (UInt8.ofNat n).toNat = n := by
  rw [UInt8.toNat_ofNat']; omega

/-- The reader's loop: fuel, what is left, the sum so far, the place. Answers the number and the last byte's place. -/
def scan : Nat → List UInt8 → Nat → Nat → Option (Nat × Nat)
  | 0, _, _, _ => none
  | _ + 1, [], _, _ => none
  | k + 1, b :: r, acc, i => if b.toNat < 128 then some (acc + b.toNat % 128 * 128 ^ i, i) else scan k r (acc + b.toNat % 128 * 128 ^ i) (i + 1)

theorem scan_enc (k : Nat) : ∀ (n acc i : Nat) (more : List UInt8), n < 128 ^ (k + 1) →
    scan (k + 1) (encF k n ++ more) acc i = some (acc + n * 128 ^ i, i + (encF k n).length - 1) := by
  induction k with
  | zero =>
    intro n acc i more h
    have h' : n < 128 := by simpa using h
    simp [encF, scan, toNat_ofNat n (by omega), h', Nat.mod_eq_of_lt h']
  | succ k ih =>
    intro n acc i more h
    by_cases hn : n < 128
    · rw [encF_small _ _ hn]
      simp [scan, toNat_ofNat n (by omega), hn, Nat.mod_eq_of_lt hn]
    · rw [encF_big _ _ (by omega)]
      have hb : (UInt8.ofNat (n % 128 + 128)).toNat = n % 128 + 128 := toNat_ofNat _ (by omega)
      have hd : n / 128 < 128 ^ (k + 1) := by
        rw [Nat.div_lt_iff_lt_mul (by omega)]
        rw [Nat.pow_succ] at h; exact h
      rw [List.cons_append, scan, hb, if_neg (by omega), ih _ _ _ _ hd]
      have e1 : (n % 128 + 128) % 128 = n % 128 := by omega
      have e2 : n = n % 128 + 128 * (n / 128) := by omega
      have hp := encF_length_pos k (n / 128)
      rw [e1, Nat.pow_succ]
      congr 2
      · generalize 128 ^ i = p
        conv => rhs; rw [e2]
        rw [Nat.add_mul, Nat.add_assoc]
        congr 2
        rw [Nat.mul_comm p 128, ← Nat.mul_assoc, Nat.mul_comm (n / 128) 128]
      · simp

theorem encF_last (k : Nat) : ∀ n, n < 128 ^ (k + 1) → 0 < n → (encF k n)[(encF k n).length - 1]? ≠ some 0 := by
  induction k with
  | zero =>
    intro n h hn
    have h' : n < 128 := by simpa using h
    simp only [encF, List.length_singleton, Nat.sub_self]
    intro e
    have e' : UInt8.ofNat n = 0 := by simpa using e
    have := toNat_ofNat n (by omega)
    rw [e'] at this
    simp at this; omega
  | succ k ih =>
    intro n h hn
    by_cases hs : n < 128
    · rw [encF_small _ _ hs]
      intro e
      have e' : UInt8.ofNat n = 0 := by simpa using e
      have := toNat_ofNat n (by omega)
      rw [e'] at this
      simp at this; omega
    · rw [encF_big _ _ (by omega)]
      have hd : n / 128 < 128 ^ (k + 1) := by
        rw [Nat.div_lt_iff_lt_mul (by omega)]
        rw [Nat.pow_succ] at h; exact h
      have hp := encF_length_pos k (n / 128)
      have := ih (n / 128) hd (by omega)
      have e : (UInt8.ofNat (n % 128 + 128) :: encF k (n / 128)).length - 1 = ((encF k (n / 128)).length - 1) + 1 := by simp; omega
      rw [e, List.getElem?_cons_succ]
      exact this

/-- What Get answers: an error's number, or the number and how many bytes it took. -/
def dec (s : List UInt8) : Except Nat (Nat × Nat) :=
  match scan 6 s 0 0 with
  | none => .error 1
  | some (n, i) => if 0 < i ∧ s[i]? = some 0 then .error 1 else if 1099511627776 < n then .error 2 else .ok (n, i + 1)

theorem dec_enc (n : Nat) (h : n ≤ 1099511627776) (more : List UInt8) : dec (enc n ++ more) = .ok (n, (enc n).length) := by
  have hs := scan_enc 5 n 0 0 more (by omega)
  have hp := encF_length_pos 5 n
  unfold dec enc
  rw [hs]
  have hz : ¬ (0 < 0 + (encF 5 n).length - 1 ∧ (encF 5 n ++ more)[0 + (encF 5 n).length - 1]? = some 0) := by
    rintro ⟨h1, h2⟩
    rw [Nat.zero_add] at h1 h2
    rw [List.getElem?_append_left (by omega)] at h2
    refine encF_last 5 n (by omega) ?_ h2
    rcases Nat.eq_zero_or_pos n with e | e
    · subst e; exact absurd h1 (by decide)
    · exact e
  simp only [if_neg hz]
  rw [if_neg (by omega)]
  simp
  omega

/-- No number's bytes begin another one's. -/
theorem enc_prefix (n m : Nat) (hn : n ≤ 1099511627776) (hm : m ≤ 1099511627776) (h : (enc m).take (enc n).length = enc n) : n = m := by
  have e : enc m = enc n ++ (enc m).drop (enc n).length := by
    conv => lhs; rw [← List.take_append_drop (enc n).length (enc m)]
    rw [h]
  have h1 := dec_enc m hm []
  rw [List.append_nil, e, dec_enc n hn] at h1
  simp at h1
  exact h1.1

end Go.Num
