/-
  Files, lines, steps as cells, and small facts on them. No function of the program.
  An argument of type []api.File reads as files.
  An error that is nil where there is none.
  What the laws of stage 7 ask of package files, as contracts (shown elsewhere over the program's own text); the closed fact of stage 7.
  Contract of the document's answer over this dump: IsName.
-/
import Derived.Test.YtbflmkjlpopeaadDoorJoin02
import Derived.Deep.Slices
import Derived.Deep.Strs
import Derived.Test.YtbflmkjlpopeaadDoorJoin01
import Derived.Deep.DeepCutAuto
namespace Go.Proofs.YtbflmkjlpopeaadDoor
open Go.RowKit
open Go.Files (Fl Ln St lt getF dropF insF faultF keyL planM)

/-- Lines of the document's answer, as cells; lines of package files; files; steps. -/
abbrev MRow (w : World) (v : Value) (l : List Ln) : Prop := Row3 (fun x : Ln => .string x.name) (fun x => .int .i64 x.n) (fun x => .int .i64 x.sum) w v l
abbrev LRow (w : World) (v : Value) (l : List Ln) : Prop := Row3c (fun x : Ln => .string x.name) (fun x => .int .i64 x.n) (fun x => .int .u32 x.sum) w v l
abbrev FRow (w : World) (v : Value) (l : List Fl) : Prop := Row2 (fun x : Fl => .string x.name) (fun x => .string x.data) w v l

/-- A name that does not rise, as a test tells it. -/
theorem leq_lt (a p : ByteArray) : (Op.bytesLess a.toList p.toList || a.toList == p.toList) = !(lt p a) := by
  cases h : lt p a with
  | true =>
    have h1 := Go.Files.lt_asymm h
    have h2 : (a.toList == p.toList) = false := by
      rw [beq_eq_false_iff_ne]
      exact fun e => Go.Files.lt_ne h (bytes_ext e.symm)
    unfold lt at h1
    rw [h1, h2]
    rfl
  | false =>
    by_cases he : a = p
    · subst he; simp
    · have := Go.Files.lt_of h (fun e => he e.symm)
      unfold lt at this
      rw [this]
      rfl
/-- Steps as cells. -/
abbrev SRow (w : World) (v : Value) (l : List St) : Prop := Row2 (fun x : St => .string x.kind) (fun x => .string x.name) w v l
abbrev scs (l : List St) : List Value := cs2 (fun x : St => .string x.kind) (fun x => .string x.name) l
/-- Files as cells. -/
abbrev fcs (l : List Fl) : List Value := cs2 (fun x : Fl => .string x.name) (fun x => .string x.data) l
theorem same_bytes {a b : ByteArray} (h : a = b) : (a.toList == b.toList) = true := by rw [h]; simp
theorem other_bytes {a b : ByteArray} (h : a ≠ b) : (a.toList == b.toList) = false := by
  rw [beq_eq_false_iff_ne]
  exact fun e => h (bytes_ext e)
def gOut : Option ByteArray → ByteArray × Bool
  | some d => (d, true)
  | none => (⟨#[]⟩, false)
theorem getF_step (l : List Fl) (j : Nat) (h : j < l.length) (a : ByteArray) : getF (l.drop j) a = if l[j].name = a then some l[j].data else getF (l.drop (j + 1)) a := by
  rw [List.drop_eq_getElem_cons h, getF]
theorem dropF_snoc (l : List Fl) (j : Nat) (h : j < l.length) (a : ByteArray) : dropF (l.take (j + 1)) a = if l[j].name = a then dropF (l.take j) a else dropF (l.take j) a ++ [l[j]] := by
  rw [List.take_succ_eq_append_getElem h, dropF, List.filter_append, ← dropF]
  split
  · rename_i e; simp [e]
  · rename_i e; simp [e]

def bit (b : Bool) : Int := if b then 1 else 0
/-- A file's line. -/
def lnOf (f : Fl) : Ln := ⟨f.name, (f.data.size : Int), (Go.Crc.crc 0 f.data.data.toList : Nat)⟩

theorem ins_len (a d : ByteArray) : ∀ l : List Fl, (insF a d l).length ≤ l.length + 1
  | [] => by simp [insF]
  | f :: r => by
    rw [insF]
    split
    · have := ins_len a d r
      simp only [List.length_cons]
      omega
    · split <;> simp

/-- What is answered: the steps, an error's number, its place. -/
def planOut (F T : List Ln) : List St × Nat × Int :=
  if (faultF (F.map keyL)).1 = 0 then (if (faultF (T.map keyL)).1 = 0 then (planM F T, 0, -1) else ([], faultF (T.map keyL))) else ([], faultF (F.map keyL))
end Go.Proofs.YtbflmkjlpopeaadDoor

namespace Go.Proofs.YtbflmkjlpopeaadDoor
open Go.ChangeShapes Go.WideShapes Go.ChangeAt Go.RowKit
open Go.Files (Fl)

theorem Tryd.fargcells62 : Tryd.prog.cellsOf 62 = 2 := by kernel_rfl
theorem Tryd.fargcells9 : Tryd.prog.cellsOf 9 = 1 := by kernel_rfl
/-- A struct of 2 fields. -/
theorem farg_struct {H : Type} {enc : TypeId × Value → H} {P : Program} {w : World} {base : Nat} {spare : Nat → Bool} {held : Bool} {t : TypeId} {f0 f1 : Field} {fuel : Nat} {cs : List Value} {x : DataW H × List MemPlace} (ht : P.underlying t = some (.struct #[f0, f1])) (h : DataW.trod enc P w base spare held fuel t cs = some x) :
    ∃ y0 y1 n, DataW.trod enc P w base spare held n f0.type ((cs.drop f0.offset).take (P.cellsOf f0.type)) = some y0 ∧ DataW.trod enc P w base spare held n f1.type ((cs.drop f1.offset).take (P.cellsOf f1.type)) = some y1 := by
  obtain ⟨xs, n, _, rfl, hl, hlen, hf⟩ := DataW.trod_struct ht h
  match xs, hlen with
  | [y0, y1], _ => exact ⟨y0, y1, n, by simpa using hf 0 f0 rfl, by simpa using hf 1 f1 rfl⟩

set_option maxRecDepth 100000 in
/-- One element. -/
theorem farg_one {H : Type} {enc : TypeId × Value → H} {W : World} {base : Nat} {spare : Nat → Bool} {held : Bool} {n : Nat} {ad : Addr} {cs : List Value} {x : DataW H × List MemPlace}
    (h1 : W.cells? base ad 2 = some cs) (h2 : DataW.trod enc Tryd.prog W base spare held n 62 cs = some x) :
    ∃ o : Fl, W.cell? (ad.add 0) = some (.string o.name) ∧ W.cell? (ad.add 1) = some (.string o.data) := by
  obtain ⟨_, hlen, hcell⟩ := World.cells?_some h1
  obtain ⟨v0, v1, rfl⟩ : ∃ v0 v1, cs = [v0, v1] := by
    match cs, hlen with
    | [v0, v1], _ => exact ⟨v0, v1, rfl⟩
  obtain ⟨y0, y1, k, g0, g1⟩ := farg_struct Tryd.underlying62 h2
  simp only [Tryd.fargcells9] at g0 g1
  obtain ⟨z0, e0, _, _⟩ := DataW.trod_string Tryd.underlying9 g0
  obtain ⟨z1, e1, _, _⟩ := DataW.trod_string Tryd.underlying9 g1
  simp at e0 e1
  subst e0 e1
  have c0 := hcell 0 (by omega)
  have c1 := hcell 1 (by omega)
  exact ⟨⟨z0, z1⟩, by simpa using c0, by simpa using c1⟩

theorem farg_row {H : Type} {enc : TypeId × Value → H} {W : World} {base : Nat} {spare : Nat → Bool} {held : Bool} {fuel : Nat} {a : Option Addr} {len cap : Nat} {x : DataW H × List MemPlace}
    (h : DataW.trod enc Tryd.prog W base spare held fuel 32 [.slice a len cap] = some x) : ∃ l : List Fl, l.length = len ∧ FRow W (.slice a l.length cap) l := by
  rcases Go.Deep.open_slice Tryd.underlying32 h with ⟨hcs, _⟩ | ⟨ad, len', cap', m, n, D, Pl, hcs, hb, hl, hm, hmm, rfl, hx⟩
  · simp at hcs
    obtain ⟨rfl, rfl, rfl⟩ := hcs
    exact ⟨[], rfl, ⟨none, 0, rfl, fun h => by simp at h⟩⟩
  · simp at hcs
    obtain ⟨rfl, rfl, rfl⟩ := hcs
    have hlm : len ≤ m := by rw [hmm]; split <;> omega
    have each : ∀ i, i < len → ∃ o : Fl, W.cell? ((ad.add (i * 2)).add 0) = some (.string o.name) ∧ W.cell? ((ad.add (i * 2)).add 1) = some (.string o.data) := by
      intro i hi
      obtain ⟨cs', h1, h2⟩ := hx i (by omega)
      rw [Tryd.fargcells62] at h1
      exact farg_one h1 h2
    obtain ⟨f, hf⟩ := Go.Deep.choose_lt each
    have hll : ((List.range len).map f).length = len := by simp
    refine ⟨(List.range len).map f, hll, ⟨some ad, cap, rfl, fun hp => ?_⟩⟩
    obtain ⟨bl, off, spot⟩ := ad
    have h0 := (hf 0 (by omega)).1
    have hspot : spot = none := by simpa [Addr.add] using World.cell?_spot h0
    subst hspot
    refine ⟨bl, off, rfl, fun j hj => ?_⟩
    have hj' : j < len := by omega
    obtain ⟨k0, k1⟩ := hf j hj'
    have eg : ((List.range len).map f)[j] = f j := by simp
    rw [eg]
    rw [Go.Deep.add_add, add_plain] at k0 k1
    exact ⟨by simpa using k0, by simpa [Nat.add_assoc] using k1⟩
end Go.Proofs.YtbflmkjlpopeaadDoor

namespace Go.Proofs.YtbflmkjlpopeaadDoor
open Go.RowKit

/-- Nil where there is no error. -/
structure NilOr (x : Value) (c : Nat) : Prop where
  none : c = 0 → x = .nilIface
  some : c ≠ 0 → ∃ t y, x = .iface t y
end Go.Proofs.YtbflmkjlpopeaadDoor

namespace Go.Proofs.YtbflmkjlpopeaadDoor
open Go.RowKit
open Go.Files (Fl Ln getF dropF putF faultF keyF isNm)

/-- Files that a law may hand in. -/
def Fair (l : List Fl) : Prop := l.length ≤ 900 ∧ ∀ x ∈ l, x.name.size ≤ 1000000 ∧ x.data.size ≤ 1000000
/-- The lines that a list comes to. -/
def listF (l : List Fl) : List Ln := if (faultF (l.map keyF)).1 = 0 then l.map lnOf else []
/-- Where no error is met. -/
structure FilesGet : Prop where
  get : ∀ v l a W, FRow W v l → Fair l → a.size ≤ 1000000 → Calls Tryd.prog 20 #[v, .string a] W fun r w' => r = .returned (.tuple #[.string (gOut (getF l a)).1, .bool (gOut (getF l a)).2]) ∧ Below W.heap.size W w'
/-- Where it is asked no more than whether there is an error: Env: what the errors' variables hold. -/
structure FilesAll (Env : World → Prop) : Prop where
  put : ∀ v l a d W, FRow W v l → Fair l → a.size ≤ 1000000 → d.size ≤ 1000000 → Env W → Calls Tryd.prog 25 #[v, .string a, .string d] W fun r w' =>
    (∃ u x, r = .returned (.tuple #[u, x]) ∧ FRow w' u (putF l a d).1 ∧ NilOr x (putF l a d).2.1) ∧ Below W.heap.size W w'
  list : ∀ v l W, FRow W v l → Fair l → Env W → Calls Tryd.prog 27 #[v] W fun r w' =>
    (∃ u x, r = .returned (.tuple #[u, x]) ∧ LRow w' u (listF l) ∧ NilOr x (faultF (l.map keyF)).1) ∧ Below W.heap.size W w'

set_option maxHeartbeats 2000000 in
set_option maxRecDepth 100000 in
/-- The closed fact. -/
theorem filed_ok (Env : World → Prop) (w : World) (hS : Env w) (hEB : ∀ w w', Env w → Below w.heap.size w w' → Env w') (hG : FilesGet) (hA : FilesAll Env) :
    Calls Tryd.prog 12 #[] w fun r w' => r = .returned (.bool true) ∧ Below w.heap.size w w' := by
  have hfair : Fair [⟨⟨#[97]⟩, ⟨#[49, 50, 51, 52, 53, 54, 55, 56, 57]⟩⟩] := ⟨by decide, by decide⟩
  have HP := hide (hA.put (.slice none 0 0) [] ⟨#[97]⟩ ⟨#[49, 50, 51, 52, 53, 54, 55, 56, 57]⟩ w (Row2.nil w) ⟨by decide, by simp⟩ (by decide) (by decide) hS)
  rw [show putF [] ⟨#[97]⟩ ⟨#[49, 50, 51, 52, 53, 54, 55, 56, 57]⟩ = ([⟨⟨#[97]⟩, ⟨#[49, 50, 51, 52, 53, 54, 55, 56, 57]⟩⟩], 0, -1) from by decide] at HP
  have HL := hide (fun v W (h : FRow W v [⟨⟨#[97]⟩, ⟨#[49, 50, 51, 52, 53, 54, 55, 56, 57]⟩⟩]) (k : Env W) => hA.list v _ W h hfair k)
  have hl : listF [⟨⟨#[97]⟩, ⟨#[49, 50, 51, 52, 53, 54, 55, 56, 57]⟩⟩] = [⟨⟨#[97]⟩, 9, 3421780262⟩] := by decide
  rw [hl, show (faultF ([⟨⟨#[97]⟩, ⟨#[49, 50, 51, 52, 53, 54, 55, 56, 57]⟩⟩].map keyF)).1 = 0 from by decide] at HL
  have HG := hide (fun v W (h : FRow W v [⟨⟨#[97]⟩, ⟨#[49, 50, 51, 52, 53, 54, 55, 56, 57]⟩⟩]) => hG.get v _ ⟨#[97]⟩ W h hfair (by decide))
  rw [show gOut (getF [⟨⟨#[97]⟩, ⟨#[49, 50, 51, 52, 53, 54, 55, 56, 57]⟩⟩] ⟨#[97]⟩) = (⟨#[49, 50, 51, 52, 53, 54, 55, 56, 57]⟩, true) from by decide] at HG
  simp only at HP HL HG
  have HV := hide (fun w' hb => hEB w w' hS hb)
  clear hS hEB hG hA hfair hl
  go_enter Tryd.func12, Tryd.ntmps12
  go_wp2_with fail
  refine HP.out.mono ?_
  rintro r w1 ⟨⟨u, x, rfl, hu, hx⟩, hb1⟩
  obtain rfl := hx.none rfl
  have Hu := hide hu
  have Hb1 := hide hb1
  obtain ⟨a1, c1, rfl, _⟩ := hu
  clear hx hb1 HP
  go_wp2_with fail
  refine (HL.out _ _ Hu.out (HV.out _ Hb1.out)).mono ?_
  rintro r w2 ⟨⟨z, y, rfl, hz, hy⟩, hb2⟩
  obtain rfl := hy.none rfl
  have Hu2 := hide (Hu.out.below hb2)
  have Hz := hide hz
  have Hb2 := hide (bthen Hb1.out hb2)
  obtain ⟨a2, c2, rfl, hz'⟩ := hz
  obtain ⟨b, o, rfl, hc⟩ := hz' (by decide)
  obtain ⟨_, _, e2⟩ := hc 0 (by decide)
  clear hy hb2 HL Hu Hb1 hc hz'
  go_wp2_with fail
  refine (HG.out _ _ Hu2.out).mono ?_
  rintro r w3 ⟨rfl, hb3⟩
  have k2 := (hb3.cell (World.block_lt_of_cell? _ _ e2)).trans e2
  have Hb3 := hide (bthen Hb2.out hb3)
  clear hb3 e2 HG Hb2 Hu2 Hz
  go_wp2
  go_ret
  exact ⟨rfl, Hb3.out⟩
end Go.Proofs.YtbflmkjlpopeaadDoor

namespace Go.Proofs.YtbflmkjlpopeaadDoor
open Go.RowKit
open Go.Files (okc isNm)

theorem all_take (s : ByteArray) (j : Nat) (h : j < s.size) : (s.data.toList.take (j + 1)).all okc = ((s.data.toList.take j).all okc && okc s[j]) := by
  rw [takeL s j h, List.all_append]
  simp
theorem all_false {s : ByteArray} {j : Nat} (h : j < s.size) (hc : okc s[j] = false) : s.data.toList.all okc = false := by
  rw [List.all_eq_false]
  exact ⟨s[j], by rw [← atL s j h]; exact List.getElem_mem _, by simp [hc]⟩
theorem isNm_all {s : ByteArray} (h : s.data.toList.all okc = true) : isNm s = (decide (1 ≤ s.size) && decide (s.size ≤ 12)) := by
  unfold isNm
  rw [h]
  rfl
theorem isNm_false {s : ByteArray} (h : s.data.toList.all okc = false) : isNm s = false := by
  unfold isNm
  rw [h]
  rfl

set_option maxHeartbeats 2000000 in
set_option maxRecDepth 100000 in
theorem isName_ok (s : ByteArray) (w : World) (hs : s.size ≤ 1000000) : Calls Tryd.prog 15 #[.string s] w fun r w' => r = .returned (.bool (isNm s)) ∧ w' = w := by
  have hs' : (s.size : Int) ≤ 1000000 := by omega
  have HF := hide (fun j h hc => all_false (s := s) (j := j) h hc)
  have HA := hide (isNm_all (s := s))
  have HN := hide (isNm_false (s := s))
  have HT := hide (all_take s)
  have H0 : Hid ((s.data.toList.take s.size) = s.data.toList) := by rw [← lenL s, List.take_length]; exact rfl
  go_enter Tryd.func15, Tryd.ntmps15
  go_wp2_with fail
  go_loop [3] (fun t => ∃ j : Nat, t = .int .i64 j ∧ j ≤ s.size ∧ Hid ((s.data.toList.take j).all okc = true)) (fun t => s.size - (intOf t).toNat)
  case atStart => exact ⟨0, rfl, by omega, by simp [Hid]⟩
  case round =>
    obtain ⟨j, rfl, hj, Hj⟩ := hrel
    by_cases hlt : j < s.size
    · have hlt' : (j : Int) < s.size := by omega
      have hb := byte_lt s[j]
      have hF := HF.out j hlt
      have hT := HT.out j hlt
      rw [Hj.out, Bool.true_and] at hT
      have ho : okc s[j] = ((decide (97 ≤ s[j].toNat) && decide (s[j].toNat ≤ 122)) || (decide (48 ≤ s[j].toNat) && decide (s[j].toNat ≤ 57)) || decide (s[j].toNat = 46) || decide (s[j].toNat = 45)) := rfl
      have Ho := hide ho
      have HT' := hide hT
      have HF' := hide hF
      clear hF hT HF HT HA H0 ho
      go_upto_region 4 with fail
      go_cut [4] (fun v4 wc => v4 = .bool (decide (97 ≤ s[j].toNat) && decide (s[j].toNat ≤ 122)) ∧ wc = w)
      case first =>
        by_cases a1 : 97 ≤ s[j].toNat
        · have a1' : (97 : Int) ≤ s[j].toNat := by omega
          go_wp2_with fail
          go_meet
          case rel => exact ⟨by simp [a1]; omega, rfl⟩
        · have a1' : (s[j].toNat : Int) < 97 := by omega
          go_wp2_with fail
          go_meet
          case rel => exact ⟨by simp [a1], rfl⟩
      case rest =>
        obtain ⟨rfl, rfl⟩ := hcut
        go_upto_region 5 with fail
        go_cut [5] (fun v5 wd => v5 = .bool (decide (48 ≤ s[j].toNat) && decide (s[j].toNat ≤ 57)) ∧ wd = wc)
        case first =>
          by_cases a1 : 48 ≤ s[j].toNat
          · have a1' : (48 : Int) ≤ s[j].toNat := by omega
            go_wp2_with fail
            go_meet
            case rel => exact ⟨by simp [a1]; omega, rfl⟩
          · have a1' : (s[j].toNat : Int) < 48 := by omega
            go_wp2_with fail
            go_meet
            case rel => exact ⟨by simp [a1], rfl⟩
        case rest =>
          obtain ⟨rfl, rfl⟩ := hcut
          generalize (decide (97 ≤ s[j].toNat) && decide (s[j].toNat ≤ 122)) = L at *
          generalize (decide (48 ≤ s[j].toNat) && decide (s[j].toNat ≤ 57)) = D at *
          go_upto_region 6 with fail
          go_cut [49] (fun v49 we => v49 = .bool (!(okc s[j])) ∧ we = wc)
          case first =>
            cases L with
            | true =>
              go_wp2_with fail
              go_meet
              case rel => exact ⟨by rw [Ho.out]; rfl, rfl⟩
            | false =>
              cases D with
              | true =>
                go_wp2_with fail
                go_meet
                case rel => exact ⟨by rw [Ho.out]; rfl, rfl⟩
              | false =>
                by_cases e1 : s[j].toNat = 46
                · have e1' : ((s[j].toNat : Int) != 46) = false := by simp; omega
                  go_wp2_with fail
                  go_meet
                  case rel => exact ⟨by rw [Ho.out]; simp [e1], rfl⟩
                · have e1' : ((s[j].toNat : Int) != 46) = true := by simp; omega
                  go_wp2_with fail
                  go_meet
                  case rel => exact ⟨by rw [Ho.out, Value.bool.injEq, Bool.eq_iff_iff]; simp [e1]; omega, rfl⟩
          case rest =>
            obtain ⟨rfl, rfl⟩ := hcut
            cases hok : okc s[j] with
            | true =>
              have HT2 := hide (HT'.out.trans hok)
              clear HT' HF' Ho
              go_wp2_with fail
              go_round
              case rel => exact ⟨j + 1, by go_num, by omega, HT2.out⟩
              case measure => simp [intOf]; omega
            | false =>
              have HF2 := hide (HN.out (HF'.out hok))
              clear HT' HF' Ho
              go_wp2_with fail
              go_ret
              exact ⟨ret_bool HF2.out.symm, rfl⟩
    · have hle : (s.size : Int) ≤ j := by omega
      obtain rfl : j = s.size := by omega
      have hA := Hj.out
      rw [H0.out] at hA
      have HA' := hide (HA.out hA)
      clear hA Hj HA HN HF HT H0
      by_cases h1 : 1 ≤ s.size
      · have h1' : (1 : Int) ≤ s.size := by omega
        go_wp2_with fail
        go_ret
        exact ⟨ret_bool (by rw [HA'.out]; simp [h1]; omega), rfl⟩
      · have h1' : (s.size : Int) < 1 := by omega
        go_wp2_with fail
        go_ret
        exact ⟨ret_bool (by rw [HA'.out]; simp [h1]), rfl⟩
end Go.Proofs.YtbflmkjlpopeaadDoor
