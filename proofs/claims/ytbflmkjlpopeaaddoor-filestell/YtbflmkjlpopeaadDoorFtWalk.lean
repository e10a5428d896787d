/-
  The walk of the law FilesTell over the contracts.
-/
import Derived.Test.YtbflmkjlpopeaadDoorJoin03
import Derived.Test.YtbflmkjlpopeaadDoorRefPut
import Derived.Test.YtbflmkjlpopeaadDoorJoin07
import Derived.Test.YtbflmkjlpopeaadDoorJoin08
import Derived.Test.YtbflmkjlpopeaadDoorJoin09
import Derived.Deep.DeepCutAuto
namespace Go.Proofs.YtbflmkjlpopeaadDoor
open Go.RowKit
open Go.Files (Fl Ln getF dropF putF faultF keyF isNm)

/-- The contracts of package files that FilesTell asks for. -/
structure TellOk (a : Nat → Addr) : Prop where
  name : ∀ s W, s.size ≤ 1000000 → Calls Tryd.prog 17 #[.string s] W fun r w' => r = .returned (.bool (isNm s)) ∧ Below W.heap.size W w'
  check : ∀ v l W, FRow W v l → Fair l → Sents W a → Calls Tryd.prog 19 #[v] W fun r w' => (∃ x, r = .returned x ∧ ErrOf w' x (faultF (l.map keyF)).1 (faultF (l.map keyF)).2) ∧ Below W.heap.size W w'
  get : FilesGet
  drop : ∀ v l n W, FRow W v l → Fair l → n.size ≤ 1000000 → Calls Tryd.prog 23 #[v, .string n] W fun r w' => (∃ u, r = .returned u ∧ FRow w' u (dropF l n)) ∧ Below W.heap.size W w'
  put : ∀ v l n d W, FRow W v l → Fair l → n.size ≤ 1000000 → d.size ≤ 1000000 → Sents W a → Calls Tryd.prog 25 #[v, .string n, .string d] W fun r w' =>
    (∃ u x, r = .returned (.tuple #[u, x]) ∧ FRow w' u (putF l n d).1 ∧ ErrOf w' x (putF l n d).2.1 (putF l n d).2.2) ∧ Below W.heap.size W w'
  list : ∀ v l W, FRow W v l → Fair l → Sents W a → Calls Tryd.prog 27 #[v] W fun r w' =>
    (∃ u x, r = .returned (.tuple #[u, x]) ∧ LRow w' u (listF l) ∧ ErrOf w' x (faultF (l.map keyF)).1 (faultF (l.map keyF)).2) ∧ Below W.heap.size W w'
theorem ErrOf.nilOr {w : World} {x : Value} {c : Nat} {at_ : Int} (h : ErrOf w x c at_) : NilOr x c := ⟨h.none, h.some⟩
theorem TellOk.all {a : Nat → Addr} (h : TellOk a) : FilesAll (fun W => Sents W a) where
  put := fun v l n d W hv hf hn hd hS => (h.put v l n d W hv hf hn hd hS).mono fun _ _ ⟨⟨u, x, e, hu, hx⟩, hb⟩ => ⟨⟨u, x, e, hu, hx.nilOr⟩, hb⟩
  list := fun v l W hv hf hS => (h.list v l W hv hf hS).mono fun _ _ ⟨⟨u, x, e, hu, hx⟩, hb⟩ => ⟨⟨u, x, e, hu, hx.nilOr⟩, hb⟩
theorem dropF_len (l : List Fl) (n : ByteArray) : (dropF l n).length ≤ l.length := List.length_filter_le ..
theorem putF_len (l : List Fl) (n d : ByteArray) : (putF l n d).1.length ≤ l.length + 1 := by
  unfold putF
  split
  · split
    · exact ins_len n d l
    · simp
  · simp
theorem bit_pos (b : Bool) : decide ((0 : Int) < bit b) = b := by cases b <;> rfl

set_option maxHeartbeats 4000000 in
set_option maxRecDepth 100000 in
theorem ftells_main (fa : Option Addr) (fc : Nat) (l : List Fl) (n d : ByteArray) (a : Nat → Addr) (w : World) (hS : Sents w a) (hP : TellOk a) (hl : FRow w (.slice fa l.length fc) l) (hlong : longF l 200 = false) (hn : n.size ≤ 30) (hd : d.size ≤ 200 ∨ d.size = 4001) :
    Calls Tryd.prog 4 #[.slice fa l.length fc, .string n, .string d] w fun r w' => r = .returned (.bool true) ∧ Below w.heap.size w w' := by
  obtain ⟨hl25, hx⟩ := longF_false hlong
  have hfair : Fair l := ⟨by omega, fun x hxm => by have := hx x hxm; omega⟩
  have hnames : ∀ x ∈ l, x.name.size ≤ 1000000 := fun x hxm => (hfair.2 x hxm).1
  have hdatas : ∀ x ∈ l, x.data.size ≤ 1000000 := fun x hxm => (hfair.2 x hxm).2
  have hL1 := dropF_len l n
  have hL2 := putF_len l n d
  have hd' : d.size ≤ 1000000 := by omega
  have HM := hide (filed_ok _ w hS (fun _ _ h hb => h.below hb) hP.get hP.all)
  have HE := hide (fun W (h : Below w.heap.size w W) => hS.below h)
  have HO := hide (fun W (h : Below w.heap.size w W) => hl.below h)
  have HLg := hide (fun W (h : FRow W (.slice fa l.length fc) l) => longFiles_ok _ l 200 W h)
  rw [hlong] at HLg
  have HN := hide (fun W => isName_ok n W (by omega))
  have HN2 := hide (fun W => hP.name n W (by omega))
  have HF := hide (fun v W (h : FRow W v l) => filesFault_ok v l W h (by omega) hnames)
  have HC := hide (fun v W (h : FRow W v l) (k : Sents W a) => hP.check v l W h hfair k)
  have HG := hide (fun v W (h : FRow W v l) => hP.get.get v l n W h hfair (by omega))
  have HG2 := hide (fun v W (h : FRow W v l) => getOf_ok v l n W h (by omega))
  have HD := hide (fun v W (h : FRow W v l) => hP.drop v l n W h hfair (by omega))
  have HD2 := hide (fun v W (h : FRow W v l) => dropOf_ok v l n W h (by omega))
  have HSD := hide (fun u v W (h : FRow W u (dropF l n)) (k : FRow W v (dropF l n)) => sameFiles_ok u v _ W h k (by omega))
  have HPu := hide (fun v W (h : FRow W v l) (k : Sents W a) => hP.put v l n d W h hfair (by omega) hd' k)
  have HPu2 := hide (fun v W (h : FRow W v l) => putOf_ok v l n d W h (by omega) hnames (by omega))
  have HSP := hide (fun u v W (h : FRow W u (putF l n d).1) (k : FRow W v (putF l n d).1) => sameFiles_ok u v _ W h k (by omega))
  have HLi := hide (fun v W (h : FRow W v l) (k : Sents W a) => hP.list v l W h hfair k)
  have HLi2 := hide (fun v W (h : FRow W v l) => listOf_ok v l W h (by omega) hdatas)
  have HSL := hide (fun u v W (h : LRow W u (l.map lnOf)) (k : MRow W v (l.map lnOf)) => sameLines_ok u v _ W h k (by rw [List.length_map]; omega) (fun x hxm => by
    obtain ⟨y, _, rfl⟩ := List.mem_map.1 hxm
    have := Go.Crc.crc_lt 0 y.data.data.toList (by decide)
    exact ⟨by simp [lnOf], by simp only [lnOf]; omega⟩))
  have HSF := hide (fun u v W (h : FRow W u l) (k : FRow W v l) => sameFiles_ok u v l W h k (by omega))
  have HlF : Hid (∀ h : (faultF (l.map keyF)).1 = 0, listF l = l.map lnOf) := fun h => by unfold listF; rw [if_pos h]
  have HlZ : Hid (∀ h : (faultF (l.map keyF)).1 ≠ 0, listF l = []) := fun h => by unfold listF; rw [if_neg h]
  have hfl : (listF l).length = 0 ∨ (listF l).length = l.length := by unfold listF; split <;> simp
  generalize getF l n = G at *
  generalize dropF l n = DR at *
  generalize putF l n d = PU at *
  generalize faultF (l.map keyF) = f at *
  obtain ⟨pl, pc, pa⟩ := PU
  obtain ⟨ec, ea⟩ := f
  generalize gOut G = go at *
  obtain ⟨gs, gb⟩ := go
  simp only at HF HC HG HG2 HPu HPu2 HSP HLi HlF HlZ
  have Hfl := hide hfl
  clear hS hP hl hx hfair hnames hdatas hlong hL1 hL2 hfl
  generalize isNm n = nm at *
  have hdd : ((decide ((200 : Int) < d.size)) && ((d.size : Int) != 4001)) = false := by
    rcases hd with h | h
    · rw [decide_eq_false (by omega)]; rfl
    · simp [h]
  go_enter Tryd.func4, Tryd.ntmps4
  go_wp2_with fail
  refine HM.out.mono ?_
  rintro r w1 ⟨rfl, hb1⟩
  have Hb1 := hide hb1
  clear hb1 HM
  go_upto_region 2 with fail
  go_cut [42] (fun v42 wc => v42 = .bool false ∧ wc = w1)
  case first =>
    have c1 : decide ((30 : Int) < n.size) = false := by simp; omega
    go_wp2_with fail
    refine (HLg.out _ (HO.out _ Hb1.out)).mono ?_
    rintro r w2 ⟨rfl, rfl⟩
    rcases hd with h | h
    · have c2 : decide ((200 : Int) < d.size) = false := by simp; omega
      clear hdd
      go_wp2_with fail
      go_meet
      case rel => exact ⟨rfl, rfl⟩
    · have c2 : decide ((200 : Int) < d.size) = true := by simp; omega
      have c3 : ((d.size : Int) != 4001) = false := by simp; omega
      clear hdd
      go_wp2_with fail
      go_meet
      case rel => exact ⟨rfl, rfl⟩
  case rest =>
    obtain ⟨rfl, rfl⟩ := hcut
    clear hdd HLg hd
    go_wp2_with fail
    refine (ownFiles_ok _ l _ (HO.out _ Hb1.out) (by omega)).mono ?_
    rintro r w2 ⟨⟨u, rfl, hu⟩, hb2⟩
    have Hu := hide (fun W (h : Below w2.heap.size w2 W) => hu.below h)
    obtain ⟨ua, uc, rfl, _⟩ := hu
    have Hb2 := hide (bthen Hb1.out hb2)
    clear hb2 Hb1
    go_wp2_with fail
    refine (HN.out _).mono ?_
    rintro r w3 ⟨rfl, rfl⟩
    go_wp2_with fail
    refine (HF.out _ _ (HO.out _ Hb2.out)).mono ?_
    rintro r w4 ⟨rfl, hb4⟩
    have hba := hb4.alloc hb4.size (.cells #[.int .i64 (ec : Int), .int .i64 ea] 37)
    have hq4 := HvAt.fresh w4 ec ea 37
    have Hq4 := hide (fun W (h : Below (w4.alloc (.cells #[.int .i64 (ec : Int), .int .i64 ea] 37)).heap.size (w4.alloc (.cells #[.int .i64 (ec : Int), .int .i64 ea] 37)) W) => hq4.below h hq4.lt)
    have Hb4 := hide (bthen Hb2.out hba)
    have Hu4 := hide hba
    clear hb4 hba HF HN
    go_wp2_with fail
    generalize w4.alloc (.cells #[.int .i64 (ec : Int), .int .i64 ea] 37) = w5 at *
    generalize w4.heap.size = q at *
    obtain ⟨q0, q1, p0, p1, qlt⟩ := hq4
    have Hdr : Hid (Below w5.heap.size w5 w5.drew) := (Below.refl _ _).drew
    have HU := hide (fun W (h : Below w5.heap.size w5 W) => Hu.out W (bthen Hu4.out h))
    have HR := hide (fun W (h : Below w5.heap.size w5 W) => HO.out W (bthen Hb4.out h))
    have HT := hide (fun W (h : Below w5.heap.size w5 W) => HE.out W (bthen Hb4.out h))
    go_region_held3 (fun w' => Hid (Below w5.heap.size w5 w') ∧ w'.cell? ⟨q, 0, none⟩ = some (.int .i64 ec) ∧ w'.cell? ⟨q, 1, none⟩ = some (.int .i64 ea)) (first | exact ⟨Hb9, f0, f1⟩ | exact ⟨Hb8, g0, g1⟩ | exact ⟨Hb7, e0, e1⟩ | exact ⟨Hdr, q0, q1⟩)
      (first
        | (go_at_call 18; refine (hx8.tells _ (Below.refl _ _)).mono ?_; rintro r w9 ⟨rfl, hb9⟩; have Hb9 := hide (bthen Hb8.out hb9); have f0 : w9.cell? ⟨q, 0, none⟩ = some (.int .i64 ec) := (hb9.cell (World.block_lt_of_cell? _ _ g0)).trans g0; have f1 : w9.cell? ⟨q, 1, none⟩ = some (.int .i64 ea) := (hb9.cell (World.block_lt_of_cell? _ _ g1)).trans g1; clear hb9)
        | (go_at_call 19; refine (HC.out _ _ (HU.out _ Hb7.out) (HT.out _ Hb7.out)).mono ?_; rintro r w8 ⟨⟨x8, rfl, hx8⟩, hb8⟩; have Hb8 := hide (bthen Hb7.out hb8); have g0 : w8.cell? ⟨q, 0, none⟩ = some (.int .i64 ec) := (hb8.cell (World.block_lt_of_cell? _ _ e0)).trans e0; have g1 : w8.cell? ⟨q, 1, none⟩ = some (.int .i64 ea) := (hb8.cell (World.block_lt_of_cell? _ _ e1)).trans e1; clear hb8)
        | (go_at_call 17; refine (HN2.out _).mono ?_; rintro r w7 ⟨rfl, hb7⟩; have Hb7 := hide (bthen Hdr.out hb7); have e0 : w7.cell? ⟨q, 0, none⟩ = some (.int .i64 ec) := (hb7.cell qlt).trans q0; have e1 : w7.cell? ⟨q, 1, none⟩ = some (.int .i64 ea) := (hb7.cell qlt).trans q1; clear hb7))
    all_goals
      clear HC HN2 Hb7 Hb8 e0 e1 g0 g1 hx8 q0 q1 p0 p1 f0 f1 Hdr
      go_wp2_with fail
      refine (HG.out _ _ (HU.out _ Hb9.out)).mono ?_
      rintro r wa ⟨rfl, hba⟩
      have Hba := hide (bthen Hb9.out hba)
      clear hba Hb9 HG
      go_wp2_with fail
      refine (HG2.out _ _ (HR.out _ Hba.out)).mono ?_
      rintro r wb ⟨rfl, rfl⟩
      clear HG2
      go_wp2_with fail
      refine (HD.out _ _ (HU.out _ Hba.out)).mono ?_
      rintro r wb ⟨⟨ub, rfl, hub⟩, hbb⟩
      have Hub := hide hub
      have Hbb := hide (bthen Hba.out hbb)
      obtain ⟨ba, bc, rfl, _⟩ := hub
      clear hbb Hba HD
      go_wp2_with fail
      refine (HD2.out _ _ (HR.out _ Hbb.out)).mono ?_
      rintro r wc ⟨⟨uc', rfl, huc⟩, hbc⟩
      have Huc := hide huc
      have Hub2 := hide (Hub.out.below hbc)
      have Hbc := hide (bthen Hbb.out hbc)
      obtain ⟨ca, cc, rfl, _⟩ := huc
      clear hbc Hbb HD2 Hub
      go_wp2_with fail
      refine (HSD.out _ _ _ Hub2.out Huc.out).mono ?_
      rintro r wd ⟨rfl, hbd⟩
      have Hbd := hide (bthen Hbc.out hbd)
      clear hbd Hbc HSD Hub2 Huc
      go_wp2_with fail
      refine (HPu.out _ _ (HU.out _ Hbd.out) (HT.out _ Hbd.out)).mono ?_
      rintro r we ⟨⟨ue, xe, rfl, hue, hxe⟩, hbe⟩
      have Hue := hide hue
      have Hxe := hide hxe
      have Hbe := hide (bthen Hbd.out hbe)
      obtain ⟨ea', ec', rfl, _⟩ := hue
      clear hbe Hbd HPu hxe
      go_wp2_with fail
      refine (HPu2.out _ _ (HR.out _ Hbe.out)).mono ?_
      rintro r wf ⟨⟨uf, rfl, huf⟩, hbf⟩
      have hbg := hbf.alloc hbf.size (.cells #[.int .i64 (pc : Int), .int .i64 pa] 37)
      have hqg := HvAt.fresh wf pc pa 37
      have Huf := hide (huf.below ((Below.refl _ _).alloc (Nat.le_refl _) (.cells #[.int .i64 (pc : Int), .int .i64 pa] 37)))
      have Hue2 := hide (Hue.out.below hbg)
      have Hxe2 := hide (Hxe.out.below hbg)
      have Hbg := hide (bthen Hbe.out hbg)
      obtain ⟨fa', fc', rfl, _⟩ := huf
      clear hbf hbg Hbe HPu2 Hue Hxe
      go_upto_region 15 with fail
      generalize wf.alloc (.cells #[.int .i64 (pc : Int), .int .i64 pa] 37) = wg at *
      generalize wf.heap.size = qg at *
      obtain ⟨q0, q1, p0, p1, qlt'⟩ := hqg
      go_wp2_with fail
      refine (Hxe2.out.tells _ (Below.refl _ _)).mono ?_
      rintro r wh ⟨rfl, hbh⟩
      have Hue3 := hide (Hue2.out.below hbh)
      have Huf3 := hide (Huf.out.below hbh)
      have Hbh := hide (bthen Hbg.out hbh)
      clear hbh Hbg Hue2 Huf Hxe2 q0 q1 p0 p1 qlt'
      go_wp2_with fail
      refine (HSP.out _ _ _ Hue3.out Huf3.out).mono ?_
      rintro r wi ⟨rfl, hbi⟩
      have Hbi := hide (bthen Hbh.out hbi)
      clear hbi Hbh Hue3 Huf3 HSP
      go_wp2_with fail
      refine (HLi.out _ _ (HU.out _ Hbi.out) (HT.out _ Hbi.out)).mono ?_
      rintro r wj ⟨⟨uj, xj, rfl, huj, hxj⟩, hbj⟩
      have Hxj := hide hxj
      have Hbj := hide (bthen Hbi.out hbj)
      have hqj := Hq4.out _ Hbj.out
      obtain ⟨q0, q1, p0, p1, qlt'⟩ := hqj
      clear hbj Hbi HLi hxj
      by_cases hec : ec = 0
      · have hec' : (ec : Int) ≤ 0 := by omega
        have hxn := Hxj.out.none hec
        subst hxn
        rw [HlF.out hec] at huj
        have Huj := hide huj
        obtain ⟨ja, jc, ej, _⟩ := huj
        rw [List.length_map] at ej
        subst ej
        clear HlF HlZ Hfl hec Hxj
        go_wp2_with fail
        refine (HLi2.out _ _ (HR.out _ Hbj.out)).mono ?_
        rintro r wk ⟨⟨uk, rfl, huk⟩, hbk⟩
        have Huk := hide huk
        have Huj2 := hide (Huj.out.below hbk)
        have Hbk := hide (bthen Hbj.out hbk)
        obtain ⟨ka, kc, ek, _⟩ := huk
        rw [List.length_map] at ek
        subst ek
        clear hbk HLi2 Huj Hbj q0 q1 p0 p1 qlt'
        go_wp2_with fail
        refine (HSL.out _ _ _ Huj2.out Huk.out).mono ?_
        rintro r wm ⟨rfl, hbm⟩
        have Hbm := hide (bthen Hbk.out hbm)
        clear hbm Hbk HSL Huj2 Huk
        go_wp2_with fail
        refine (HSF.out _ _ _ (HU.out _ Hbm.out) (HR.out _ Hbm.out)).mono ?_
        rintro r wo ⟨rfl, hbo⟩
        have Hbo := hide (bthen Hb4.out (bthen Hbm.out hbo))
        clear hbo Hbm
        go_wp2_with fail
        go_ret
        exact ⟨rfl, Hbo.out⟩
      · have hec' : (0 : Int) < ec := by omega
        rw [HlZ.out hec] at huj
        obtain ⟨ja, jc, ej, _⟩ := huj
        subst ej
        clear HlF HlZ Hfl hec
        go_wp2_with fail
        refine (Hxj.out.tells _ (Below.refl _ _)).mono ?_
        rintro r wk ⟨rfl, hbk⟩
        have Hbk := hide (bthen Hb4.out (bthen Hbj.out hbk))
        clear hbk
        go_wp2_with fail
        go_ret
        exact ⟨rfl, Hbk.out⟩

set_option maxHeartbeats 2000000 in
set_option maxRecDepth 100000 in
theorem ftells_early (fa : Option Addr) (fc : Nat) (l : List Fl) (n d : ByteArray) (a : Nat → Addr) (w : World) (hS : Sents w a) (hP : TellOk a) (hl : FRow w (.slice fa l.length fc) l) (h : longF l 200 = true ∨ 30 < n.size ∨ (200 < d.size ∧ d.size ≠ 4001)) :
    Calls Tryd.prog 4 #[.slice fa l.length fc, .string n, .string d] w fun r w' => r = .returned (.bool true) ∧ Below w.heap.size w w' := by
  have HM := hide (filed_ok _ w hS (fun _ _ h hb => h.below hb) hP.get hP.all)
  have HO := hide (fun W (h : Below w.heap.size w W) => hl.below h)
  have HLg := hide (fun W (h : FRow W (.slice fa l.length fc) l) => longFiles_ok _ l 200 W h)
  have H := hide h
  generalize longF l 200 = B at *
  clear hS hP hl h
  go_enter Tryd.func4, Tryd.ntmps4
  go_wp2_with fail
  refine HM.out.mono ?_
  rintro r w1 ⟨rfl, hb1⟩
  have Hb1 := hide hb1
  clear hb1 HM
  go_upto_region 2 with fail
  go_cut [42] (fun v42 wc => v42 = .bool true ∧ wc = w1)
  case first =>
    go_wp2_with fail
    refine (HLg.out _ (HO.out _ Hb1.out)).mono ?_
    rintro r w2 ⟨rfl, rfl⟩
    cases B with
    | true =>
      go_wp2_with fail
      go_meet
      case rel => exact ⟨rfl, rfl⟩
    | false =>
      by_cases e1 : 30 < n.size
      · have c1 : decide ((30 : Int) < n.size) = true := by simp; omega
        go_wp2_with fail
        go_meet
        case rel => exact ⟨rfl, rfl⟩
      · have c1 : decide ((30 : Int) < n.size) = false := by simp; omega
        have e2 : 200 < d.size ∧ d.size ≠ 4001 := (H.out.resolve_left (by simp)).resolve_left e1
        have c2 : decide ((200 : Int) < d.size) = true := by simp; omega
        have c3 : ((d.size : Int) != 4001) = true := by simp; omega
        clear e1 e2
        go_wp2_with fail
        go_meet
        case rel => exact ⟨rfl, rfl⟩
  case rest =>
    obtain ⟨rfl, rfl⟩ := hcut
    go_wp2
    go_ret
    exact ⟨rfl, Hb1.out⟩

theorem ftells_walk (fa : Option Addr) (fc : Nat) (l : List Fl) (n d : ByteArray) (a : Nat → Addr) (w : World) (hS : Sents w a) (hP : TellOk a) (hl : FRow w (.slice fa l.length fc) l) :
    Calls Tryd.prog 4 #[.slice fa l.length fc, .string n, .string d] w fun r w' => r = .returned (.bool true) ∧ Below w.heap.size w w' := by
  by_cases h : longF l 200 = true ∨ 30 < n.size ∨ (200 < d.size ∧ d.size ≠ 4001)
  · exact ftells_early fa fc l n d a w hS hP hl h
  · simp only [not_or] at h
    obtain ⟨h1, h2, h3⟩ := h
    exact ftells_main fa fc l n d a w hS hP hl (by simpa using h1) (by omega) (by omega)
end Go.Proofs.YtbflmkjlpopeaadDoor
