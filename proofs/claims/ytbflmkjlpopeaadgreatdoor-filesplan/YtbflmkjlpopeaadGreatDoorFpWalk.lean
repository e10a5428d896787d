/-
  The walk of the law FilesPlan over the contracts.
-/
import Derived.Test.YtbflmkjlpopeaadGreatDoorJoin03
import Derived.Test.YtbflmkjlpopeaadGreatDoorJoin04
import Derived.Test.YtbflmkjlpopeaadGreatDoorJoin05
import Derived.Test.YtbflmkjlpopeaadGreatDoorRefLines
import Derived.Test.YtbflmkjlpopeaadGreatDoorRefPlan
import Derived.Test.YtbflmkjlpopeaadGreatDoorRefLRead
import Derived.Test.YtbflmkjlpopeaadGreatDoorCoded2
import Derived.Deep.DeepCutAuto
namespace Go.Proofs.YtbflmkjlpopeaadGreatDoor
open Go.RowKit
open Go.Files (Fl Ln St faultF keyL rdL encL FineL rdN rdNs)

/-- Lines that a law may hand in. -/
def FairL (l : List Ln) : Prop := l.length ≤ 900 ∧ ∀ x ∈ l, x.name.size ≤ 1000000 ∧ 0 ≤ x.sum ∧ x.sum < 4294967296
/-- An error by its number alone, behind whatever happens. -/
def Codes (w' : World) (x : Value) (c : Nat) : Prop :=
  ∀ W, Below w'.heap.size w' W → Calls Tryz.prog 13 #[x, .int .i64 c] W fun r W' => r = .returned (.bool true) ∧ Below W.heap.size W W'
theorem codes_nil (w : World) : Codes w .nilIface 0 := fun W _ => (coded_nil 0 W).mono fun _ _ ⟨h1, h2⟩ => ⟨by rw [h1]; rfl, by rw [h2]; exact Below.refl _ _⟩
theorem codes_bare (w : World) (a : Nat → Addr) (hS : Sents w a) (j : Nat) (hj : j < 12) : Codes w (.iface 164 (.pointer (some (a j)))) (j + 1) := fun W hW => by
  rw [show ((j + 1 : Nat) : Int) = (j : Int) + 1 by omega]
  exact (coded_sent j hj a _ W (hS.below hW)).mono fun _ _ ⟨h1, h2⟩ => ⟨by rw [h1]; simp, h2⟩
theorem Codes.below {w w' : World} {x : Value} {c : Nat} (h : Codes w x c) (hb : Below w.heap.size w w') : Codes w' x c := fun W hW => h W (bthen hb hW)
/-- What a text comes to: lines, an error's number. -/
def rdOutL (s : List UInt8) : List Ln × Nat := match rdL s with | .ok l => (l, 0) | .error c => ([], c)
/-- A text of lines, where all is well. -/
def textOutL (l : List Ln) : List UInt8 := if (faultF (l.map keyL)).1 = 0 then encL l else []

/-- An error as it lies there. -/
def ErrX (a : Nat → Addr) (w : World) (x : Value) (c : Nat) (at_ : Int) : Prop :=
  (c = 0 ∧ x = .nilIface) ∨ ∃ j, j < 12 ∧ c = j + 1 ∧ ((at_ = -1 ∧ x = .iface 164 (.pointer (some (a j)))) ∨
    ∃ p, x = .iface 97 (.pointer (some ⟨p, 0, none⟩)) ∧ w.cell? ⟨p, 0, none⟩ = some (.int .i64 at_) ∧ w.cell? ⟨p, 1, none⟩ = some (.iface 164 (.pointer (some (a j)))))
theorem ErrX.errOf {a : Nat → Addr} {w : World} {x : Value} {c : Nat} {at_ : Int} (h : ErrX a w x c at_) (hS : Sents w a) : ErrOf w x c at_ := by
  rcases h with ⟨rfl, rfl⟩ | ⟨j, hj, rfl, ⟨rfl, rfl⟩ | ⟨p, rfl, h0, h1⟩⟩
  · exact errOf_nil w at_
  · exact errOf_bare w a hS j hj
  · exact errOf_at w a hS j hj p at_ h0 h1
theorem ErrX.below {a : Nat → Addr} {w w' : World} {x : Value} {c : Nat} {at_ : Int} (h : ErrX a w x c at_) (hb : Below w.heap.size w w') : ErrX a w' x c at_ := by
  rcases h with h | ⟨j, hj, rfl, h | ⟨p, rfl, h0, h1⟩⟩
  · exact Or.inl h
  · exact Or.inr ⟨j, hj, rfl, Or.inl h⟩
  · exact Or.inr ⟨j, hj, rfl, Or.inr ⟨p, rfl, (hb.cell (World.block_lt_of_cell? _ _ h0)).trans h0, (hb.cell (World.block_lt_of_cell? _ _ h1)).trans h1⟩⟩
theorem ErrX.set {a : Nat → Addr} {w : World} {x : Value} {c : Nat} {at_ : Int} {q : Nat} {y z : Int} (h : ErrX a w x c at_) (hq : HvAt q w y z) (m n : Int) : ErrX a ((w.setCell ⟨q, 0, none⟩ (.int .i64 m)).setCell ⟨q, 1, none⟩ (.int .i64 n)) x c at_ := by
  rcases h with h | ⟨j, hj, rfl, h | ⟨p, rfl, h0, h1⟩⟩
  · exact Or.inl h
  · exact Or.inr ⟨j, hj, rfl, Or.inl h⟩
  · have hpq : q ≠ p := fun e => by
      subst e
      rw [hq.c1] at h1
      simp at h1
    refine Or.inr ⟨j, hj, rfl, Or.inr ⟨p, rfl, ?_, ?_⟩⟩
    · rw [World.cell?_setCell_other _ _ _ _ (fun e => hpq (congrArg Addr.block e)), World.cell?_setCell_other _ _ _ _ (fun e => hpq (congrArg Addr.block e))]
      exact h0
    · rw [World.cell?_setCell_other _ _ _ _ (fun e => hpq (congrArg Addr.block e)), World.cell?_setCell_other _ _ _ _ (fun e => hpq (congrArg Addr.block e))]
      exact h1
/-- The contracts of package files that FilesPlan asks for. -/
structure PlanOk (a : Nat → Addr) : Prop where
  text : ∀ v l W, LRow W v l → FairL l → Sents W a → Calls Tryz.prog 7 #[v] W fun r w' => (∃ x, r = .returned (.tuple #[.string (str (textOutL l)), x]) ∧ ErrOf w' x (faultF (l.map keyL)).1 (faultF (l.map keyL)).2) ∧ Below W.heap.size W w'
  read : ∀ s W, s.size ≤ 1000000 → Sents W a → Calls Tryz.prog 11 #[.string s] W fun r w' => (∃ u x, r = .returned (.tuple #[u, x]) ∧ LRow w' u (rdOutL s.data.toList).1 ∧ Codes w' x (rdOutL s.data.toList).2) ∧ Below W.heap.size W w'
  plan : ∀ u v F T W, LRow W u F → LRow W v T → FairL F → FairL T → Sents W a → Calls Tryz.prog 15 #[u, v] W fun r w' => (∃ p x, r = .returned (.tuple #[p, x]) ∧ SRow w' p (planOut F T).1 ∧ ErrX a w' x (planOut F T).2.1 (planOut F T).2.2) ∧ Below W.heap.size W w'

/-- A cell that is no cell of a row may be written. -/
theorem Row2.set {α : Type} {f g : α → Value} {w : World} {v : Value} {l : List α} (h : Row2 f g w v l) (p : Addr) (u : Value) (hp : ∀ x, w.cell? p ≠ some (f x) ∧ w.cell? p ≠ some (g x)) : Row2 f g (w.setCell p u) v l := by
  obtain ⟨a, c, rfl, h⟩ := h
  refine ⟨a, c, rfl, fun hl => ?_⟩
  obtain ⟨b, o, rfl, h'⟩ := h hl
  refine ⟨b, o, rfl, fun j hj => ?_⟩
  obtain ⟨h0, h1⟩ := h' j hj
  refine ⟨?_, ?_⟩
  · rw [World.cell?_setCell_other _ _ _ _ (fun e => by rw [e] at hp; exact (hp l[j]).1 h0)]
    exact h0
  · rw [World.cell?_setCell_other _ _ _ _ (fun e => by rw [e] at hp; exact (hp l[j]).2 h1)]
    exact h1
theorem SRow.set {w : World} {v : Value} {l : List St} {q : Nat} {x y : Int} (h : SRow w v l) (hq : HvAt q w x y) (a b : Int) : SRow ((w.setCell ⟨q, 0, none⟩ (.int .i64 a)).setCell ⟨q, 1, none⟩ (.int .i64 b)) v l := by
  refine Row2.set (Row2.set h ⟨q, 0, none⟩ _ (fun z => ?_)) ⟨q, 1, none⟩ _ (fun z => ?_)
  · rw [hq.c0]; simp
  · rw [World.cell?_setCell_other _ _ _ _ (by simp), hq.c1]; simp
theorem rdN_sum {s s1 : List UInt8} {x : Ln} (h : rdN s = .ok (x, s1)) : 0 ≤ x.sum ∧ x.sum < 4294967296 := by
  unfold rdN at h
  split at h
  · cases h
  · split at h
    · cases h
    · split at h
      · cases h
      · split at h
        · cases h
        · cases h
          simp only
          omega
theorem rdNs_sum : ∀ {k : Nat} {s s1 : List UInt8} {l : List Ln}, rdNs k s = .ok (l, s1) → ∀ x ∈ l, 0 ≤ x.sum ∧ x.sum < 4294967296
  | 0, s, s1, l, h => by cases h; intro x hx; cases hx
  | k + 1, s, s1, l, h => by
    rw [rdNs] at h
    split at h
    · cases h
    · rename_i x s2 hx
      split at h
      · cases h
      · rename_i l' s3 hl
        cases h
        intro y hy
        rcases List.mem_cons.1 hy with rfl | hy
        · exact rdN_sum hx
        · exact rdNs_sum hl y hy
theorem rdOutL_ok (s : List UInt8) : (rdOutL s).1.length ≤ 20 ∧ ∀ x ∈ (rdOutL s).1, 0 ≤ x.sum ∧ x.sum < 4294967296 := by
  unfold rdOutL
  cases h : rdL s with
  | error c => exact ⟨by simp, fun x hx => by cases hx⟩
  | ok l =>
    unfold rdL at h
    split at h
    · cases h
    · rename_i m s1 _
      cases hr : rdNs m s1 with
      | error c => rw [hr] at h; cases h
      | ok p =>
        obtain ⟨l', s2⟩ := p
        rw [hr, Go.Files.behindN] at h
        split at h
        · split at h
          · rename_i hf
            cases h
            have := (Go.Files.faultF_zero.1 hf).len
            rw [List.length_map] at this
            exact ⟨this, rdNs_sum hr⟩
          · cases h
        · cases h
theorem readLines_uni (s : ByteArray) (w : World) (hs : s.size ≤ 20000) :
    Calls Tryz.prog 12 #[.string s] w fun r w' => (∃ u, r = .returned (.tuple #[u, .int .i64 (rdOutL s.data.toList).2]) ∧ MRow w' u (rdOutL s.data.toList).1) ∧ Below w.heap.size w w' := by
  refine (readLines_ok s w hs).mono ?_
  rintro r w' ⟨h, hb⟩
  refine ⟨?_, hb⟩
  unfold rdOutL
  cases hr : rdL s.data.toList with
  | ok l => rw [hr] at h; obtain ⟨u, h1, h2⟩ := h; exact ⟨u, h1, h2⟩
  | error c => rw [hr] at h; exact ⟨_, h, Row3.nil _⟩
theorem plan_len : ∀ F T : List Ln, (Go.Files.planM F T).length ≤ F.length + T.length
  | [], t => by rw [Go.Files.planM]; simp
  | f :: r, [] => by rw [Go.Files.planM]; have := plan_len r []; simp at this ⊢; omega
  | f :: r, x :: q => by
    rw [Go.Files.planM]
    split
    · have := plan_len (f :: r) q; simp at this ⊢; omega
    · split
      · have := plan_len r q; simp at this ⊢; omega
      · have := plan_len r (x :: q); simp at this ⊢; omega
termination_by a b => a.length + b.length
theorem fine_of {l : List Ln} (h : (faultF (l.map keyL)).1 = 0) (hf : FairL l) : ∀ x ∈ l, FineL x := fun x hx => by
  have hw := Go.Files.faultF_zero.1 h
  have h1 := hw.ok (keyL x) (List.mem_map_of_mem hx)
  obtain ⟨h2, h3, h4⟩ := h1
  have h5 := hf.2 x hx
  have : x.name.size ≤ 12 := by
    simp only [keyL, Go.Files.isNm, Bool.and_eq_true] at h2
    exact of_decide_eq_true h2.2.2
  simp only [keyL] at h3 h4
  exact ⟨this, h3, h4, h5.2.1, h5.2.2⟩

set_option maxHeartbeats 4000000 in
set_option maxRecDepth 100000 in
theorem fplan_main (aa ba : Option Addr) (ac bc : Nat) (A B : List Ln) (s : ByteArray) (a : Nat → Addr) (w : World) (hS : Sents w a) (hG : FilesGet) (hE : FilesAll fun W => Sents W a) (hP : PlanOk a) (hA : MRow w (.slice aa A.length ac) A) (hB : MRow w (.slice ba B.length bc) B) (hlA : longL A = false) (hlB : longL B = false) (hs : s.size ≤ 500) :
    Calls Tryz.prog 3 #[.slice aa A.length ac, .slice ba B.length bc, .string s] w fun r w' => r = .returned (.bool true) ∧ Below w.heap.size w w' := by
  obtain ⟨hA25, hAx⟩ := longL_false hlA
  obtain ⟨hB25, hBx⟩ := longL_false hlB
  have hfA : FairL A := ⟨by omega, fun x hx => by have := hAx x hx; omega⟩
  have hfB : FairL B := ⟨by omega, fun x hx => by have := hBx x hx; omega⟩
  have hnA : ∀ x ∈ A, x.name.size ≤ 1000000 := fun x hx => (hfA.2 x hx).1
  have hnB : ∀ x ∈ B, x.name.size ≤ 1000000 := fun x hx => (hfB.2 x hx).1
  have hsA : ∀ x ∈ A, 0 ≤ x.sum ∧ x.sum < 4294967296 := fun x hx => (hfA.2 x hx).2
  have hsB : ∀ x ∈ B, 0 ≤ x.sum ∧ x.sum < 4294967296 := fun x hx => (hfB.2 x hx).2
  have HM := hide (filed_ok _ w hS (fun _ _ h hb => h.below hb) hG hE)
  have HT := hide (fun W (h : Below w.heap.size w W) => hS.below h)
  have HA := hide (fun W (h : Below w.heap.size w W) => hA.below h)
  have HB := hide (fun W (h : Below w.heap.size w W) => hB.below h)
  have HLA := hide (fun W (h : MRow W (.slice aa A.length ac) A) => longLines_ok _ A W h)
  have HLB := hide (fun W (h : MRow W (.slice ba B.length bc) B) => longLines_ok _ B W h)
  rw [hlA] at HLA
  rw [hlB] at HLB
  have HF := hide (fun W (h : MRow W (.slice aa A.length ac) A) => linesFault_ok _ A W h (by omega) hnA)
  have HAs := hide (fun W (h : MRow W (.slice aa A.length ac) A) => asLines_ok _ A W h (by omega) hsA)
  have HBs := hide (fun W (h : MRow W (.slice ba B.length bc) B) => asLines_ok _ B W h (by omega) hsB)
  have HTx := hide (fun v W (h : LRow W v A) (k : Sents W a) => hP.text v A W h hfA k)
  have HTr := hide (fun W (h : MRow W (.slice aa A.length ac) A) (k : (faultF (A.map keyL)).1 = 0) => linesText_ok _ A W h (by omega) (fine_of k hfA))
  have hto : (faultF (A.map keyL)).1 = 0 → textOutL A = encL A := fun h => by unfold textOutL; rw [if_pos h]
  have htz : (faultF (A.map keyL)).1 ≠ 0 → textOutL A = [] := fun h => by unfold textOutL; rw [if_neg h]
  have Hto := hide hto
  have Htz := hide htz
  have HRd := hide (fun W (k : Sents W a) => hP.read s W (by omega) k)
  have HRr := hide (fun W => readLines_uni s W (by omega))
  obtain ⟨hr1, hr2⟩ := rdOutL_ok s.data.toList
  have HSL := hide (fun u v W (h : LRow W u (rdOutL s.data.toList).1) (k : MRow W v (rdOutL s.data.toList).1) => sameLines_ok u v _ W h k (by omega) hr2)
  have HPl := hide (fun u v W (h : LRow W u A) (h' : LRow W v B) (k : Sents W a) => hP.plan u v A B W h h' hfA hfB k)
  have HPr := hide (fun W (h : MRow W (.slice aa A.length ac) A) (h' : MRow W (.slice ba B.length bc) B) => planOf_ok _ _ A B W h h' (by omega) (by omega) hnA hnB)
  have hpz : (planOut A B).2.1 ≠ 0 → (planOut A B).1 = [] := by
    unfold planOut
    split
    · split
      · intro h; exact absurd rfl h
      · intro _; rfl
    · intro _; rfl
  have hpl : (planOut A B).1.length ≤ 1000000 := by
    unfold planOut
    split
    · split
      · exact Nat.le_trans (plan_len A B) (by omega)
      · simp
    · simp
  have Hpz := hide hpz
  clear hS hG hE hP hA hB hlA hlB hAx hBx hfA hfB hnA hnB hsA hsB hto htz hpz hr2
  generalize textOutL A = tx at *
  generalize encL A = en at *
  generalize faultF (A.map keyL) = f at *
  obtain ⟨ec, ea⟩ := f
  generalize rdOutL s.data.toList = ro at *
  obtain ⟨rl, rc⟩ := ro
  generalize planOut A B = po at *
  obtain ⟨pl, pc, pa⟩ := po
  simp only at HF HTx HTr Hto Htz HRd HRr HSL HPl HPr Hpz hpl hr1
  go_enter Tryz.func3, Tryz.ntmps3
  go_wp2_with fail
  refine HM.out.mono ?_
  rintro r w1 ⟨rfl, hb1⟩
  have Hb1 := hide hb1
  have c1 : decide ((500 : Int) < s.size) = false := by simp; omega
  clear hb1 HM
  go_wp2_with fail
  refine (HLA.out _ (HA.out _ Hb1.out)).mono ?_
  rintro r w2 ⟨rfl, rfl⟩
  go_wp2_with fail
  refine (HLB.out _ (HB.out _ Hb1.out)).mono ?_
  rintro r w2 ⟨rfl, rfl⟩
  rw [show bit false = 0 from rfl]
  go_wp2_with fail
  refine (HF.out _ (HA.out _ Hb1.out)).mono ?_
  rintro r w4 ⟨rfl, hb4⟩
  have hba := hb4.alloc hb4.size (.cells #[.int .i64 (ec : Int), .int .i64 ea] 26)
  have hq4 := HvAt.fresh w4 ec ea 26
  have Hb4 := hide (bthen Hb1.out hba)
  have Hnew : Hid (w.heap.size ≤ w4.heap.size) := Nat.le_trans Hb1.out.size hb4.size
  clear hb4 hba HF HLA HLB Hb1
  go_upto_region 5 with fail
  generalize w4.alloc (.cells #[.int .i64 (ec : Int), .int .i64 ea] 26) = w5 at *
  generalize w4.heap.size = q at *
  have Hq4 := hide hq4
  clear hq4
  go_wp2_with fail
  refine (HAs.out _ (HA.out _ Hb4.out)).mono ?_
  rintro r w6 ⟨⟨u6, rfl, hu6⟩, hb6⟩
  have Hu6 := hide hu6
  obtain ⟨a6, c6, rfl, _⟩ := hu6
  have Hq6 := hide (Hq4.out.below hb6 Hq4.out.lt)
  have Hb6 := hide (bthen Hb4.out hb6)
  clear hb6 Hb4 Hq4
  go_wp2_with fail
  refine (HTx.out _ _ Hu6.out (HT.out _ Hb6.out)).mono ?_
  rintro r w7 ⟨⟨x7, rfl, hx7⟩, hb7⟩
  have hq7 := Hq6.out.below hb7 Hq6.out.lt
  have Hq7 := hide hq7
  have Hx7 := hide hx7
  have Hb7 := hide (bthen Hb6.out hb7)
  obtain ⟨q0, q1, p0, p1, qlt⟩ := hq7
  clear hb7 Hb6 Hq6 hx7 Hu6 HTx
  go_upto_if 44 with fail
  go_cut [] (fun wc => Hid (HvAt q wc ec ea) ∧ Hid (Below w.heap.size w wc))
  case first =>
    by_cases hec : ec = 0
    · have hec' : (ec : Int) ≤ 0 := by omega
      have hxn := Hx7.out.none hec
      subst hxn
      have htx := Hto.out hec
      subst htx
      have HTl := hide (HTr.out _ (HA.out _ Hb7.out) hec)
      clear hec Hto Htz HTr Hx7
      go_wp2_with fail
      refine HTl.out.mono ?_
      rintro r w8 ⟨rfl, hb8⟩
      have Hq8 := hide (Hq7.out.below hb8 Hq7.out.lt)
      have Hb8 := hide (bthen Hb7.out hb8)
      clear hb8
      go_wp2_with fail
      go_meet
      case rel => exact ⟨Hq8.out, Hb8.out⟩
    · have hec' : (0 : Int) < ec := by omega
      have htx := Htz.out hec
      subst htx
      have hemp : (str ([] : List UInt8)).toList.isEmpty = true := by rw [ByteArray.toList_eq]; rfl
      clear hec Hto Htz HTr
      go_wp2_with fail
      refine (Hx7.out.tells _ (Below.refl _ _)).mono ?_
      rintro r w8 ⟨rfl, hb8⟩
      have Hq8 := hide (Hq7.out.below hb8 Hq7.out.lt)
      have Hb8 := hide (bthen Hb7.out hb8)
      clear hb8
      go_wp2_with fail
      go_meet
      case rel => exact ⟨Hq8.out, Hb8.out⟩
  case rest =>
    obtain ⟨Hq8, Hb8⟩ := hcut
    clear Hq7 Hb7 Hx7 Hto Htz HTr q0 q1 p0 p1 qlt
    go_wp2_with fail
    refine (HRd.out _ (HT.out _ Hb8.out)).mono ?_
    rintro r w9 ⟨⟨u9, x9, rfl, hu9, hx9⟩, hb9⟩
    have Hu9 := hide hu9
    have Hx9 := hide hx9
    have Hq9 := hide (Hq8.out.below hb9 Hq8.out.lt)
    have Hb9 := hide (bthen Hb8.out hb9)
    obtain ⟨a9, c9, rfl, _⟩ := hu9
    clear hb9 hx9 Hb8 Hq8 HRd
    go_wp2_with fail
    refine (HRr.out _).mono ?_
    rintro r wa ⟨⟨ua, rfl, hua⟩, hba⟩
    have Hua := hide hua
    have Hu9' := hide (Hu9.out.below hba)
    have Hx9' := hide (Hx9.out.below hba)
    have Hqa := hide (Hq9.out.below hba Hq9.out.lt)
    have Hba := hide (bthen Hb9.out hba)
    obtain ⟨aa', ca', rfl, _⟩ := hua
    clear hba Hb9 Hq9 HRr Hu9 Hx9
    go_wp2_with fail
    refine (Hx9'.out _ (Below.refl _ _)).mono ?_
    rintro r wb ⟨rfl, hbb⟩
    have Hu9'' := hide (Hu9'.out.below hbb)
    have Hua' := hide (Hua.out.below hbb)
    have Hqb := hide (Hqa.out.below hbb Hqa.out.lt)
    have Hbb := hide (bthen Hba.out hbb)
    clear hbb Hba Hqa Hu9' Hua Hx9'
    go_wp2_with fail
    refine (HSL.out _ _ _ Hu9''.out Hua'.out).mono ?_
    rintro r wc' ⟨rfl, hbc⟩
    have Hqc := hide (Hqb.out.below hbc Hqb.out.lt)
    have Hbc := hide (bthen Hbb.out hbc)
    clear hbc Hbb Hqb HSL Hu9'' Hua'
    go_wp2_with fail
    refine (HAs.out _ (HA.out _ Hbc.out)).mono ?_
    rintro r wd ⟨⟨ud, rfl, hud⟩, hbd⟩
    have Hud := hide hud
    have Hqd := hide (Hqc.out.below hbd Hqc.out.lt)
    have Hbd := hide (bthen Hbc.out hbd)
    obtain ⟨ad, cd, rfl, _⟩ := hud
    clear hbd Hbc Hqc HAs
    go_wp2_with fail
    refine (HBs.out _ (HB.out _ Hbd.out)).mono ?_
    rintro r we ⟨⟨ue, rfl, hue⟩, hbe⟩
    have Hue := hide hue
    have Hud' := hide (Hud.out.below hbe)
    have Hqe := hide (Hqd.out.below hbe Hqd.out.lt)
    have Hbe := hide (bthen Hbd.out hbe)
    obtain ⟨ae, ce, rfl, _⟩ := hue
    clear hbe Hbd Hqd HBs Hud
    go_wp2_with fail
    refine (HPl.out _ _ _ Hud'.out Hue.out (HT.out _ Hbe.out)).mono ?_
    rintro r wf ⟨⟨pf, xf, rfl, hpf, hxf⟩, hbf⟩
    have Hpf := hide hpf
    have Hxf := hide hxf
    have Hqf := hide (Hqe.out.below hbf Hqe.out.lt)
    have Hbf := hide (bthen Hbe.out hbf)
    obtain ⟨af, cf, rfl, _⟩ := hpf
    clear hbf Hbe Hqe HPl Hud' Hue hxf
    go_wp2_with fail
    refine (HPr.out _ (HA.out _ Hbf.out) (HB.out _ Hbf.out)).mono ?_
    rintro r wg ⟨⟨ug, rfl, hug⟩, hbg⟩
    have hqg := Hqf.out.below hbg Hqf.out.lt
    have hbS : Below q wg ((wg.setCell ⟨q, 0, none⟩ (.int .i64 pc)).setCell ⟨q, 1, none⟩ (.int .i64 pa)) := ((Below.refl q wg).setCell (by simp) _).setCell (by simp) _
    have Hqh := hide (hqg.set pc pa)
    have Hpg := hide (SRow.set (Hpf.out.below hbg) hqg pc pa)
    have Hug := hide (SRow.set hug hqg pc pa)
    have Hbh := hide ((bthen Hbf.out hbg).trans (hbS.mono Hnew.out))
    have Hxh := hide (((Hxf.out.below hbg).set hqg pc pa).errOf (HT.out _ Hbh.out))
    obtain ⟨ag, cg, rfl, _⟩ := hug
    obtain ⟨y0, y1, z0, z1, ylt⟩ := hqg
    clear hbg hbS Hbf Hqf Hpf Hxf HPr
    go_upto_region 17 with fail
    generalize ((wg.setCell ⟨q, 0, none⟩ (.int .i64 (pc : Int))).setCell ⟨q, 1, none⟩ (.int .i64 pa)) = wh at *
    have hqh := Hqh.out
    obtain ⟨q0, q1, p0, p1, qlt⟩ := hqh
    clear y0 y1 z0 z1 ylt
    by_cases hpc : pc = 0
    · have hpc' : (pc : Int) ≤ 0 := by omega
      have hxn := Hxh.out.none hpc
      subst hxn
      have hpl' : (pl.length : Int) ≤ 1000000 := by omega
      obtain ⟨_, _, e1, hp1⟩ := Hpg.out
      obtain ⟨_, _, e2, hp2⟩ := Hug.out
      have HP1 := hide hp1
      have HP2 := hide hp2
      simp only [Value.slice.injEq] at e1 e2
      obtain ⟨rfl, _, rfl⟩ := e1
      obtain ⟨rfl, _, rfl⟩ := e2
      clear hpc Hxh Hpz hp1 hp2 Hpg Hug
      go_wp2_with fail
      go_loopw [16] (fun t wr => ∃ j : Nat, t = .int .i64 j ∧ j ≤ pl.length ∧ Hid (Below wh.heap.size wh wr)) (fun t _ => pl.length - (intOf t).toNat)
      case atStart => exact ⟨0, rfl, by omega, Below.refl _ _⟩
      case round =>
        obtain ⟨j, rfl, hj, Hb⟩ := hrel
        by_cases hlt : j < pl.length
        · have hlt' : (j : Int) < pl.length := by omega
          obtain ⟨b1, o1, rfl, hc1⟩ := HP1.out (by omega)
          obtain ⟨b2, o2, rfl, hc2⟩ := HP2.out (by omega)
          obtain ⟨m0, m1⟩ := hc1 j hlt
          obtain ⟨n0, n1⟩ := hc2 j hlt
          have d0 := (Hb.out.cell (World.block_lt_of_cell? _ _ m0)).trans m0
          have d1 := (Hb.out.cell (World.block_lt_of_cell? _ _ m1)).trans m1
          have e0 := (Hb.out.cell (World.block_lt_of_cell? _ _ n0)).trans n0
          have e1 := (Hb.out.cell (World.block_lt_of_cell? _ _ n1)).trans n1
          clear hc1 hc2 m0 m1 n0 n1
          generalize pl[j] = z at *
          go_wp2_with fail
          go_quiet (fail)
          go_wp2_with fail
          go_roundw
          case rel => exact ⟨j + 1, by go_num, by omega, Hb.out.trans ⟨rfl, rfl, rfl, Nat.le_refl _, fun _ _ => rfl⟩⟩
          case measure => simp [intOf]; omega
        · have hle : (pl.length : Int) ≤ (j : Int) := by omega
          have Hbz := hide (bthen Hbh.out Hb.out)
          clear Hb
          go_wp2_with fail
          go_ret
          exact ⟨rfl, Hbz.out⟩
    · have hpc' : (0 : Int) < pc := by omega
      have hpl0 := Hpz.out hpc
      subst hpl0
      clear hpc Hpz
      go_wp2_with fail
      refine (Hxh.out.tells _ (Below.refl _ _)).mono ?_
      rintro r wi ⟨rfl, hbi⟩
      have Hbi := hide (bthen Hbh.out hbi)
      clear hbi
      go_wp2_with fail
      go_ret
      exact ⟨rfl, Hbi.out⟩

set_option maxHeartbeats 2000000 in
set_option maxRecDepth 100000 in
theorem fplan_early (aa ba : Option Addr) (ac bc : Nat) (A B : List Ln) (s : ByteArray) (a : Nat → Addr) (w : World) (hS : Sents w a) (hG : FilesGet) (hE : FilesAll fun W => Sents W a) (hA : MRow w (.slice aa A.length ac) A) (hB : MRow w (.slice ba B.length bc) B) (h : longL A = true ∨ longL B = true ∨ 500 < s.size) :
    Calls Tryz.prog 3 #[.slice aa A.length ac, .slice ba B.length bc, .string s] w fun r w' => r = .returned (.bool true) ∧ Below w.heap.size w w' := by
  have HM := hide (filed_ok _ w hS (fun _ _ h hb => h.below hb) hG hE)
  have HA := hide (fun W (h : Below w.heap.size w W) => hA.below h)
  have HB := hide (fun W (h : Below w.heap.size w W) => hB.below h)
  have HLA := hide (fun W (h : MRow W (.slice aa A.length ac) A) => longLines_ok _ A W h)
  have HLB := hide (fun W (h : MRow W (.slice ba B.length bc) B) => longLines_ok _ B W h)
  have H := hide h
  generalize longL A = x at *
  generalize longL B = y at *
  clear hS hG hE hA hB h
  go_enter Tryz.func3, Tryz.ntmps3
  go_wp2_with fail
  refine HM.out.mono ?_
  rintro r w1 ⟨rfl, hb1⟩
  have Hb1 := hide hb1
  clear hb1 HM
  go_upto_region 2 with fail
  go_cut [32] (fun v32 wc => v32 = .bool true ∧ wc = w1)
  case first =>
    go_wp2_with fail
    refine (HLA.out _ (HA.out _ Hb1.out)).mono ?_
    rintro r w2 ⟨rfl, rfl⟩
    go_wp2_with fail
    refine (HLB.out _ (HB.out _ Hb1.out)).mono ?_
    rintro r w2 ⟨rfl, rfl⟩
    cases x with
    | true =>
      cases y with
      | true =>
        rw [show bit true = 1 from rfl]
        go_wp2_with fail
        go_meet
        case rel => exact ⟨rfl, rfl⟩
      | false =>
        rw [show bit true = 1 from rfl, show bit false = 0 from rfl]
        go_wp2_with fail
        go_meet
        case rel => exact ⟨rfl, rfl⟩
    | false =>
      cases y with
      | true =>
        rw [show bit true = 1 from rfl, show bit false = 0 from rfl]
        go_wp2_with fail
        go_meet
        case rel => exact ⟨rfl, rfl⟩
      | false =>
        have e : 500 < s.size := (H.out.resolve_left (by simp)).resolve_left (by simp)
        have c1 : decide ((500 : Int) < s.size) = true := by simp; omega
        rw [show bit false = 0 from rfl]
        clear e
        go_wp2_with fail
        go_meet
        case rel => exact ⟨rfl, rfl⟩
  case rest =>
    obtain ⟨rfl, rfl⟩ := hcut
    go_wp2
    go_ret
    exact ⟨rfl, Hb1.out⟩

theorem fplan_walk (aa ba : Option Addr) (ac bc : Nat) (A B : List Ln) (s : ByteArray) (a : Nat → Addr) (w : World) (hS : Sents w a) (hG : FilesGet) (hE : FilesAll fun W => Sents W a) (hP : PlanOk a) (hA : MRow w (.slice aa A.length ac) A) (hB : MRow w (.slice ba B.length bc) B) :
    Calls Tryz.prog 3 #[.slice aa A.length ac, .slice ba B.length bc, .string s] w fun r w' => r = .returned (.bool true) ∧ Below w.heap.size w w' := by
  by_cases h : longL A = true ∨ longL B = true ∨ 500 < s.size
  · exact fplan_early aa ba ac bc A B s a w hS hG hE hA hB h
  · simp only [not_or] at h
    obtain ⟨h1, h2, h3⟩ := h
    exact fplan_main aa ba ac bc A B s a w hS hG hE hP hA hB (by simpa using h1) (by simpa using h2) (by omega)
end Go.Proofs.YtbflmkjlpopeaadGreatDoor
