/-
  What is asked of package tape: the contracts of its functions, over any family that says what a disk is; the closed fact.
-/
import Derived.Test.YtledipmimfphdaaDoorTapeMath
import Derived.Test.YtledipmimfphdaaDoorCodesA
import Derived.Test.YtledipmimfphdaaDoorRefTexts
namespace Go.Proofs.YtledipmimfphdaaDoor
open Go.RowKit
open Go.Tape

def texts (s : ByteArray) : List ByteArray := (readT s.data.toList).1.map str
/-- Package tape's contracts. -/
structure TapeGo (a : Nat → Addr) (Env : World → Prop) (D : Value → Tp → Fam) : Prop where
  env : ∀ {w w' : World}, Env w → Below w.heap.size w w' → Env w'
  new : ∀ b W, b.size ≤ 2000 → Env W → Tri Tryd.prog 7 #[.string b] [] (fun e L => ∃ q, e = .returned (.tuple #[.pointer (some q), .nilIface]) ∧ L = [D (.pointer (some q)) ⟨b, false, -1⟩]) W
  append : ∀ v d s W, d.b.size ≤ 1048576 → s.size ≤ 20001 → Env W → Tri Tryd.prog 9 #[v, .string s] [D v d] (fun e L => e = .returned (errA a (d.appE s)) ∧ L = [D v (d.app s)]) W
  recover : ∀ v d W, d.b.size ≤ 1048576 → Env W → Tri Tryd.prog 10 #[v] [D v d] (fun e L => ∃ x, e = .returned (.tuple #[x, .nilIface]) ∧ L = [RowF strV x (texts d.b), D v d.back]) W
  bytes : ∀ v d W, Tri Tryd.prog 14 #[v] [D v d] (fun e L => e = .returned (.string d.b) ∧ L = [D v d]) W
theorem rowStr {w : World} (b : ByteArray) (T : TypeId) : Row1 strV (w.alloc (.cells #[.string b] T)) (.slice (some ⟨w.heap.size, 0, none⟩) 1 1) [b] :=
  ⟨_, 1, rfl, fun _ => ⟨_, 0, rfl, fun j hj => by
    simp only [List.length_singleton] at hj
    obtain rfl : j = 0 := by omega
    simp [strV]⟩⟩
def oneT : ByteArray := ⟨#[97, 32, 98]⟩
theorem tape_one : (Tp.mk ⟨#[]⟩ false (-1)).appE oneT = 0 ∧ (Tp.mk ⟨#[]⟩ false (-1)).app oneT = ⟨⟨#[51, 58, 97, 32, 98, 10, 46]⟩, false, -1⟩ ∧ (Tp.mk ⟨#[51, 58, 97, 32, 98, 10, 46]⟩ false (-1)).back = ⟨⟨#[51, 58, 97, 32, 98, 10, 46]⟩, false, -1⟩ ∧ texts ⟨#[51, 58, 97, 32, 98, 10, 46]⟩ = [oneT] := by
  have hd : Go.Digits.digits 3 = [51] := Go.Digits.digits_small (by decide)
  have hr : recB [97, 32, 98] = [51, 58, 97, 32, 98, 10, 46] := by
    unfold recB
    rw [show ([97, 32, 98] : List UInt8).length = 3 from rfl, hd]
    rfl
  have h1 : rec1 oneT = ⟨#[51, 58, 97, 32, 98, 10, 46]⟩ := by
    unfold rec1
    rw [show oneT.data.toList = [97, 32, 98] from rfl, hr]
    rfl
  have h2 : readT [51, 58, 97, 32, 98, 10, 46] = ([[97, 32, 98]], 7) := by
    have := readT_rec (s := [97, 32, 98]) (by decide) []
    rw [hr, readT_nil] at this
    exact this
  refine ⟨?_, ?_, ?_, ?_⟩
  · unfold Tp.appE
    rw [h1]
    decide
  · unfold Tp.app
    rw [h1, if_neg (by decide), if_neg (by decide)]
    rfl
  · unfold Tp.back
    simp only [h2]
    rfl
  · unfold texts
    rw [show ((⟨#[51, 58, 97, 32, 98, 10, 46]⟩ : ByteArray)).data.toList = [51, 58, 97, 32, 98, 10, 46] from rfl, h2]
    rfl

set_option maxHeartbeats 1000000 in
set_option maxRecDepth 100000 in
theorem taped_ok {a : Nat → Addr} {Env : World → Prop} {D : Value → Tp → Fam} (hT : TapeGo a Env D) (w : World) (hE : Env w) :
    Calls Tryd.prog 6 #[] w fun r w' => r = .returned (.bool true) ∧ Below w.heap.size w w' := by
  have HE := hide (fun W (k : Below w.heap.size w W) => hT.env hE k)
  have HS := hide (Sep.start w)
  obtain ⟨h1, h2, h3, h4⟩ := tape_one
  have HN := hide (fun W (q : Env W) => hT.new ⟨#[]⟩ W (by decide) q)
  have HA := hide (fun v W (q : Env W) => hT.append v ⟨⟨#[]⟩, false, -1⟩ oneT W (by decide) (by decide) q)
  have HR := hide (fun v W (q : Env W) => hT.recover v ⟨⟨#[51, 58, 97, 32, 98, 10, 46]⟩, false, -1⟩ W (by decide) q)
  have HB := hide (fun v W => hT.bytes v ⟨⟨#[51, 58, 97, 32, 98, 10, 46]⟩, false, -1⟩ W)
  rw [h1, h2] at HA
  rw [h3, h4] at HR
  simp only [errA] at HA
  have HT : Hid (∀ u v W, Row1 strV W u [oneT] → Row1 strV W v [oneT] → Calls Tryd.prog 11 #[u, v] W fun r w' => r = .returned (.bool true) ∧ Below W.heap.size W w') := fun u v W p q => by
    have := sameTexts_ok u v [oneT] [oneT] W p q (by decide) (by decide)
    simpa using this
  clear h1 h2 h3 h4 hE hT
  go_enter Tryd.func6, Tryd.ntmps6
  go_wp2_with fail
  refine (Sep.call (L0 := []) HS.out (HN.out _ (HE.out _ HS.out.below))).mono ?_
  rintro e w1 ⟨_, ⟨v, rfl, rfl⟩, hs1⟩
  have HS1 := hide hs1
  clear hs1 HS HN
  go_wp2_with fail
  refine (Sep.call (L0 := [_]) HS1.out (HA.out _ _ (HE.out _ HS1.out.below))).mono ?_
  rintro e w2 ⟨_, ⟨rfl, rfl⟩, hs2⟩
  have HS2 := hide hs2
  clear hs2 HS1 HA
  go_wp2_with fail
  refine (Sep.call (L0 := [_]) HS2.out (HR.out _ _ (HE.out _ HS2.out.below))).mono ?_
  rintro e w3 ⟨_, ⟨x, rfl, rfl⟩, hs3⟩
  obtain ⟨xa, xc, rfl, -⟩ := hs3.rowForm
  have HS3 := hide (hs3.alloc (.cells #[.string oneT] 9))
  have Hr := hide (HT.out _ _ _ HS3.out.row (rowStr oneT 9))
  clear hs3 HS2 HR HT
  go_wp2_with fail
  refine Hr.out.mono ?_
  rintro e w4 ⟨rfl, hb4⟩
  have HS4 := hide ((HS3.out.keep hb4).drop)
  clear hb4 HS3 Hr
  go_wp2_with fail
  refine (Sep.call (L0 := [_]) HS4.out (HB.out _ _)).mono ?_
  rintro e w5 ⟨_, ⟨rfl, rfl⟩, hs5⟩
  have Hb := hide hs5.below
  clear hs5 HS4 HB
  go_wp2_with fail
  go_ret
  exact ⟨rfl, Hb.out⟩
end Go.Proofs.YtledipmimfphdaaDoor
