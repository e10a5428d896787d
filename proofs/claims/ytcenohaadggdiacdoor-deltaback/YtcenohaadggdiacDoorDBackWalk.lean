/-
  The walk of the law DeltaBack over the contracts.
-/
import Derived.Test.YtcenohaadggdiacDoorJoin12
import Derived.Test.YtcenohaadggdiacDoorJoin13
import Derived.Test.YtcenohaadggdiacDoorJoin14
namespace Go.Proofs.YtcenohaadggdiacDoor
open Go.RowKit
open Go.Sign (Blk)
open Go.Delta (Opx)

set_option maxHeartbeats 1000000 in
set_option maxRecDepth 100000 in
theorem dback_early (old s : ByteArray) (size : Int) (e : OV) (w : World) (he : OEr e w) (h : 200 < old.size ∨ 200 < s.size ∨ ¬ (1 ≤ size ∧ size ≤ 64)) : Calls Tryd.prog 4 #[.string old, .string s, .int .i64 size] w fun r w' => r = .returned (.bool true) ∧ Below w.heap.size w w' := by
  have HS := hide (madeFact_ok e.e w he.er)
  have HE := hide he
  by_cases h1 : 200 < old.size
  · have h1' : decide ((200 : Int) < old.size) = true := by simp; omega
    clear h he
    go_enter Tryd.func4, Tryd.ntmps4
    go_wp2_with fail
    refine HS.out.mono ?_
    rintro r w1 ⟨rfl, hb1⟩
    have Hb1 := hide hb1
    clear hb1
    go_wp2
    go_ret
    exact ⟨rfl, Hb1.out⟩
  · have h1' : decide ((200 : Int) < old.size) = false := by simp; omega
    by_cases h2 : 200 < s.size
    · have h2' : decide ((200 : Int) < s.size) = true := by simp; omega
      clear h he
      go_enter Tryd.func4, Tryd.ntmps4
      go_wp2_with fail
      refine HS.out.mono ?_
      rintro r w1 ⟨rfl, hb1⟩
      have Hb1 := hide hb1
      clear hb1
      go_wp2
      go_ret
      exact ⟨rfl, Hb1.out⟩
    · have h2' : decide ((200 : Int) < s.size) = false := by simp; omega
      have HO := hide (fun W (x : Er e.e W) => of_err old size e.e.tB e.e.xB W (Or.inr ((h.resolve_left h1).resolve_left h2)) x.bound)
      clear h he
      go_enter Tryd.func4, Tryd.ntmps4
      go_wp2_with fail
      refine HS.out.mono ?_
      rintro r w1 ⟨rfl, hb1⟩
      have Hb1 := hide hb1
      have HE1 := hide (HE.out.er.below hb1)
      clear hb1 HE
      go_wp2_with fail
      refine (HO.out _ HE1.out).mono ?_
      rintro r w2 ⟨rfl, hb2⟩
      have Hb2 := hide (bthen Hb1.out hb2)
      clear hb2 HE1
      go_wp2
      go_ret
      exact ⟨rfl, Hb2.out⟩

theorem own_sliceB {w : World} {base size n : Nat} {e : TypeId} {v : Value} {xs : List Value} (h : w.ownsRow base e size v n xs) : ∃ a c, v = .slice a n c := by
  rcases own_forms h with ⟨rfl, rfl⟩ | ⟨g, c, rfl⟩
  · exact ⟨_, _, rfl⟩
  · exact ⟨_, _, rfl⟩

set_option maxHeartbeats 2000000 in
set_option maxRecDepth 100000 in
theorem dback_main (old s : ByteArray) (size : Nat) (e : OV) (w : World) (he : OEr e w) (h1 : 1 ≤ size) (h2 : size ≤ 64) (ho : old.size ≤ 200) (hs : s.size ≤ 200) :
    Calls Tryd.prog 4 #[.string old, .string s, .int .i64 size] w fun r w' => r = .returned (.bool true) ∧ Below w.heap.size w w' := by
  have HS := hide (madeFact_ok e.e w he.er)
  have HE := hide he
  have hs' : (s.size : Int) ≤ 200 := by omega
  have ho' : (old.size : Int) ≤ 200 := by omega
  have h1' : (1 : Int) ≤ size := by omega
  have h2' : (size : Int) ≤ 64 := by omega
  have hL : (sigL old.data.toList size).length ≤ 200 := by
    rw [sigL_length, lenL]
    have := many_le (len := old.size) h1
    omega
  have hf1 : (Go.Sign.fault (sigL old.data.toList size) size).1 = 0 := by rw [fault_sig _ size h1 h2 (by rw [lenL]; omega)]
  have hcost := cost_own old.data.toList [] size h1 (Or.inl rfl)
  rw [List.append_nil, List.length_nil] at hcost
  have HO := hide (fun W => of_ok old size W (by omega) h1 h2)
  have HM1 := hide (fun v W (h : RowIn W v (sigL old.data.toList size)) (k : Er e.e W) => make_right v _ size s e.e W h (by omega) (by omega) hf1 k)
  have HM2 := hide (fun v W (h : RowIn W v (sigL old.data.toList size)) (k : Er e.e W) => make_right v _ size old e.e W h (by omega) (by omega) hf1 k)
  have hall := dmake_all (sigL old.data.toList size) size s.data.toList
  rw [lenL] at hall
  obtain ⟨hc1, hc2, hg⟩ := hall
  have hri := good_right hg (by omega) (by omega)
  have hall2 := dmake_all (sigL old.data.toList size) size old.data.toList
  rw [lenL] at hall2
  obtain ⟨hd1, hd2, _⟩ := hall2
  generalize dmake (sigL old.data.toList size) size s.data.toList = D at *
  generalize dmake (sigL old.data.toList size) size old.data.toList = O at *
  have hel : (Go.Delta.encD D).length ≤ 20000 := by
    have a1 := Go.Delta.encOs_length D
    have a2 := Go.Num.enc_length_le D.length
    rw [Go.Delta.encD, List.length_append]
    omega
  have hshD : Short D := fun o hx => by have := mem_cost hx; omega
  have hshO : Short O := fun o hx => by have := mem_cost hx; omega
  have HK := hide (fun u W (h : ORow W u D) (k : OEr e W) => ocheck_ok u D e W h (by omega) hshD k)
  rw [Go.Delta.faultO_of hri] at HK
  have HC := hide (fun u W (h : ORow W u D) => cost_ok u D W h (by omega) hshD)
  have HC2 := hide (fun u W (h : ORow W u O) => cost_ok u O W h (by omega) hshO)
  have HT := hide (fun u W (h : ORow W u D) (k : OEr e W) => otext_ok u D e W h (by omega) hri hshD (by omega) hel k)
  have HR := hide (fun W (k : OEr e W) => oRead_ok e (str (Go.Delta.encD D)) W (by rw [str_len]; omega) k)
  rw [strL, Go.Delta.rdD_enc D hri (by omega) hel] at HR
  have HSm := hide (fun u u' W (h : ORow W u D) (h' : ORow W u' D) => sameOps_ok u u' D W h h' (by omega))
  have hcn : decide ((s.size : Int) < (Go.Delta.cost D : Int)) = false := by simp; omega
  have hO0 : Go.Delta.cost O = 0 := by omega
  rw [hO0] at HC2
  generalize str (Go.Delta.encD D) = T at *
  generalize Go.Delta.cost D = C at *
  generalize sigL old.data.toList size = L at *
  clear he hf1 hri hg hcost hO0 hd1 hel hshD hshO
  go_enter Tryd.func4, Tryd.ntmps4
  go_wp2_with fail
  refine HS.out.mono ?_
  rintro r w1 ⟨rfl, hb1⟩
  have Hb1 := hide hb1
  clear hb1 HS
  go_wp2_with fail
  refine (HO.out _).mono ?_
  rintro r w2 ⟨v, rfl, hown2, hb2⟩
  have Hb2 := hide (bthen Hb1.out hb2)
  have Hr2 := hide (RowIn.of_own hown2)
  obtain ⟨a, c, rfl⟩ := own_sliceB hown2
  clear hb2 HO hown2 Hb1
  go_wp2_with fail
  refine (HM1.out _ _ Hr2.out (HE.out.er.below Hb2.out)).mono ?_
  rintro r w3 ⟨⟨u, rfl, hown3⟩, hb3⟩
  have Hb3 := hide (bthen Hb2.out hb3)
  have Hr3 := hide (Hr2.out.below hb3)
  have Hu3 := hide (ORow.of_own hown3)
  obtain ⟨a3, c3, rfl⟩ := own_sliceB hown3
  clear hb3 HM1 hown3 Hb2 Hr2
  go_wp2_with fail
  refine (HK.out _ _ Hu3.out (HE.out.below Hb3.out)).mono ?_
  rintro r w4 ⟨hr4, hb4⟩
  rw [OCheckRes, if_pos rfl] at hr4
  subst hr4
  have Hb4 := hide (bthen Hb3.out hb4)
  have Hr4 := hide (Hr3.out.below hb4)
  have Hu4 := hide (Hu3.out.below hb4)
  clear hb4 HK Hb3 Hr3 Hu3
  go_wp2_with fail
  refine (HC.out _ _ Hu4.out).mono ?_
  rintro r w5 ⟨rfl, hb5⟩
  have Hb5 := hide (bthen Hb4.out hb5)
  have Hr5 := hide (Hr4.out.below hb5)
  have Hu5 := hide (Hu4.out.below hb5)
  clear hb5 HC Hb4 Hr4 Hu4
  go_wp2_with fail
  refine (HT.out _ _ Hu5.out (HE.out.below Hb5.out)).mono ?_
  rintro r w6 ⟨rfl, hb6⟩
  have Hb6 := hide (bthen Hb5.out hb6)
  have Hr6 := hide (Hr5.out.below hb6)
  have Hu6 := hide (Hu5.out.below hb6)
  clear hb6 HT Hb5 Hr5 Hu5
  go_wp2_with fail
  refine (HR.out _ (HE.out.below Hb6.out)).mono ?_
  rintro r w7 ⟨⟨x, rfl, hown7⟩, hb7⟩
  have Hb7 := hide (bthen Hb6.out hb7)
  have Hr7 := hide (Hr6.out.below hb7)
  have Hu7 := hide (Hu6.out.below hb7)
  have Hx7 := hide (ORow.of_own hown7)
  obtain ⟨a7, c7, rfl⟩ := own_sliceB hown7
  clear hb7 HR Hb6 Hr6 Hu6 hown7
  go_wp2_with fail
  refine (HSm.out _ _ _ Hx7.out Hu7.out).mono ?_
  rintro r w8 ⟨rfl, hb8⟩
  have Hb8 := hide (bthen Hb7.out hb8)
  have Hr8 := hide (Hr7.out.below hb8)
  clear hb8 HSm Hb7 Hr7 Hu7 Hx7
  go_wp2_with fail
  refine (HM2.out _ _ Hr8.out (HE.out.er.below Hb8.out)).mono ?_
  rintro r w9 ⟨⟨y, rfl, hown9⟩, hb9⟩
  have Hb9 := hide (bthen Hb8.out hb9)
  have Hy9 := hide (ORow.of_own hown9)
  obtain ⟨a9, c9, rfl⟩ := own_sliceB hown9
  clear hb9 HM2 hown9 Hb8 Hr8
  go_wp2_with fail
  refine (HC2.out _ _ Hy9.out).mono ?_
  rintro r w10 ⟨rfl, hb10⟩
  have Hb10 := hide (bthen Hb9.out hb10)
  clear hb10 HC2 Hb9 Hy9
  go_wp2_with fail
  go_ret
  exact ⟨rfl, Hb10.out⟩

theorem dback_walk (old s : ByteArray) (size : Int) (e : OV) (w : World) (he : OEr e w) : Calls Tryd.prog 4 #[.string old, .string s, .int .i64 size] w fun r w' => r = .returned (.bool true) ∧ Below w.heap.size w w' := by
  by_cases h : 200 < old.size ∨ 200 < s.size ∨ ¬ (1 ≤ size ∧ size ≤ 64)
  · exact dback_early old s size e w he h
  · obtain ⟨m, rfl⟩ := Int.eq_ofNat_of_zero_le (show 0 ≤ size by omega)
    exact dback_main old s m e w he (by omega) (by omega) (by omega) (by omega)
end Go.Proofs.YtcenohaadggdiacDoor
