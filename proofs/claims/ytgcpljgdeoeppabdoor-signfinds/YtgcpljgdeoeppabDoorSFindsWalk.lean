/-
  The walk of the law SignFinds over the contracts.
-/
import Derived.Test.YtgcpljgdeoeppabDoorSigned
import Derived.Test.YtgcpljgdeoeppabDoorSigMath
import Derived.Test.YtgcpljgdeoeppabDoorSignText
import Derived.Test.YtgcpljgdeoeppabDoorRead
import Derived.Test.YtgcpljgdeoeppabDoorSame
namespace Go.Proofs.YtgcpljgdeoeppabDoor
open Go.RowKit
open Go.Sign (Blk)

set_option maxHeartbeats 1000000 in
set_option maxRecDepth 100000 in
theorem sfinds_early (s : ByteArray) (size : Int) (e : EV) (w : World) (he : Er e w) (h : 600 < s.size ∨ ¬ (1 ≤ size ∧ size ≤ 64)) : Calls Tryd.prog 7 #[.string s, .int .i64 size] w fun r w' => r = .returned (.bool true) ∧ Below w.heap.size w w' := by
  have HS := hide (fun W => signed_ok W)
  have HE := hide he
  by_cases hl : 600 < s.size
  · have hl' : decide ((600 : Int) < s.size) = true := by simp; omega
    clear h he
    go_enter Tryd.func7, Tryd.ntmps7
    go_wp2_with fail
    refine (HS.out _).mono ?_
    rintro r w1 ⟨rfl, hb1⟩
    have Hb1 := hide hb1
    clear hb1
    go_wp2
    go_ret
    exact ⟨rfl, Hb1.out⟩
  · have hl' : decide ((600 : Int) < s.size) = false := by simp; omega
    have HO := hide (fun W (x : Er e W) => of_err s size e.tB e.xB W (Or.inr (h.resolve_left hl)) x.bound)
    clear h he
    go_enter Tryd.func7, Tryd.ntmps7
    go_wp2_with fail
    refine (HS.out _).mono ?_
    rintro r w1 ⟨rfl, hb1⟩
    have Hb1 := hide hb1
    have HE1 := hide (HE.out.below hb1)
    clear hb1 HE
    go_wp2_with fail
    refine (HO.out _ HE1.out).mono ?_
    rintro r w2 ⟨rfl, hb2⟩
    have Hb2 := hide (bthen Hb1.out hb2)
    clear hb2 HE1
    go_wp2
    go_ret
    exact ⟨rfl, Hb2.out⟩

theorem at_step {len size i n : Nat} (h1 : 1 ≤ size) (hi : i < many len size) (hn : n = min size (len - i * size)) : min (i * size) len + n = min ((i + 1) * size) len := by
  have := many_lt h1 hi
  rw [Nat.succ_mul]
  omega

set_option maxHeartbeats 2000000 in
set_option maxRecDepth 100000 in
theorem sfinds_main (s : ByteArray) (size : Nat) (e : EV) (w : World) (he : Er e w) (hs : s.size ≤ 600) (h1 : 1 ≤ size) (h2 : size ≤ 64) : Calls Tryd.prog 7 #[.string s, .int .i64 size] w fun r w' => r = .returned (.bool true) ∧ Below w.heap.size w w' := by
  have HS := hide (fun W => signed_ok W)
  have HE := hide he
  have hl' : decide ((600 : Int) < s.size) = false := by simp; omega
  have hs' : (s.size : Int) ≤ 600 := by omega
  have h1' : (1 : Int) ≤ size := by omega
  have h2' : (size : Int) ≤ 64 := by omega
  have HO := hide (fun W => of_ok s size W (by omega) h1 h2)
  have hlen : (sigL s.data.toList size).length = many s.size size := by rw [sigL_length, lenL]
  have hml : many s.size size ≤ 600 := Nat.le_trans (many_le h1) hs
  have hml' : ((many s.size size : Nat) : Int) ≤ 600 := by omega
  have hfz := fault_sig s.data.toList size h1 h2 (by rw [lenL]; omega)
  have hsg := sigL_strong s.data.toList size
  have HCk := hide (fun v W (a : RowIn W v (sigL s.data.toList size)) (b : Er e W) => check_ok v _ size e W a (by omega) b)
  have HTx := hide (fun v W (a : RowIn W v (sigL s.data.toList size)) (b : Er e W) => stext_ok v _ size e W a (by omega) hsg b)
  have hto : stextOut (sigL s.data.toList size) size = str (Go.Sign.encS (sigL s.data.toList size) size) := by rw [stextOut, hfz, if_pos rfl]; rfl
  have hrd : Go.Sign.rdS (Go.Sign.encS (sigL s.data.toList size) size) = .ok (sigL s.data.toList size, size) := Go.Sign.rdS_enc _ _ (by rw [hfz]) hsg
  have hel : (str (Go.Sign.encS (sigL s.data.toList size) size)).size ≤ 100000 := by
    rw [str_len]
    unfold Go.Sign.encS
    have := Go.Sign.encBs_length (sigL s.data.toList size)
    have := Go.Num.enc_length_le size
    have := Go.Num.enc_length_le (sigL s.data.toList size).length
    simp only [List.length_append]
    omega
  have HRd := hide (fun W (b : Er e W) => sread_ok e (str (Go.Sign.encS (sigL s.data.toList size) size)) W hel b)
  rw [strL, hrd] at HRd
  rw [hto, hfz] at HTx
  rw [hfz] at HCk
  have HSm := hide (fun u v W (a : RowIn W u (sigL s.data.toList size)) (b : RowIn W v (sigL s.data.toList size)) => same_ok u v _ W a b (by omega))
  generalize hE : str (Go.Sign.encS (sigL s.data.toList size) size) = E at *
  have HFd : Hid (∀ v W i (hi : i < (sigL s.data.toList size).length) x y, x = min (i * size) s.size → y = min ((i + 1) * size) s.size → RowIn W v (sigL s.data.toList size) → Calls Tryd.prog 30 #[v, .string (s.extract x y)] W fun r w' => r = .returned (.int .i64 (findOut (sigL s.data.toList size) (sigL s.data.toList size)[i])) ∧ Below W.heap.size W w') := by
    intro v W i hi x y hx hy hv
    have hm := hi
    rw [hlen] at hm
    have hlt := many_lt h1 hm
    have hxx : (s.extract x y).data.toList = (s.data.toList.drop (i * size)).take size := by
      rw [extractL]
      have ex : x = i * size := by omega
      subst ex
      rw [Nat.succ_mul] at hy
      rcases Nat.le_total (i * size + size) s.size with h | h
      · rw [show y - i * size = size by omega]
      · rw [List.take_of_length_le (by rw [List.length_drop, lenL]; omega), List.take_of_length_le (by rw [List.length_drop, lenL]; omega)]
    have := find_ok v (sigL s.data.toList size) (s.extract x y) W hv (by omega) (by rw [ByteArray.size_extract]; omega)
    rw [hxx] at this
    rw [sigL_get]
    exact this
  have HN : Hid (∀ i (hi : i < (sigL s.data.toList size).length), (sigL s.data.toList size)[i].n = ((min size (s.size - i * size) : Nat) : Int)) := fun i hi => by rw [sigL_n, lenL]
  have HFs := hide (fun i hi => find_sig (sigL s.data.toList size) i hi)
  have HST := hide (fun i (hi : i < many s.size size) => at_step (n := min size (s.size - i * size)) h1 hi rfl)
  have HGE := hide (many_ge (len := s.size) h1)
  generalize sigL s.data.toList size = L at *
  generalize many s.size size = m at *
  clear he hto hrd hel hfz hsg hE
  go_enter Tryd.func7, Tryd.ntmps7
  go_wp2_with fail
  refine (HS.out _).mono ?_
  rintro r w1 ⟨rfl, hb1⟩
  have Hb1 := hide hb1
  have HE1 := hide (HE.out.below hb1)
  clear hb1 HE HS
  go_wp2_with fail
  refine (HO.out _).mono ?_
  rintro r w2 ⟨v, rfl, hown, hb2⟩
  have hr := RowIn.of_own hown
  have Hb2 := hide (bthen Hb1.out hb2)
  have HE2 := hide (HE1.out.below hb2)
  have Hr := hide hr
  obtain ⟨a, c, rfl, _⟩ := hr
  rw [hlen] at Hr ⊢
  have HL := hide hlen
  clear hlen
  clear hown hb2 HE1 Hb1 HO
  go_wp2_with fail
  refine (HCk.out _ _ Hr.out HE2.out).mono ?_
  rintro r w3 ⟨hr3, hb3⟩
  rw [CheckRes, if_pos (Or.inl rfl)] at hr3
  have hr4 : r = .returned .nilIface := hr3
  subst hr4
  have Hb3 := hide (bthen Hb2.out hb3)
  have HE3 := hide (HE2.out.below hb3)
  have Hr3 := hide (Hr.out.below hb3)
  clear hb3 HE2 Hb2 HCk Hr hr3
  go_wp2_with fail
  go_loopw [8, 9] (fun t8 t9 wr => ∃ (i x : Nat), t9 = .int .i64 i ∧ t8 = .int .i64 x ∧ i ≤ m ∧ x ≤ s.size ∧ Hid (x = min (i * size) s.size) ∧ Hid (RowIn wr (.slice a m c) L) ∧ Hid (Er e wr) ∧ Hid (Below w.heap.size w wr)) (fun _ t9 _ => m - (intOf t9).toNat)
  case atStart => exact ⟨0, 0, rfl, rfl, by omega, by omega, by simp [Hid], Hr3.out, HE3.out, Hb3.out⟩
  case round =>
    clear Hr3 HE3 Hb3
    obtain ⟨i, x, rfl, rfl, hi, hx, Hx, Hr, HE, Hb⟩ := hrel
    by_cases hlt : i < m
    · have hlt' : (i : Int) < m := by omega
      have hiL : i < L.length := by have := HL.out; omega
      obtain ⟨a', c', ev, hc⟩ := Hr.out
      obtain ⟨g, o, ea, hd⟩ := hc (by omega)
      have c0 := (hd i hiL).1
      have ea' : a = a' := by simp at ev; exact ev.1
      subst ea'
      subst ea
      rw [HN.out i hiL] at c0
      have hst := HST.out i hlt
      rw [← Hx.out] at hst
      generalize hn : min size (s.size - i * size) = n at *
      have hxn : x + n ≤ s.size := by omega
      have hxn' : (x : Int) + (n : Int) ≤ s.size := by omega
      have hx' : (x : Int) ≤ s.size := by omega
      have HF := hide (fun y (hy : y = x + n) => HFd.out (.slice (some ⟨g, o, none⟩) m c) wr i hiL x y Hx.out (by omega) Hr.out)
      have HFi := HFs.out i hiL
      generalize findOut L L[i] = z at *
      have z0 : decide (z < 0) = false := by simp; omega
      have z1 : decide ((i : Int) < z) = false := by simp; omega
      have Hst := hide hst
      clear ev hn hst HFi hc hd
      go_wp2_with fail
      refine (HF.out _ (by omega)).mono ?_
      rintro r w4 ⟨rfl, hb4⟩
      have d0 := (hb4.cell (World.block_lt_of_cell? _ _ c0)).trans c0
      have Hb4 := hide (bthen Hb.out hb4)
      have Hr4 := hide (Hr.out.below hb4)
      have HE4 := hide (HE.out.below hb4)
      clear hb4 c0 HF Hr HE Hb
      go_wp2_with fail
      go_roundw
      case rel => exact ⟨i + 1, x + n, by go_num, by go_num, by omega, by omega, Hst.out, Hr4.out, HE4.out, Hb4.out⟩
      case measure => simp [intOf]; omega
    · have hle : (m : Int) ≤ (i : Int) := by omega
      have him : i = m := by omega
      subst him
      have hxe : x = s.size := by
        rw [Hx.out]
        have := HGE.out
        omega
      subst hxe
      clear HFd HFs HST HGE Hx HN
      go_wp2_with fail
      refine (HTx.out _ _ Hr.out HE.out).mono ?_
      rintro r w4 ⟨rfl, hb4⟩
      rw [show errV e ((0, (-1 : Int)) : Nat × Int).1 = .nilIface from rfl]
      have Hb4 := hide (bthen Hb.out hb4)
      have Hr4 := hide (Hr.out.below hb4)
      have HE4 := hide (HE.out.below hb4)
      clear hb4 Hr HE Hb HTx
      go_wp2_with fail
      refine (HRd.out _ HE4.out).mono ?_
      rintro r w5 ⟨⟨v5, rfl, hown5⟩, hb5⟩
      have hr5 := RowIn.of_own hown5
      have Hb5 := hide (bthen Hb4.out hb5)
      have Hr5 := hide (Hr4.out.below hb5)
      have Hx5 := hide hr5
      obtain ⟨a5, c5, rfl, _⟩ := hr5
      clear hb5 hown5 Hb4 Hr4 HE4 HRd
      go_wp2_with fail
      refine (HSm.out _ _ _ Hx5.out Hr5.out).mono ?_
      rintro r w6 ⟨rfl, hb6⟩
      have Hb6 := hide (bthen Hb5.out hb6)
      clear hb6
      go_wp2
      go_ret
      exact ⟨rfl, Hb6.out⟩

theorem sfinds_walk (s : ByteArray) (size : Int) (e : EV) (w : World) (he : Er e w) : Calls Tryd.prog 7 #[.string s, .int .i64 size] w fun r w' => r = .returned (.bool true) ∧ Below w.heap.size w w' := by
  by_cases h : 600 < s.size ∨ ¬ (1 ≤ size ∧ size ≤ 64)
  · exact sfinds_early s size e w he h
  · simp only [not_or, Classical.not_not] at h
    obtain ⟨m, rfl⟩ := Int.eq_ofNat_of_zero_le (show 0 ≤ size by omega)
    exact sfinds_main s m e w he (by omega) (by omega) (by omega)
end Go.Proofs.YtgcpljgdeoeppabDoor
