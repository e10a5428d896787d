/-
  Contract of the document's FarOf over this dump.
-/
import Derived.Test.YtogpjblikphpcaaGreatDoorBasisAll
import Derived.Test.YtogpjblikphpcaaGreatDoorRefSumOf
import Derived.Test.YtogpjblikphpcaaGreatDoorSameB
import Derived.Deep.QuietTactic
import Derived.BigQuiet
import Derived.WalkSmall
namespace Go.Proofs.YtogpjblikphpcaaGreatDoor
open Go.RowKit
open Go.Basis

/-- A slice that reads as the document's marks. -/
abbrev McRow (w : World) (v : Value) (l : List Mk) : Prop := Row3 (fun m : Mk => .string m.name) (fun m => .int .i64 m.n) (fun m => .int .i64 m.c) w v l
def hitM (nm data : ByteArray) (n : Nat) (m : Mk) : Bool := decide (m.name = nm) && (decide (m.n = n) && decide (sumTo data n = m.c))
theorem hasM_hit (l : List Mk) (nm data : ByteArray) (n : Nat) : hasM l nm data n = l.any (hitM nm data n) := rfl
theorem any_take {l : List Mk} {p : Mk → Bool} {i : Nat} (hi : i < l.length) : (l.take (i + 1)).any p = ((l.take i).any p || p l[i]) := by
  rw [List.take_succ_eq_append_getElem hi, List.any_append]
  simp
theorem any_hit {l : List Mk} {p : Mk → Bool} {i : Nat} (hi : i < l.length) (h : p l[i] = true) : l.any p = true := List.any_eq_true.2 ⟨_, List.getElem_mem hi, h⟩

set_option maxHeartbeats 2000000 in
set_option maxRecDepth 100000 in
theorem rfarOf_ok (v : Value) (l : List Mk) (nm data : ByteArray) (W : World) (hl : l.length ≤ 1000000) (hd : data.size ≤ 1000000) (hA : McRow W v l) :
    Calls Tryz.prog 32 #[v, .string nm, .string data] W fun r w' => r = .returned (.int .i64 (farL l nm data : Nat)) ∧ Below W.heap.size W w' := by
  have HA := hide (fun w' (k : Below W.heap.size W w') => hA.below k)
  obtain ⟨va, vc, rfl, -⟩ := hA
  have HSu := hide (fun n w' => sumOf_ok (data.extract 0 n) w' (by rw [← lenL, extractL, List.length_take, List.length_drop, lenL]; omega))
  have hsum : Hid (∀ n, ((Go.Crc.crc 0 (data.extract 0 n).data.toList : Nat) : Int) = sumTo data n) := fun n => by
    unfold sumTo
    rw [extractL]
    simp
  have hl' : (l.length : Int) ≤ 1000000 := by omega
  have hd' : (data.size : Int) ≤ 1000000 := by omega
  have HF : Hid (farL l nm data = farF l nm data data.size) := rfl
  generalize farL l nm data = F at *
  go_enter Tryz.func32, Tryz.ntmps32
  go_wp2_with fail
  go_loopw [7] (fun t7 wr => ∃ n : Nat, t7 = .int .i64 n ∧ n ≤ data.size ∧ Hid (F = farF l nm data n) ∧ Hid (Below W.heap.size W wr)) (fun t7 _ => (intOf t7).toNat)
  case atStart => exact ⟨data.size, rfl, Nat.le_refl _, HF.out, Below.refl _ _⟩
  case round =>
    clear HF
    obtain ⟨n, rfl, hn, HF, Hb⟩ := hrel
    cases n with
    | zero =>
      have hF : F = 0 := HF.out
      subst hF
      clear HSu HA HF
      go_wp2_with fail
      go_ret
      exact ⟨rfl, Hb.out⟩
    | succ k =>
      generalize hk : k + 1 = n at *
      have hn0 : (0 : Int) < n := by omega
      have hn1 : (n : Int) ≤ data.size := by omega
      have HK := hide hk
      clear hk
      go_wp2_with fail
      go_loopw [8] (fun t8 wr2 => ∃ i : Nat, t8 = .int .i64 i ∧ i ≤ l.length ∧ Hid ((l.take i).any (hitM nm data n) = false) ∧ Hid (Below W.heap.size W wr2)) (fun t8 _ => l.length - (intOf t8).toNat)
      case atStart => exact ⟨0, rfl, Nat.zero_le _, rfl, Hb.out⟩
      case round =>
        clear Hb
        obtain ⟨i, rfl, hi, Hi, Hb⟩ := hrel
        by_cases hil : i < l.length
        · have hil' : (i : Int) < l.length := by omega
          obtain ⟨a0, c0, hv, hrow⟩ := HA.out _ Hb.out
          cases hv
          obtain ⟨b, o, rfl, hcell⟩ := hrow (by omega)
          obtain ⟨m0, m1, m2⟩ := hcell i hil
          have Hstep := hide (any_take (p := hitM nm data n) hil)
          have Hhit := hide (any_hit (p := hitM nm data n) hil)
          generalize l[i] = m at *
          obtain ⟨mn, mk, mc⟩ := m
          simp only at m0 m1 m2
          have Hp : Hid (hitM nm data n ⟨mn, mk, mc⟩ = (decide (mn = nm) && (decide (mk = (n : Int)) && decide (sumTo data n = mc)))) := rfl
          clear hcell hrow
          by_cases hnm : mn = nm
          · have hb1 := same_bytes hnm
            by_cases hmk : mk = (n : Int)
            · have hmk' : (mk == (n : Int)) = true := by simp [hmk]
              have HS := hide (HSu.out n)
              rw [hsum.out] at HS
              by_cases hc : sumTo data n = mc
              · have hp : hitM nm data n ⟨mn, mk, mc⟩ = true := by rw [Hp.out]; simp [hnm, hmk, hc]
                have hF : F = n := by
                  have h1 := HF.out
                  have h2 := Hhit.out hp
                  rw [← HK.out, farF, hasM_hit, HK.out, h2, if_pos rfl] at h1
                  exact h1
                have hc' : (sumTo data n == mc) = true := by simp [hc]
                subst hF
                clear HF Hi Hstep Hhit Hp hp hnm hsum HSu HA
                generalize sumTo data F = sm at *
                go_wp2_with fail
                go_quiet ((go_at_call 30; exact Calls.quiet_of_same (HS.out _)))
                go_wp2_with fail
                go_ret
                exact ⟨rfl, by have h := Hb.out; first | exact h | exact h.drew | exact h.trans ((below_drewN (Below.refl _ _) _).mono h.size)⟩
              · have hp : hitM nm data n ⟨mn, mk, mc⟩ = false := by rw [Hp.out]; simp [hc]
                have Hi2 := hide (Hstep.out.trans (by rw [Hi.out, hp]))
                have hc' : (sumTo data n == mc) = false := by simp [hc]
                clear Hi Hstep Hhit Hp hp hnm hsum HSu HA
                generalize sumTo data n = sm at *
                go_wp2_with fail
                go_quiet ((go_at_call 30; exact Calls.quiet_of_same (HS.out _)))
                go_wp2_with fail
                go_roundw
                case rel => exact ⟨i + 1, by go_num, by omega, Hi2.out, by have h := Hb.out; first | exact h | exact h.drew | exact h.trans ((below_drewN (Below.refl _ _) _).mono h.size)⟩
                case measure => simp [intOf]; omega
            · have hp : hitM nm data n ⟨mn, mk, mc⟩ = false := by rw [Hp.out]; simp [hmk]
              have Hi2 := hide (Hstep.out.trans (by rw [Hi.out, hp]))
              have hmk' : (mk == (n : Int)) = false := by simp [hmk]
              clear Hi Hstep Hhit Hp hp hnm hsum HSu HA
              go_wp2_with fail
              go_roundw
              case rel => exact ⟨i + 1, by go_num, by omega, Hi2.out, Hb.out⟩
              case measure => simp [intOf]; omega
          · have hp : hitM nm data n ⟨mn, mk, mc⟩ = false := by rw [Hp.out]; simp [hnm]
            have Hi2 := hide (Hstep.out.trans (by rw [Hi.out, hp]))
            have hb1 := other_bytes hnm
            clear Hi Hstep Hhit Hp hp hnm hsum HSu HA
            go_wp2_with fail
            go_roundw
            case rel => exact ⟨i + 1, by go_num, by omega, Hi2.out, Hb.out⟩
            case measure => simp [intOf]; omega
        · have hil' : (l.length : Int) ≤ i := by omega
          have hF : F = farF l nm data k := by
            have h1 := HF.out
            have h2 := Hi.out
            rw [List.take_of_length_le (by omega)] at h2
            rw [← HK.out, farF, hasM_hit, HK.out, h2] at h1
            exact h1
          have HF2 := hide hF
          have hw : IntKind.i64.wrap ((n : Int) - 1) = ((k : Nat) : Int) := by rw [iwrap_id _ (by omega) (by omega)]; have := HK.out; omega
          have hk2 : (n : Int) - 1 = ((k : Nat) : Int) := by have := HK.out; omega
          clear HF Hi hsum HSu hF HA
          go_wp2_with fail
          go_roundw
          case rel => exact ⟨k, by first | rfl | go_num | (rw [hk2]), by have := HK.out; omega, HF2.out, Hb.out⟩
          case measure => have := HK.out; simp [intOf]; omega
end Go.Proofs.YtogpjblikphpcaaGreatDoor
