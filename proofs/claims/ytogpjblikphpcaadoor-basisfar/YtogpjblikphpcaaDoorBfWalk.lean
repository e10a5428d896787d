/-
  The walk of the law BasisFar over the contracts.
-/
import Derived.Test.YtogpjblikphpcaaDoorMkEq
import Derived.Test.YtogpjblikphpcaaDoorDivide
import Derived.Deep.RegionHeld3
import Derived.Deep.DeepCutAuto
import Derived.Deep.QuietTactic
import Derived.BigQuiet
import Derived.WalkSmall
namespace Go.Proofs.YtogpjblikphpcaaDoor
open Go.RowKit
open Go.Basis

theorem marksE_zero {nm : ByteArray} {size : Nat} {step : Int} (h : marksE nm size step = 0) : ∃ s : Nat, step = s ∧ 1 ≤ s ∧ s ≤ 4000 ∧ Go.Files.isNm nm = true := by
  unfold marksE at h
  split at h
  · cases h
  rename_i h1
  split at h
  · cases h
  rename_i h2
  refine ⟨step.toNat, by omega, by omega, by omega, ?_⟩
  cases e : Go.Files.isNm nm with
  | true => rfl
  | false => exact absurd e h1
theorem nm_small {nm : ByteArray} (h : Go.Files.isNm nm = true) : nm.size ≤ 12 := by
  unfold Go.Files.isNm at h
  simp only [Bool.and_eq_true, decide_eq_true_eq] at h
  exact h.2.2
theorem lineM_small {m : Mk} (h : markE m = 0) (h0 : 0 ≤ m.c) (h1 : m.c ≤ 4294967295) : (textM m).size ≤ 50 ∧ readM (textM m).data.toList = (0, m) := by
  have hr := read_text h h0 h1
  unfold textM
  rw [if_pos h, str_len, strL]
  refine ⟨?_, hr⟩
  unfold markE at h
  split at h
  · cases h
  rename_i hn
  split at h
  · cases h
  rename_i hb
  have hn' : Go.Files.isNm m.name = true := by cases e : Go.Files.isNm m.name with | true => rfl | false => exact absurd e hn
  have := nm_small hn'
  have l1 := digits10 (n := m.n.toNat) (by omega)
  have l2 := digits10 (n := m.c.toNat) (by omega)
  unfold lineM
  simp only [List.length_append, List.length_cons, lenL]
  omega

set_option maxHeartbeats 4000000 in
set_option maxRecDepth 100000 in
theorem bfar_main {a : Nat → Addr} {Env : World → Prop} (hB : BasisAll a Env) (nm data other : ByteArray) (s k : Nat) (w : World) (hE : Env w) (hn : nm.size ≤ 30) (hd : data.size ≤ 300) (ho : other.size ≤ 300) (hk : k ≤ data.size) (hz : marksE nm data.size s = 0) :
    Calls Tryd.prog 3 #[.string nm, .string data, .string other, .int .i64 s, .int .i64 k] w fun r w' => r = .returned (.bool true) ∧ Below w.heap.size w w' := by
  obtain ⟨_, e1, hs1, hs2, hnm⟩ := marksE_zero hz
  have e1' := Int.ofNat.inj e1
  subst e1'
  have HE := hide (fun W (q : Below w.heap.size w W) => hB.env hE q)
  have HM := hide (marked_ok hB w hE)
  have HK := hide (fun W (q : Env W) => hB.marks nm data s W (by omega) (by omega) q)
  rw [hz, if_pos rfl, Int.toNat_natCast] at HK
  simp only [errA] at HK
  have hfit := marks_fit hz
  have hnms : ∀ m ∈ marksL nm data s, m.name.size ≤ 100 := fun m hm => by
    obtain ⟨i, _, rfl⟩ := List.mem_map.1 hm
    simp only; omega
  have hll : (marksL nm data s).length ≤ 300 := by rw [marks_len]; have := Nat.div_le_self data.size s; omega
  have hne : nm ≠ nm ++ ⟨#[120]⟩ := fun e => by
    have := congrArg ByteArray.size e
    rw [ByteArray.size_append, show (ByteArray.mk #[120]).size = 1 from rfl] at this
    omega
  have hxs : (nm ++ ⟨#[120]⟩).size ≤ 100 := by rw [ByteArray.size_append, show (ByteArray.mk #[120]).size = 1 from rfl]; omega
  have HF1 := hide (fun v W (q : MkRow W v (marksL nm data s)) => hB.far v _ nm data W (by omega) (by omega) (by omega) q hnms)
  have HF2 := hide (fun v W (q : MkRow W v (marksL nm data s)) => hB.far v _ (nm ++ ⟨#[120]⟩) data W (by omega) hxs (by omega) q hnms)
  have HF3 := hide (fun W => hB.far (.slice none 0 0) [] nm data W (by simp) (by omega) (by omega) (Row3.nil W) (fun m h => by cases h))
  rw [far_own] at HF1
  rw [far_other hne] at HF2
  rw [farL_nil] at HF3
  have hmx : (data.extract 0 k ++ other).size ≤ 1000 := by
    rw [ByteArray.size_append]
    have : (data.extract 0 k).size ≤ data.size := by rw [← lenL, ← lenL data, extractL, List.length_take, List.length_drop]; omega
    omega
  have hmix := far_mixed (nm := nm) (data := data) (mixed := data.extract 0 k ++ other) (step := s) (cut := k) hk (by
    rw [ByteArray.size_append]
    have : (data.extract 0 k).size = k := by rw [← lenL, extractL, List.length_take, List.length_drop, lenL]; omega
    omega) (by
    have e : (data.extract 0 k).data.toList = data.data.toList.take k := by rw [extractL]; simp
    rw [appendL, e, List.take_append_of_le_length (by rw [List.length_take, lenL]; omega), List.take_take, Nat.min_self])
  have HF4 := hide (fun v W (q : MkRow W v (marksL nm data s)) => hB.far v _ nm (data.extract 0 k ++ other) W (by omega) (by omega) hmx q hnms)
  generalize farL (marksL nm data s) nm (data.extract 0 k ++ other) = far4 at *
  have HAt : Hid (∀ i (h : i < (marksL nm data s).length), (marksL nm data s)[i] = ⟨nm, ((s * (i + 1) : Nat) : Int), sumTo data (s * (i + 1))⟩ ∧ s * (i + 1) ≤ data.size) := fun i h => by
    refine ⟨marks_at h, ?_⟩
    rw [marks_len] at h
    have h3 := Nat.mul_le_mul_left s (show i + 1 ≤ data.size / s by omega)
    have h4 := Nat.mul_div_le data.size s
    omega
  have HFit := hide hfit
  have HTx := hide (fun m W (q : Env W) (h1 : m.name.size ≤ 100) (h2 : 0 ≤ m.c) (h3 : m.c ≤ 4294967295) => hB.text m W h1 h2 h3 q)
  have HRd := hide (fun t W (q : Env W) (h1 : t.size ≤ 1000) => hB.read t W h1 q)
  generalize marksL nm data s = l at *
  have hll' : (l.length : Int) ≤ 300 := by omega
  have hn' : (nm.size : Int) ≤ 30 := by omega
  have hd' : (data.size : Int) ≤ 300 := by omega
  have ho' : (other.size : Int) ≤ 300 := by omega
  have hk' : (k : Int) ≤ data.size := by omega
  have hk0 : (0 : Int) ≤ k := by omega
  have hs0 : ¬ (s : Int) = 0 := by omega
  have hr1 : ((data.size : Int)).tmod s = ((data.size % s : Nat) : Int) := by rw [Int.tmod_eq_emod_of_nonneg (by omega)]; omega
  have hr2 : ((k : Int)).tmod s = ((k % s : Nat) : Int) := by rw [Int.tmod_eq_emod_of_nonneg (by omega)]; omega
  have hm1 := Nat.mod_le data.size s
  have hm2 := Nat.mod_le k s
  have hw1 : IntKind.i64.wrap ((data.size : Int) - ((data.size % s : Nat) : Int)) = ((data.size - data.size % s : Nat) : Int) := by rw [iwrap_id _ (by omega) (by omega)]; omega
  have hw2 : IntKind.i64.wrap ((k : Int) - ((k % s : Nat) : Int)) = ((k - k % s : Nat) : Int) := by rw [iwrap_id _ (by omega) (by omega)]; omega
  have p1 := fun W => run_string_add_sum (P := Tryd.prog) W nm ⟨#[120]⟩ (by rw [show (ByteArray.mk #[120]).size = 1 from rfl]; omega)
  have p2 := fun W => run_string_add_sum (P := Tryd.prog) W (data.extract 0 k) other (by rw [ByteArray.size_append] at hmx; omega)
  generalize k % s = km at *
  generalize data.size % s = dm at *
  clear hfit hnms hne hxs hmx hE hz e1 hB
  go_enter Tryd.func3, Tryd.ntmps3
  go_wp2_with fail
  refine HM.out.mono ?_
  rintro r w1 ⟨rfl, hb1⟩
  have Hb1 := hide hb1
  clear hb1 HM
  go_wp2_with fail
  refine (HK.out _ (HE.out _ Hb1.out)).mono ?_
  rintro r w2 ⟨v, rfl, hv, hb2⟩
  obtain ⟨va, vc, rfl, hrow⟩ := hv
  have Hr2 : Hid (MkRow w2 (.slice va l.length vc) l) := ⟨va, vc, rfl, hrow⟩
  have Hb2 := hide (bthen Hb1.out hb2)
  clear hb2 HK hrow Hb1
  go_wp2_with fail
  refine (HF1.out _ _ Hr2.out).mono ?_
  rintro r w3 ⟨rfl, hb3⟩
  have Hr3 := hide (Hr2.out.below hb3)
  have Hb3 := hide (bthen Hb2.out hb3)
  clear hb3 HF1 Hr2 Hb2
  go_wp2_with fail
  refine (HF2.out _ _ Hr3.out).mono ?_
  rintro r w4 ⟨rfl, hb4⟩
  have Hr4 := hide (Hr3.out.below hb4)
  have Hb4 := hide (bthen Hb3.out hb4)
  clear hb4 HF2 Hr3 Hb3
  go_wp2_with fail
  refine (HF3.out _).mono ?_
  rintro r w5 ⟨rfl, hb5⟩
  have Hr5 := hide (Hr4.out.below hb5)
  have Hb5 := hide (bthen Hb4.out hb5)
  clear hb5 HF3 Hr4 Hb4
  go_upto_region 11 with fail
  have hq : ((k - km : Nat) : Int) ≤ far4 := by omega
  go_cut [102] (fun v102 wc => v102 = .bool false ∧ Hid (Below w.heap.size w wc) ∧ Hid (MkRow wc (.slice va l.length vc) l))
  case first =>
    clear HAt HFit HTx HRd HE
    go_region_with (go_at_call 6; refine (HF4.out _ _ (Hr5.out.below (by first | exact Below.refl _ _ | exact (Below.refl _ _).drew))).mono ?_; rintro r w6 ⟨rfl, hb6⟩; have Hr6 := hide ((Hr5.out.below (Below.refl _ _).drew).below hb6); have Hb6 := hide (bthen Hb5.out (bthen (Below.refl _ _).drew hb6)); clear hb6)
    all_goals
      have hq2 : ¬ (far4 : Int) < ((k - km : Nat) : Int) := by omega
      go_wp2_with fail
      go_meet
      case rel => exact ⟨by first | rfl | (simp; omega), Hb6.out, Hr6.out⟩
  case rest =>
    obtain ⟨rfl, Hb6, Hr6⟩ := hcut
    clear HF4 Hr5 Hb5 hw1 hr1 p1 p2 hq hw2 hr2
    go_wp2_with fail
    go_loopw [16] (fun t16 wr => ∃ i : Nat, t16 = .int .i64 i ∧ i ≤ l.length ∧ Hid (Below w.heap.size w wr) ∧ Hid (MkRow wr (.slice va l.length vc) l)) (fun t16 _ => l.length - (intOf t16).toNat)
    case atStart => exact ⟨0, rfl, Nat.zero_le _, Hb6.out, Hr6.out⟩
    case round =>
      clear Hb6 Hr6
      obtain ⟨i, rfl, hi, Hb, Hr⟩ := hrel
      by_cases hil : i < l.length
      · have hil' : (i : Int) < l.length := by omega
        obtain ⟨hat, hle⟩ := HAt.out i hil
        obtain ⟨hm0, hm1, hm2⟩ := HFit.out _ (List.getElem_mem hil)
        obtain ⟨htl, hrd⟩ := lineM_small hm0 hm1 hm2
        obtain ⟨a0, c0, hv, hrow⟩ := Hr.out
        cases hv
        obtain ⟨b, o, rfl, hcell⟩ := hrow (by omega)
        obtain ⟨m0, m1, m2⟩ := hcell i hil
        rw [hat] at m0 m1 m2 hm0 hm1 hm2 htl hrd
        simp only at m0 m1 m2 hm1 hm2
        have HT := hide (HTx.out _ wr (HE.out _ Hb.out) (show (Mk.mk nm ((s * (i + 1) : Nat) : Int) (sumTo data (s * (i + 1)))).name.size ≤ 100 from by simp only; omega) hm1 hm2)
        have HR := hide (fun W (q : Env W) => HRd.out (textM ⟨nm, ((s * (i + 1) : Nat) : Int), sumTo data (s * (i + 1))⟩) W q (by omega))
        rw [hm0] at HT
        rw [hrd] at HR
        simp only [errA, mkV] at HT HR
        have HSm := hide (fun W => sum_ok (data.extract 0 (s * (i + 1))) W (by rw [← lenL, extractL, List.length_take]; omega))
        have hsum : ((Go.Crc.crc 0 (data.extract 0 (s * (i + 1))).data.toList : Nat) : Int) = sumTo data (s * (i + 1)) := by
          unfold sumTo
          rw [extractL]
          simp
        rw [hsum] at HSm
        have HQ := hide (fun W => mk_neq ⟨nm, ((s * (i + 1) : Nat) : Int), sumTo data (s * (i + 1))⟩ W)
        simp only [mkV] at HQ
        generalize textM ⟨nm, ((s * (i + 1) : Nat) : Int), sumTo data (s * (i + 1))⟩ = tx at *
        generalize sumTo data (s * (i + 1)) = sm at *
        generalize s * (i + 1) = n at *
        have hn0 : (0 : Int) ≤ n := by omega
        have hn1 : (n : Int) ≤ data.size := by omega
        have HAt2 := hide hat
        clear hat hle hm0 hm1 hm2 htl hrd hcell hsum hrow HAt HFit HTx HRd
        go_wp2_with fail
        refine HT.out.mono ?_
        rintro r w7 ⟨rfl, hb7⟩
        have Hr7 := hide (Hr.out.below hb7)
        have Hb7 := hide (bthen Hb.out hb7)
        clear hb7 HT Hr Hb m0 m1 m2
        go_wp2_with fail
        refine (HR.out _ (HE.out _ Hb7.out)).mono ?_
        rintro r w8 ⟨rfl, hb8⟩
        have Hr8 := hide ((Hr7.out.below hb8).below ((Below.refl _ _).alloc (Nat.le_refl _) (.cells #[.string nm, .int .i64 n, .int .u32 sm] 33)))
        have Hb8 := hide (bthen (bthen Hb7.out hb8) ((Below.refl _ _).alloc (Nat.le_refl _) (.cells #[.string nm, .int .i64 n, .int .u32 sm] 33)))
        clear hb8 HR Hr7 Hb7
        go_upto_region 20 with fail
        have hq := HQ.out
        obtain ⟨_, _, hv, hrow⟩ := Hr8.out
        cases hv
        obtain ⟨b', o', eb, hcell⟩ := hrow (by omega)
        cases eb
        obtain ⟨m0, m1, m2⟩ := hcell i hil
        rw [HAt2.out] at m0 m1 m2
        simp only at m0 m1 m2
        have q0 := (mkRow_one (w := w8) ⟨nm, (n : Int), sm⟩ 33)
        obtain ⟨_, _, hv, hrow2⟩ := q0
        cases hv
        obtain ⟨b', o', eb, hcell2⟩ := hrow2 (by simp)
        cases eb
        obtain ⟨q0, q1, q2⟩ := hcell2 0 (by simp)
        simp only [List.getElem_cons_zero, Nat.zero_mul, Nat.add_zero, Nat.zero_add] at q0 q1 q2
        clear hrow hrow2 hcell hcell2
        go_quiet ((go_at_call 9; exact Calls.quiet_of_same (HSm.out _)))
        go_wp2_with fail
        go_roundw
        case rel => exact ⟨i + 1, by go_num, by omega, by have := Hb8.out; exact bthen this (below_drewN (Below.refl _ _) _), Hr8.out.below (below_drewN (Below.refl _ _) _)⟩
        case measure => simp [intOf]; omega
      · have hil' : (l.length : Int) ≤ i := by omega
        clear HAt HFit HTx HRd HE Hr
        go_wp2_with fail
        go_ret
        exact ⟨rfl, Hb.out⟩

set_option maxHeartbeats 1000000 in
set_option maxRecDepth 100000 in
theorem bfar_early {a : Nat → Addr} {Env : World → Prop} (hB : BasisAll a Env) (nm data other : ByteArray) (step cut : Int) (w : World) (hE : Env w)
    (h : (300 : Int) < data.size ∨ ((data.size : Int) ≤ 300 ∧ (300 : Int) < other.size) ∨ ((data.size : Int) ≤ 300 ∧ (other.size : Int) ≤ 300 ∧ (30 : Int) < nm.size) ∨
      ((data.size : Int) ≤ 300 ∧ (other.size : Int) ≤ 300 ∧ (nm.size : Int) ≤ 30 ∧ cut < 0) ∨ ((data.size : Int) ≤ 300 ∧ (other.size : Int) ≤ 300 ∧ (nm.size : Int) ≤ 30 ∧ 0 ≤ cut ∧ (data.size : Int) < cut)) :
    Calls Tryd.prog 3 #[.string nm, .string data, .string other, .int .i64 step, .int .i64 cut] w fun r w' => r = .returned (.bool true) ∧ Below w.heap.size w w' := by
  have HM := hide (marked_ok hB w hE)
  clear hE hB
  rcases h with h1 | ⟨h1, h2⟩ | ⟨h1, h2, h3⟩ | ⟨h1, h2, h3, h4⟩ | ⟨h1, h2, h3, h4, h5⟩
  all_goals
    go_enter Tryd.func3, Tryd.ntmps3
    go_wp2_with fail
    refine HM.out.mono ?_
    rintro r w1 ⟨rfl, hb1⟩
    have Hb1 := hide hb1
    clear hb1 HM
    go_wp2_with fail
    go_ret
    exact ⟨rfl, Hb1.out⟩

set_option maxHeartbeats 1000000 in
set_option maxRecDepth 100000 in
theorem bfar_err {a : Nat → Addr} {Env : World → Prop} (hB : BasisAll a Env) (nm data other : ByteArray) (step : Int) (k : Nat) (w : World) (hE : Env w) (hn : nm.size ≤ 30) (hd : data.size ≤ 300) (ho : other.size ≤ 300) (hk : k ≤ data.size) (hz : marksE nm data.size step ≠ 0) :
    Calls Tryd.prog 3 #[.string nm, .string data, .string other, .int .i64 step, .int .i64 k] w fun r w' => r = .returned (.bool true) ∧ Below w.heap.size w w' := by
  have HE := hide (fun W (q : Below w.heap.size w W) => hB.env hE q)
  have HM := hide (marked_ok hB w hE)
  have HK := hide (fun W (q : Env W) => hB.marks nm data step W (by omega) (by omega) q)
  obtain ⟨e, he⟩ : ∃ e, marksE nm data.size step = e + 1 := ⟨marksE nm data.size step - 1, by omega⟩
  rw [if_neg hz, he] at HK
  simp only [errA] at HK
  have hn' : (nm.size : Int) ≤ 30 := by omega
  have hd' : (data.size : Int) ≤ 300 := by omega
  have ho' : (other.size : Int) ≤ 300 := by omega
  have hk' : (k : Int) ≤ data.size := by omega
  have hk0 : (0 : Int) ≤ k := by omega
  clear hE hB hz he
  go_enter Tryd.func3, Tryd.ntmps3
  go_wp2_with fail
  refine HM.out.mono ?_
  rintro r w1 ⟨rfl, hb1⟩
  have Hb1 := hide hb1
  clear hb1 HM
  go_wp2_with fail
  refine (HK.out _ (HE.out _ Hb1.out)).mono ?_
  rintro r w2 ⟨v, rfl, hv, hb2⟩
  obtain ⟨va, vc, rfl, hrow⟩ := hv
  have Hb2 := hide (bthen Hb1.out hb2)
  clear hb2 HK hrow Hb1
  simp only [List.length_nil]
  go_wp2_with fail
  go_ret
  exact ⟨rfl, Hb2.out⟩
/-- BasisFar, whole. -/
theorem bfar_walk {a : Nat → Addr} {Env : World → Prop} (hB : BasisAll a Env) (nm data other : ByteArray) (step cut : Int) (w : World) (hE : Env w) :
    Calls Tryd.prog 3 #[.string nm, .string data, .string other, .int .i64 step, .int .i64 cut] w fun r w' => r = .returned (.bool true) ∧ Below w.heap.size w w' := by
  by_cases h : data.size ≤ 300 ∧ other.size ≤ 300 ∧ nm.size ≤ 30 ∧ 0 ≤ cut ∧ cut ≤ data.size
  · obtain ⟨h1, h2, h3, h4, h5⟩ := h
    obtain ⟨k, rfl⟩ := Int.eq_ofNat_of_zero_le h4
    by_cases hz : marksE nm data.size step = 0
    · obtain ⟨s, rfl, _⟩ := marksE_zero hz
      exact bfar_main hB nm data other s k w hE h3 h1 h2 (by omega) hz
    · exact bfar_err hB nm data other step k w hE h3 h1 h2 (by omega) hz
  · exact bfar_early hB nm data other step cut w hE (by omega)
end Go.Proofs.YtogpjblikphpcaaDoor
