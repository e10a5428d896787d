/-
  The walk of the law WindowOnce over the contracts.
-/
import Derived.Test.YtaambclpkghddaaDoorWinOk
import Derived.Test.YtaambclpkghddaaDoorWindowPlay
import Derived.Test.YtaambclpkghddaaDoorRows23
import Derived.Maps.AppendAt
import Derived.Laws.AppendOwnNone
namespace Go.Proofs.YtaambclpkghddaaDoor
open Go.RowKit
open Go.Window (Sn Rc snNew rcNew startN kepts Play Got)

theorem Tryd.infoK : (Tryd.prog.info? 35).map (fun i => (i.zero, i.size, i.bytes)) = some (some (.agg #[.int .i64 0, .string ⟨#[]⟩]), 2, 24) := by kernel_rfl
theorem Tryd.infoS : (Tryd.prog.info? 9).map (fun i => (i.zero, i.size, i.bytes)) = some (some (.string ⟨#[]⟩), 1, 16) := by kernel_rfl
theorem cs2_take {α : Type} (f g : α → Value) : ∀ (l : List α) (k : Nat), (cs2 f g l).take (k * 2) = cs2 f g (l.take k)
  | _, 0 => by simp [cs2]
  | [], k + 1 => by simp [cs2]
  | x :: l, k + 1 => by
    have e : cs2 f g (x :: l) = f x :: g x :: cs2 f g l := by simp [cs2]
    rw [e, show (k + 1) * 2 = k * 2 + 1 + 1 by omega, List.take_succ_cons, List.take_succ_cons, cs2_take f g l k, List.take_succ_cons]
    simp [cs2]
theorem cs2_drop {α : Type} (f g : α → Value) : ∀ (l : List α) (k : Nat), (cs2 f g l).drop (k * 2) = cs2 f g (l.drop k)
  | _, 0 => by simp
  | [], k + 1 => by simp [cs2]
  | x :: l, k + 1 => by
    have e : cs2 f g (x :: l) = f x :: g x :: cs2 f g l := by simp [cs2]
    rw [e, show (k + 1) * 2 = k * 2 + 1 + 1 by omega, List.drop_succ_cons, List.drop_succ_cons, cs2_drop f g l k, List.drop_succ_cons]
theorem news_takeN {w : World} {base size n c g : Nat} {e : TypeId} {xs : List Value} (h : w.ownsRow base e size (.slice (some ⟨g, 0, none⟩) n c) n xs) (k : Nat) : ∀ j u, (xs.take k)[j]? = some u → w.cell? ((⟨g, 0, none⟩ : Addr).add j) = some u := by
  intro j u hu
  rw [List.getElem?_take] at hu
  split at hu
  · exact h.cells (g := g) rfl j u hu
  · cases hu
theorem news_dropN {w : World} {base size n c g : Nat} {e : TypeId} {xs : List Value} (h : w.ownsRow base e size (.slice (some ⟨g, 0, none⟩) n c) n xs) (k : Nat) : ∀ j u, (xs.drop k)[j]? = some u → w.cell? ((⟨g, k, none⟩ : Addr).add j) = some u := by
  intro j u hu
  rw [List.getElem?_drop] at hu
  have := h.cells (g := g) rfl (k + j) u hu
  rw [Go.WideShapes.add_plain] at this ⊢
  simpa using this
theorem Row1.cut {α : Type} {f : α → Value} {w : World} {a : Option Addr} {c : Nat} {l : List α} (h : Row1 f w (.slice a l.length c) l) (k : Nat) (hk : k ≤ l.length) : Row1 f w (.slice a k c) (l.take k) := by
  obtain ⟨a', c', e, h⟩ := h
  cases e
  refine ⟨a, c, by rw [List.length_take, Nat.min_eq_left hk], fun hp => ?_⟩
  rw [List.length_take] at hp
  obtain ⟨b, o, rfl, hc⟩ := h (by omega)
  refine ⟨b, o, rfl, fun j hj => ?_⟩
  rw [List.length_take] at hj
  rw [List.getElem_take]
  exact hc j (by omega)
theorem more_wf (r : Rc) : ∀ x ∈ r.more.map Int.ofNat, WfI x := by
  intro x hx
  obtain ⟨n, hn, rfl⟩ := List.mem_map.1 hx
  have := Go.Window.more_lt r n hn
  exact ⟨by simp only [Int.ofNat_eq_natCast]; omega, by simp only [Int.ofNat_eq_natCast]; omega⟩
/-- A frame of the net, by its place. -/
def netN (F : Nat) (i : Nat) : Value := .int .i64 (((F + i) % 65536 : Nat) : Int)
def netS (T : List ByteArray) (i : Nat) : Value := .string (T.getD i ⟨#[]⟩)
theorem net_one (F : Nat) (T : List ByteArray) (l : List Nat) : ∀ u ∈ cs2 (netN F) (netS T) l, u.oneCell' = true := by
  intro u hu
  unfold cs2 at hu
  rw [List.mem_flatMap] at hu
  obtain ⟨x, _, hx⟩ := hu
  simp only [List.mem_cons, List.not_mem_nil, or_false] at hx
  rcases hx with rfl | rfl <;> rfl

set_option maxHeartbeats 1000000 in
set_option maxRecDepth 100000 in
theorem wonce_main (Env : World → Prop) (S : Value → Sn → Fam) (R : Value → Rc → Fam) (errW : Nat → Value) (h : WinOk Env S R errW) (first : Int) (ta pa : Option Addr) (tc pc : Nat) (T : List ByteArray) (P : List Int) (w : World) (hE : Env w)
    (hT : Row1 strV w (.slice ta T.length tc) T) (hP : Row1 intV w (.slice pa P.length pc) P) (hl : T.length ≤ 30) (hp : P.length ≤ 300) (htc : T.length ≤ tc) (hPw : ∀ x ∈ P, WfI x) :
    Calls Tryd.prog 3 #[.int .i64 first, .slice ta T.length tc, .slice pa P.length pc] w fun e w' => e = .returned (.bool true) ∧ Below w.heap.size w w' := by
  obtain ⟨i0, hi, hz0, hz1, hz2⟩ := info_parts Tryd.infoK
  obtain ⟨j0, hj, ky0, ky1, ky2⟩ := info_parts Tryd.infoS
  have HE := hide (fun W (k : Below w.heap.size w W) => h.env w W hE k)
  have HT := hide (fun W (k : Below w.heap.size w W) => hT.below k)
  have HPl := hide (fun W (k : Below w.heap.size w W) => hP.below k)
  have HM := hide (windowed_ok Env S R errW h w hE)
  have H1 := hide (fun W (k : Env W) => h.newS first W k)
  have H2 := hide (fun W (k : Env W) => h.newR first W k)
  have hl' : (T.length : Int) ≤ 30 := by omega
  have hp' : (P.length : Int) ≤ 300 := by omega
  have Hw := hide h
  have HPw := hide hPw
  have htc' : (T.length : Int) ≤ tc := by omega
  clear hE hT hP h hPw
  go_enter Tryd.func3, Tryd.ntmps3
  go_wp2_with fail
  refine HM.out.mono ?_
  rintro e w1 ⟨rfl, hb1⟩
  have HS := hide ((Sep.start w).keep hb1)
  clear hb1 HM
  go_wp2_with fail
  refine (Sep.call (L0 := []) HS.out (H1.out _ (HE.out _ HS.out.below))).mono ?_
  rintro e w2 ⟨_, ⟨sa, rfl, rfl⟩, hs2⟩
  have HS2 := hide hs2
  clear hs2 HS H1
  go_wp2_with fail
  refine (Sep.call (L0 := []) HS2.out (H2.out _ (HE.out _ HS2.out.below))).mono ?_
  rintro e w3 ⟨_, ⟨ra, rfl, rfl⟩, hs3⟩
  simp only [List.cons_append, List.nil_append] at hs3
  have HS3 := hide (hs3.sw.nil 35 2)
  have hf := Go.Window.start_lt first
  clear hs3 HS2 H2
  generalize startN first = F at *
  have hsn : snNew F = Sn.mk ((F + 0) % 65536) (kepts F T 0) := rfl
  rw [hsn] at HS3
  clear hsn
  go_wp2_with fail
  go_loopw [10, 11] (fun t10 t11 wr => ∃ i : Nat, t11 = .int .i64 i ∧ i ≤ T.length ∧ Hid (∀ j (h : j < T.length), j < i → T[j].size ≤ 60) ∧ Hid (Sn.Ok (Sn.mk ((F + i) % 65536) (kepts F T i))) ∧ Hid (Sep Foot.none w [OwnF 35 2 t10 (List.range i).length (cs2 (netN F) (netS T) (List.range i)), S (.pointer (some sa)) (Sn.mk ((F + i) % 65536) (kepts F T i)), R (.pointer (some ra)) (rcNew F)] wr)) (fun _ t11 _ => T.length - (intOf t11).toNat)
  case atStart => exact ⟨0, rfl, Nat.zero_le _, fun _ _ h => by omega, Go.Window.ok_new F, HS3.out⟩
  case round =>
    obtain ⟨i, rfl, hiT, Hsz, Hok, Hs⟩ := hrel
    by_cases hlt : i < T.length
    · have hlt' : (i : Int) < T.length := by omega
      have HTc : Hid (∃ tb o, ta = some ⟨tb, o, none⟩ ∧ ∀ W, Below w.heap.size w W → W.cell? ⟨tb, o + i, none⟩ = some (.string T[i])) := by
        obtain ⟨_, _, e, hrow⟩ := HT.out w (Below.refl _ _)
        cases e
        obtain ⟨tb, o, rfl, hc⟩ := hrow (by omega)
        exact ⟨tb, o, rfl, fun W k => (k.cell (World.block_lt_of_cell? _ _ (hc i hlt))).trans (hc i hlt)⟩
      obtain ⟨tb, o, rfl, htc⟩ := HTc.out
      have HTd := hide htc
      clear HTc htc
      have c0 := HTd.out _ Hs.out.below
      have hlr : Hid ((List.range i).length = i) := List.length_range
      rw [hlr.out] at Hs
      obtain ⟨a10, b10, rfl, -⟩ := own_slice' Hs.out.own
      by_cases hd : 60 < T[i].size
      · have hd' : (60 : Int) < T[i].size := by omega
        have Hb := hide Hs.out.below
        clear Hs hd Hsz HTd HT Hok hlr
        generalize T[i] = d at *
        go_wp2_with fail
        go_ret
        exact ⟨rfl, Hb.out⟩
      · have hd' : (T[i].size : Int) ≤ 60 := by omega
        have hpk := Go.Window.push_keeps (F := F) hlt (by omega) (show T[i].size ≤ 20000 by omega)
        have HPu := hide (fun W (k : Env W) => Hw.out.push (.pointer (some sa)) (Sn.mk ((F + i) % 65536) (kepts F T i)) T[i] W Hok.out (by omega) k)
        have hok2 := Hok.out.push T[i]
        rw [hpk] at hok2
        rw [hpk, Hw.out.none] at HPu
        have Hok2 := hide hok2
        have Hsz2 : Hid (∀ j (h : j < T.length), j < i + 1 → T[j].size ≤ 60) := fun j h hj => by
          by_cases e : j = i
          · subst e; omega
          · exact Hsz.out j h (by omega)
        have Hnx : Hid (∀ v n wz, Sep Foot.none w [OwnF 35 2 v n (cs2 (netN F) (netS T) (List.range i) ++ [.int .i64 (((F + i) % 65536 : Nat) : Int), .string T[i]]), S (.pointer (some sa)) (Sn.mk ((F + (i + 1)) % 65536) (kepts F T (i + 1))), R (.pointer (some ra)) (rcNew F)] wz → n = (List.range (i + 1)).length → Sep Foot.none w [OwnF 35 2 v (List.range (i + 1)).length (cs2 (netN F) (netS T) (List.range (i + 1))), S (.pointer (some sa)) (Sn.mk ((F + (i + 1)) % 65536) (kepts F T (i + 1))), R (.pointer (some ra)) (rcNew F)] wz) := by
          intro v n wz k e
          subst e
          rw [show cs2 (netN F) (netS T) (List.range (i + 1)) = cs2 (netN F) (netS T) (List.range i) ++ [.int .i64 (((F + i) % 65536 : Nat) : Int), .string T[i]] from by
            rw [List.range_succ, cs2_snoc]
            simp [netN, netS, List.getD_eq_getElem?_getD, List.getElem?_eq_getElem hlt]]
          exact k
        have hlr2 : Hid (i + 1 = (List.range (i + 1)).length) := List.length_range.symm
        clear hlr hpk hok2 Hok Hsz hd HT
        generalize hnn : (F + i) % 65536 = nn at *
        have hnI : (nn : Int) ≤ 65535 := by omega
        generalize T[i] = d at *
        generalize cs2 (netN F) (netS T) (List.range i) = xs at *
        clear hlt hnn
        simp only at HPu
        go_wp2_with fail
        refine (Sep.call (L0 := [_]) (Sep.sw Hs.out) (HPu.out _ (HE.out _ Hs.out.below))).mono ?_
        rintro e w4 ⟨_, ⟨rfl, rfl⟩, hs4⟩
        simp only [List.cons_append, List.nil_append] at hs4
        have c0 := HTd.out _ hs4.below
        have HS4 := hide hs4.sw
        have Ho4 := hide hs4.sw.own
        clear hs4 Hs HPu
        go_wp2_with (at_builtin; refine wpList_append_lies _ rfl (.tmp 75) (.tmp 82) 29 rfl 0 35 i0 _ 2 24 Tryd.underlying29 hi hz0 hz1 hz2 rfl (by decide) (.slice a10 i b10) i xs rfl (Ho4.out.alloc _) ⟨w4.heap.size, 0, none⟩ 1 1 [.int .i64 (nn : Int), .string d] rfl rfl ?c1 ?c2 (by decide) ?b1 ?b2 (Nat.zero_le _) _ rfl ?next)
        case c1 => exact news2 _ _ _ _ _ rfl
        case c2 => intro u hu; simp at hu; rcases hu with rfl | rfl <;> rfl
        case b1 => unfold maxLen; omega
        case b2 => omega
        case next =>
          intro g5 k5 w5 own5 hg5 hat5 hlt5
          have Hs5 := hide (Hnx.out _ _ _ ((HS4.out.alloc (.cells #[.int .i64 (nn : Int), .string d] 35)).lies own5 hg5 hat5 (by simp)) hlr2.out)
          clear own5 hg5 hat5 hlt5 HS4 Ho4 c0 Hnx
          go_wp2_with fail
          go_roundw
          case rel => exact ⟨i + 1, by go_num, by omega, Hsz2.out, Hok2.out, Hs5.out⟩
          case measure => simp [intOf]; omega
    · have hle : (T.length : Int) ≤ (i : Int) := by omega
      obtain rfl : i = T.length := by omega
      have hsz : ∀ x ∈ T, x.size ≤ 60 := fun x hx => by
        obtain ⟨j, hj, rfl⟩ := List.getElem_of_mem hx
        exact Hsz.out j hj hj
      have HSz := hide hsz
      have HPy := hide (Play.new F (T := T) (by omega) (fun x hx => Nat.le_trans (hsz x hx) (by decide)))
      have hs0 := Hs.out
      have HS0 : Hid (∃ I : List Nat, ∃ s : Sn, ∃ r : Rc, Play F T r s 0 I ∧ (∀ i ∈ List.range T.length, i < T.length) ∧ Sep Foot.none w [OwnF 9 1 (.slice none 0 0) 0 ((T.take 0).map strV), OwnF 35 2 u10 (List.range T.length).length (cs2 (netN F) (netS T) (List.range T.length)), S (.pointer (some sa)) s, R (.pointer (some ra)) r] wr) :=
        ⟨_, _, _, HPy.out, fun i hi => List.mem_range.1 hi, hs0.nil _ _⟩
      clear hs0 hsz Hs Hok Hsz HPy HS3 hf
      go_wp2_with fail
      go_loopw [10, 14, 15] (fun t10 t14 t15 wz => ∃ (j d : Nat) (net I : List Nat) (s : Sn) (r : Rc), t15 = .int .i64 j ∧ j ≤ P.length ∧ d ≤ T.length ∧ net.length ≤ 30 + j ∧ Hid (∀ i ∈ net, i < T.length) ∧ Hid (Play F T r s d I) ∧ Hid (Sep Foot.none w [OwnF 9 1 t14 d ((T.take d).map strV), OwnF 35 2 t10 net.length (cs2 (netN F) (netS T) net), S (.pointer (some sa)) s, R (.pointer (some ra)) r] wz)) (fun _ _ t15 _ => P.length - (intOf t15).toNat)
      case atStart =>
        obtain ⟨I, s, r, h1, h2, h3⟩ := HS0.out
        exact ⟨0, 0, List.range T.length, I, s, r, rfl, Nat.zero_le _, Nat.zero_le _, by rw [List.length_range]; omega, h2, h1, h3⟩
      case round =>
        clear HS0
        obtain ⟨j, d, net, I, s, r, rfl, hj, hd, hnl, Hnt, Hpy, Hs⟩ := hrel
        by_cases hjt : j < P.length
        · have hjt' : (j : Int) < P.length := by omega
          have HPc : Hid (∃ b o, pa = some ⟨b, o, none⟩ ∧ ∀ W, Below w.heap.size w W → W.cell? ⟨b, o + j, none⟩ = some (.int .i64 P[j])) := by
            obtain ⟨_, _, e, hrow⟩ := HPl.out w (Below.refl _ _)
            cases e
            obtain ⟨b, o, rfl, hc⟩ := hrow (by omega)
            exact ⟨b, o, rfl, fun W k => (k.cell (World.block_lt_of_cell? _ _ (hc j hjt))).trans (hc j hjt)⟩
          obtain ⟨b, o, rfl, hpc⟩ := HPc.out
          have c0 := hpc wr Hs.out.below
          have hvw := HPw.out _ (List.getElem_mem hjt)
          clear HPc hpc HPl HPw
          generalize P[j] = v at *
          obtain ⟨a14, b14, rfl, -⟩ := own_slice' Hs.out.own
          obtain ⟨a10, b10, rfl, hcap10⟩ := own_slice' (Sep.sw Hs.out).own
          have hT32 : T.length ≤ 32 := by omega
          by_cases hv : v < 0
          · clear hvw hjt
            go_wp2_with fail
            go_roundw
            case rel => exact ⟨j + 1, d, net, I, s, r, by go_num, by omega, hd, by omega, Hnt.out, Hpy.out, Hs.out⟩
            case measure => simp [intOf]; omega
          · obtain ⟨m, rfl⟩ : ∃ m : Nat, v = m := ⟨v.toNat, by omega⟩
            have hq2 : (m : Int) / 4 = ((m / 4 : Nat) : Int) := by omega
            have hq1 : (m : Int).tdiv 4 = ((m / 4 : Nat) : Int) := (Int.tdiv_eq_ediv_of_nonneg (Int.natCast_nonneg m)).trans hq2
            have hr1 : (m : Int).tmod 4 = (m : Int) % 4 := Int.tmod_eq_emod_of_nonneg (by omega)
            have hrr : (m : Int) % 4 = 0 ∨ (m : Int) % 4 = 1 ∨ (m : Int) % 4 = 2 ∨ (m : Int) % 4 = 3 := by omega
            have hm0 : (0 : Int) ≤ m := by omega
            have hm1 : (m : Int) ≤ 9223372036854775807 := hvw.2
            have Hq0 : Hid (((m / 4 : Nat) : Int) ≤ 9223372036854775807) := by show _ ≤ _; omega
            have hqm := Hq0.out
            generalize m / 4 = q at *
            clear hv hvw Hq0
            by_cases hr3 : (m : Int) % 4 = 3
            · rw [hr3] at hr1
              clear hrr
              go_wp2_with fail
              refine (Sep.call (L0 := [_]) (Sep.fourth Hs.out) (Hw.out.ackR _ _ _ Hpy.out.rok (HE.out _ Hs.out.below))).mono ?_
              rintro e w5 ⟨_, ⟨u5, rfl, rfl⟩, hs5⟩
              simp only [List.cons_append, List.nil_append] at hs5
              have HS5 := hide (Sep.swap (L1 := [_, _, _, _]) hs5)
              have hml : (r.more.map Int.ofNat).length ≤ 1000000 := by rw [List.length_map]; exact Nat.le_trans (Go.Window.more_length r) (by decide)
              clear hs5 Hs c0
              go_wp2_with fail
              refine (Hw.out.takeL HS5.out Hpy.out.sok hml (more_wf r) (HE.out _ HS5.out.below)).mono ?_
              rintro e w6 ⟨rfl, hs6⟩
              obtain ⟨J, hJ, -⟩ := Hpy.out.ack hT32
              have HPy := hide hJ
              have HS6 := hide (Sep.drop (Sep.sw hs6))
              clear hs6 HS5 hml hJ Hpy
              generalize s.ack (r.due : Int) (r.more.map Int.ofNat) = s6 at *
              go_wp2_with fail
              refine (Sep.call (L0 := [_]) HS6.out (Hw.out.kept _ _ _ HPy.out.sok (HE.out _ HS6.out.below))).mono ?_
              rintro e w7 ⟨_, ⟨u7, rfl, rfl⟩, hs7⟩
              simp only [List.cons_append, List.nil_append] at hs7
              rw [HPy.out.kept.1] at hs7
              obtain ⟨la, lc, e7, -⟩ := hs7.row
              rw [List.length_map] at e7
              subst e7
              have hJl : J.length ≤ 32 := by
                have h1 := HPy.out.sok.length
                have h2 := congrArg List.length HPy.out.kept.1
                rw [List.length_map, List.length_map] at h2
                omega
              have hJl' : (J.length : Int) ≤ 32 := by omega
              by_cases hJ0 : J.length = 0
              · have hJ0' : (J.length : Int) = 0 := by omega
                have HS8 := hide (Sep.swap (L1 := [_, _]) hs7.drop)
                clear hs7 HS6 hjt
                go_wp2_with fail
                go_roundw
                case rel => exact ⟨j + 1, d, net, J, s6, r, by go_num, by omega, hd, by omega, Hnt.out, HPy.out, HS8.out⟩
                case measure => simp [intOf]; omega
              · have hJ0' : (0 : Int) < J.length := by omega
                have HS7 := hide (Sep.sw hs7)
                have hkl : q % J.length < J.length := Nat.mod_lt _ (by omega)
                have hk1 : (q : Int).tmod (J.length : Int) = ((q % J.length : Nat) : Int) := by rw [Int.tmod_eq_emod_of_nonneg (Int.natCast_nonneg q)]; rfl
                have hk2 : (q : Int) % (J.length : Int) = ((q % J.length : Nat) : Int) := rfl
                generalize hkk : q % J.length = k at *
                have hJT := HPy.out.kept.2.1 J[k] (List.getElem_mem hkl)
                have hJd := HPy.out.kept.2.2 J[k] (List.getElem_mem hkl)
                obtain ⟨_, _, e, hrow⟩ := hs7.row
                have HLc : Hid (∃ b o, la = some ⟨b, o, none⟩ ∧ w7.cell? ⟨b, o + k, none⟩ = some (.int .i64 (((F + J[k]) % 65536 : Nat) : Int))) := by
                  simp only [Value.slice.injEq] at e
                  obtain ⟨b, o, e2, hc⟩ := hrow (by rw [List.length_map]; omega)
                  refine ⟨b, o, e.1.trans e2, ?_⟩
                  have := hc k (by rw [List.length_map]; exact hkl)
                  rw [List.getElem_map] at this
                  exact this
                obtain ⟨lb, lo, rfl, c0⟩ := HLc.out
                clear e hrow HLc
                have HC : Hid (∀ L wz, Sep Foot.none w (RowF intV (.slice (some ⟨lb, lo, none⟩) J.length lc) (J.map fun i => (((F + i) % 65536 : Nat) : Int)) :: L) wz → wz.cell? ⟨lb, lo + k, none⟩ = some (.int .i64 (((F + J[k]) % 65536 : Nat) : Int))) := by
                  intro L wz hq
                  obtain ⟨_, _, e, hrow⟩ := hq.row
                  simp only [Value.slice.injEq] at e
                  obtain ⟨b2, o2, e2, hc⟩ := hrow (by rw [List.length_map]; omega)
                  have e3 := e.1.trans e2
                  simp only [Option.some.injEq, Addr.mk.injEq, and_true] at e3
                  obtain ⟨rfl, rfl⟩ := e3
                  have := hc k (by rw [List.length_map]; exact hkl)
                  rw [List.getElem_map] at this
                  exact this
                have HDt := hide (fun W (x : Env W) => Hw.out.data (.pointer (some sa)) s6 (((F + J[k]) % 65536 : Nat) : Int) W HPy.out.sok ⟨by omega, by omega⟩ x)
                rw [hJd] at HDt
                have Hnx : Hid (∀ v n wz, Sep Foot.none w [OwnF 35 2 v n (cs2 (netN F) (netS T) net ++ [.int .i64 (((F + J[k]) % 65536 : Nat) : Int), .string T[J[k]]]), OwnF 9 1 (.slice a14 d b14) d ((T.take d).map strV), S (.pointer (some sa)) s6, R (.pointer (some ra)) r] wz → n = (net ++ [J[k]]).length → Sep Foot.none w [OwnF 9 1 (.slice a14 d b14) d ((T.take d).map strV), OwnF 35 2 v (net ++ [J[k]]).length (cs2 (netN F) (netS T) (net ++ [J[k]])), S (.pointer (some sa)) s6, R (.pointer (some ra)) r] wz) := by
                  intro v n wz x e
                  subst e
                  rw [show cs2 (netN F) (netS T) (net ++ [J[k]]) = cs2 (netN F) (netS T) net ++ [.int .i64 (((F + J[k]) % 65536 : Nat) : Int), .string T[J[k]]] from by
                    rw [cs2_snoc]
                    simp [netN, netS, List.getD_eq_getElem?_getD, List.getElem?_eq_getElem hJT]]
                  exact x.sw
                have hlr2 : Hid (net.length + 1 = (net ++ [J[k]]).length) := by show _ = _; simp
                have Hnt2 : Hid (∀ i ∈ net ++ [J[k]], i < T.length) := fun i hi => by
                  rcases List.mem_append.1 hi with x | x
                  · exact Hnt.out i x
                  · rw [List.mem_singleton.1 x]; exact hJT
                have hnI : (((F + J[k]) % 65536 : Nat) : Int) ≤ 65535 := by omega
                have hk0 : (k : Int) < J.length := by omega
                have Hl2 : Hid ((net ++ [J[k]]).length ≤ 30 + (j + 1)) := by show _ ≤ _; simp; omega
                clear hJd Hnt hs7 hkk
                generalize net ++ [J[k]] = net' at *
                generalize (F + J[k]) % 65536 = nn at *
                generalize T[J[k]] = dd at *
                simp only [Option.getD_some, Option.isSome_some] at HDt
                clear hJT hkl
                go_wp2_with fail
                refine (Sep.call (L0 := [_]) HS7.out (HDt.out _ (HE.out _ HS7.out.below))).mono ?_
                rintro e w8 ⟨_, ⟨rfl, rfl⟩, hs8⟩
                simp only [List.cons_append, List.nil_append] at hs8
                have c0 := HC.out _ _ (Sep.sw hs8)
                have hs9 : Sep Foot.none w [OwnF 35 2 (.slice a10 net.length b10) net.length (cs2 (netN F) (netS T) net), OwnF 9 1 (.slice a14 d b14) d ((T.take d).map strV), S (.pointer (some sa)) s6, R (.pointer (some ra)) r] w8 := by
                  have x1 := Sep.drop (Sep.sw hs8)
                  have x2 := Sep.swap (L1 := [_, _]) x1
                  exact Sep.sw x2
                have HS9 := hide hs9
                have Ho9 := hide hs9.own
                clear hs8 hs9 HS7 HDt HC
                generalize cs2 (netN F) (netS T) net = xs at *
                go_wp2_with (at_builtin; refine wpList_append_lies _ rfl (.tmp 122) (.tmp 132) 29 rfl 0 35 i0 _ 2 24 Tryd.underlying29 hi hz0 hz1 hz2 rfl (by decide) (.slice a10 net.length b10) net.length xs rfl (Ho9.out.alloc _) ⟨w8.heap.size, 0, none⟩ 1 1 [.int .i64 (nn : Int), .string dd] rfl rfl ?c1 ?c2 (by decide) ?b1 ?b2 (Nat.zero_le _) _ rfl ?_)
                case c1 => exact news2 _ _ _ _ _ rfl
                case c2 => intro u hu; simp at hu; rcases hu with rfl | rfl <;> rfl
                case b1 => unfold maxLen; omega
                case b2 => omega
                intro g5 k5 w9 own5 hg5 hat5 hlt5
                have Hs9 := hide (Hnx.out _ _ _ ((HS9.out.alloc (.cells #[.int .i64 (nn : Int), .string dd] 35)).lies own5 hg5 hat5 (by simp)) hlr2.out)
                clear own5 hg5 hat5 hlt5 HS9 Ho9 c0 Hnx
                go_wp2_with fail
                go_roundw
                case rel => exact ⟨j + 1, d, net', J, s6, r, by go_num, by omega, hd, Hl2.out, Hnt2.out, HPy.out, by rw [← hlr2.out] at Hs9 ⊢; exact Hs9.out⟩
                case measure => simp [intOf]; omega
            · have hx : (m : Int) % 4 = 0 ∨ (m : Int) % 4 = 1 ∨ (m : Int) % 4 = 2 := by omega
              generalize (m : Int) % 4 = x at *
              clear hrr
              have hx3 : (x == 3) = false := by simp; omega
              by_cases hn0 : net.length = 0
              · have hn0' : (net.length : Int) = 0 := by omega
                clear hx hn0 hjt hr3
                go_wp2_with fail
                go_roundw
                case rel => exact ⟨j + 1, d, net, I, s, r, by go_num, by omega, hd, by omega, Hnt.out, Hpy.out, Hs.out⟩
                case measure => simp [intOf]; omega
              · have hn0' : (0 : Int) < net.length := by omega
                have hkl : q % net.length < net.length := Nat.mod_lt _ (by omega)
                have hk1 : (q : Int).tmod (net.length : Int) = ((q % net.length : Nat) : Int) := by rw [Int.tmod_eq_emod_of_nonneg (Int.natCast_nonneg q)]; rfl
                have hk2 : (q : Int) % (net.length : Int) = ((q % net.length : Nat) : Int) := rfl
                generalize hkk : q % net.length = k at *
                have hk0 : (k : Int) < net.length := by omega
                have hiT := Hnt.out _ (List.getElem_mem hkl)
                have htaS : ∃ tb o, ta = some ⟨tb, o, none⟩ := by
                  obtain ⟨_, _, e, hrow⟩ := HT.out w (Below.refl _ _)
                  cases e
                  obtain ⟨tb, o, e, _⟩ := hrow (by omega)
                  exact ⟨tb, o, e⟩
                have htc0 : (0 : Int) < tc := by omega
                obtain ⟨tb, tof, rfl⟩ := htaS
                obtain ⟨g, c', e10⟩ : ∃ g c', Value.slice a10 net.length b10 = .slice (some ⟨g, 0, none⟩) net.length c' := by
                  rcases own_forms (Sep.sw Hs.out).own with ⟨_, e⟩ | e
                  · omega
                  · exact e
                cases e10
                have Hon := hide (Sep.sw Hs.out).own
                have n0 : wr.cell? ⟨g, k * 2, none⟩ = some (netN F net[k]) := by
                  have := Hon.out.cells (g := g) rfl (k * 2) _ (cs2_get net k hkl).1
                  rw [Go.WideShapes.add_plain] at this
                  simpa using this
                have n1 : wr.cell? ⟨g, k * 2 + 1, none⟩ = some (netS T net[k]) := by
                  have := Hon.out.cells (g := g) rfl (k * 2 + 1) _ (cs2_get net k hkl).2
                  rw [Go.WideShapes.add_plain] at this
                  simpa using this
                have hN : netN F net[k] = .int .i64 (((F + net[k]) % 65536 : Nat) : Int) := rfl
                have hS : netS T net[k] = .string T[net[k]] := by simp [netS, List.getD_eq_getElem?_getD, List.getElem?_eq_getElem hiT]
                rw [hN] at n0
                rw [hS] at n1
                obtain ⟨d', hd1, hd3, hPy', htake, -, -⟩ := Hpy.out.take hT32 hiT
                have hsz := HSz.out _ (List.getElem_mem hiT)
                have HTk := hide (fun W (y : Env W) => Hw.out.takeR (.pointer (some ra)) r (((F + net[k]) % 65536 : Nat) : Int) T[net[k]] W Hpy.out.rok (by omega) y)
                have HPy2 := hide hPy'
                have htk := congrArg (List.map strV) htake
                rw [List.map_append] at htk
                have Htk := hide htk
                have hll : (r.takeI (((F + net[k]) % 65536 : Nat) : Int) T[net[k]]).2.length = d' - d := by
                  have := congrArg List.length htake
                  rw [List.length_append, List.length_take, List.length_take] at this
                  omega
                have hnI : (((F + net[k]) % 65536 : Nat) : Int) ≤ 65535 := by omega
                have Hr1 : Hid (∀ i ∈ net.take k ++ net.drop (k + 1), i < T.length) := fun i hi => by
                  rcases List.mem_append.1 hi with y | y
                  · exact Hnt.out i (List.mem_of_mem_take y)
                  · exact Hnt.out i (List.mem_of_mem_drop y)
                have HSf := hide (Hs.out.fresh 35 [.int .i64 (((F + net[k]) % 65536 : Nat) : Int), .string T[net[k]]])
                clear htk htake hPy' hsz hN hS hkk hn0 hr3
                generalize (F + net[k]) % 65536 = nn at *
                generalize T[net[k]] = dd at *
                generalize (r.takeI (nn : Int) dd) = rr at *
                obtain ⟨r2, out⟩ := rr
                simp only at HTk HPy2 Htk hll
                clear hiT
                have c0w : Hid (((wr.alloc (.cells #[.int .i64 (nn : Int), .string dd] 35)).heap.size) = wr.heap.size + 1) := by show _ = _; simp
                go_upto_if 147 with fail
                go_cut [10] (fun v10 wc => ∃ net' : List Nat, Hid (net'.length ≤ 30 + j) ∧ Hid (∀ i ∈ net', i < T.length) ∧ Hid (Sep Foot.none w [OwnF 35 2 v10 net'.length (cs2 (netN F) (netS T) net'), CellsF wr.heap.size 35 [.int .i64 (nn : Int), .string dd], OwnF 9 1 (.slice a14 d b14) d ((T.take d).map strV), S (.pointer (some sa)) s, R (.pointer (some ra)) r] wc))
                case first =>
                  by_cases hx2 : x = 2
                  · have hx2' : (x != 2) = false := by simp; omega
                    have HS9 := hide (Sep.third HSf.out)
                    clear hx hx3
                    go_wp2_with fail
                    go_meet
                    case rel => exact ⟨net, hnl, Hnt.out, HS9.out⟩
                  · have hx2' : (x != 2) = true := by simp; omega
                    have HoN := hide (Sep.own (Sep.third HSf.out))
                    have hkb : (k : Int) ≤ b10 := by omega
                    have hkl' : k ≤ net.length := by omega
                    clear hx hx3 n0 n1 hx2
                    go_wp2_with (at_builtin; refine wpList_append_own_at _ rfl (.tmp 148) (.tmp 151) 29 rfl 0 35 i0 _ 2 24 Tryd.underlying29 hi hz0 hz1 hz2 rfl (by decide) (.slice none 0 0) 0 [] rfl (World.ownsRow_nil _ _ _ _) ⟨g, 0, none⟩ k b10 ((cs2 (netN F) (netS T) net).take (k * 2)) rfl ?l1 ?c1 ?c2 ?b1 ?b2 (Nat.zero_le _) ?_)
                    case l1 => rw [List.length_take, cs2_length]; omega
                    case c1 => intro j u hu; have h := news_takeN HoN.out (k * 2) j u hu; first | exact h | (rw [Go.WideShapes.add_plain] at h; simpa using h)
                    case c2 => intro u hu; exact net_one F T net u (List.mem_of_mem_take hu)
                    case b1 => unfold maxLen; omega
                    case b2 => omega
                    intro v7 w7 own7 hg7 _ hat7
                    try simp only [Nat.zero_add, List.nil_append] at own7
                    rw [← c0w.out] at hat7
                    have hs7 := (HSf.out.nil 35 2).append own7 hg7 hat7
                    obtain ⟨a7, e7, rfl, -⟩ := own_slice' own7
                    have Hs7 := hide hs7
                    have HoN7 := hide (Sep.own (Sep.fourth hs7))
                    have HoL7 := hide hs7.own
                    clear own7 hg7 hat7 hs7 HoN HSf
                    have Hcs : Hid ((cs2 (netN F) (netS T) net).take (k * 2) ++ (cs2 (netN F) (netS T) net).drop ((k + 1) * 2) = cs2 (netN F) (netS T) (net.take k ++ net.drop (k + 1))) := by show _ = _; rw [cs2_append, cs2_take, cs2_drop]
                    have Hln : Hid (k + (net.length - (k + 1)) = (net.take k ++ net.drop (k + 1)).length) := by show _ = _; rw [List.length_append, List.length_take, List.length_drop]; omega
                    have Hnl : Hid ((net.take k ++ net.drop (k + 1)).length ≤ 30 + j) := by show _ ≤ _; rw [← Hln.out]; omega
                    have hcap : k + 1 < b10 ∨ (k + 1 = b10 ∧ net.length = k + 1) := by omega
                    rcases hcap with hcb | ⟨hcb, hcl⟩
                    · have hcb' : (k : Int) + 1 < b10 := by omega
                      have hcn' : (k : Int) + 1 ≤ net.length := by omega
                      clear hcb
                      go_wp2_with (at_builtin; refine wpList_append_own_at _ rfl (.tmp 153) (.tmp 157) 29 rfl 0 35 i0 _ 2 24 Tryd.underlying29 hi hz0 hz1 hz2 rfl (by decide) (.slice a7 k e7) k ((cs2 (netN F) (netS T) net).take (k * 2)) rfl HoL7.out _ _ _ ((cs2 (netN F) (netS T) net).drop ((k + 1) * 2)) rfl ?l1 ?c1 ?c2 ?b1 ?b2 (Nat.zero_le _) ?_)
                      case l1 => rw [List.length_drop, cs2_length]; omega
                      case c1 => intro j u hu; have h := news_dropN HoN7.out ((k + 1) * 2) j u hu; first | exact h | (rw [Go.WideShapes.add_plain] at h; simpa using h) | simpa [Nat.add_assoc] using h
                      case c2 => intro u hu; exact net_one F T net u (List.mem_of_mem_drop hu)
                      case b1 => unfold maxLen; omega
                      case b2 => omega
                      intro v9 w10 own9 hg9 _ hat9
                      have hs10 := Hs7.out.append own9 hg9 hat9
                      obtain ⟨a10', e10, rfl, -⟩ := own_slice' own9
                      have hs11 := (Sep.fourth hs10).drop
                      rw [Hcs.out] at hs11
                      have Hs11 := hide hs11
                      clear own9 hg9 hat9 hs10 hs11 Hs7 HoN7 HoL7
                      go_wp2_with fail
                      go_meet
                      case rel => exact ⟨net.take k ++ net.drop (k + 1), Hnl.out, Hr1.out, by rw [← Hln.out]; exact Hs11.out⟩
                    · subst hcb
                      have Hcl := hide hcl
                      have hcl1 : (net.length : Int) ≤ (k : Int) + 1 := by omega
                      have hcl2 : (k : Int) + 1 ≤ net.length := by omega
                      have hdr : Hid ((cs2 (netN F) (netS T) net).take (k * 2) = cs2 (netN F) (netS T) (net.take k ++ net.drop (k + 1))) := by
                        show _ = _
                        rw [← Hcs.out, List.drop_of_length_le (l := cs2 (netN F) (netS T) net) (by rw [cs2_length]; omega), List.append_nil]
                      have hl2 : Hid (k = (net.take k ++ net.drop (k + 1)).length) := by show _ = _; rw [← Hln.out]; omega
                      clear hcl
                      go_wp2_with (at_builtin; refine wpList_append_own_at _ rfl (.tmp 153) (.tmp 157) 29 rfl 0 35 i0 _ 2 24 Tryd.underlying29 hi hz0 hz1 hz2 rfl (by decide) (.slice a7 k e7) k ((cs2 (netN F) (netS T) net).take (k * 2)) rfl HoL7.out _ _ _ [] rfl ?l1 ?c1 ?c2 ?b1 ?b2 (Nat.zero_le _) ?_)
                      case l1 => rfl
                      case c1 => intro j u hu; simp at hu
                      case c2 => intro u hu; cases hu
                      case b1 => unfold maxLen; omega
                      case b2 => omega
                      intro v9 w10 own9 hg9 _ hat9
                      have hs10 := Hs7.out.append own9 hg9 hat9
                      obtain ⟨a10', e10, rfl, -⟩ := own_slice' own9
                      have hs11 := (Sep.fourth hs10).drop
                      rw [hdr.out] at hs11
                      have Hs11 := hide hs11
                      clear own9 hg9 hat9 hs10 hs11 Hs7 HoN7 HoL7
                      go_wp2_with fail
                      go_meet
                      case rel => exact ⟨net.take k ++ net.drop (k + 1), Hnl.out, Hr1.out, by rw [← hl2.out]; exact Hs11.out⟩
                case rest =>
                  obtain ⟨net', Hl2, Hnt2, Hsn⟩ := hcut
                  clear HSf n0 n1
                  by_cases hx1 : x = 1
                  · have hx1' : (x == 1) = true := by simp; omega
                    have HS9 := hide (Sep.sw (Sep.sw Hsn.out).drop)
                    clear hx hx3 Hsn HTk Htk
                    have Hl3 : Hid (net'.length ≤ 30 + (j + 1)) := by show _ ≤ _; have := Hl2.out; omega
                    go_wp2_with fail
                    go_roundw
                    case rel => exact ⟨j + 1, d, net', I, s, r, by go_num, by omega, hd, Hl3.out, Hnt2.out, Hpy.out, HS9.out⟩
                    case measure => simp [intOf]; omega
                  · have hx1' : (x == 1) = false := by simp; omega
                    have e0 := ((Sep.sw Hsn.out).cell 0).1
                    have e1 := ((Sep.sw Hsn.out).cell 1).1
                    simp only [List.getElem?_cons_zero, List.getElem?_cons_succ] at e0 e1
                    have HSn := hide (Sep.swap (L1 := [_, _, _, _]) Hsn.out)
                    clear hx hx3 hx1 Hsn
                    go_upto_region 39 with fail
                    go_cut [14] (fun v14 wd => ∃ a c, v14 = .slice a d' c ∧ Hid (Sep Foot.none w [OwnF 9 1 v14 d' ((T.take d').map strV), OwnF 35 2 u10 net'.length (cs2 (netN F) (netS T) net'), S (.pointer (some sa)) s, R (.pointer (some ra)) r2] wd))
                    case first =>
                      go_wp2_with fail
                      refine (Sep.call (L0 := [_]) HSn.out (HTk.out _ (HE.out _ HSn.out.below))).mono ?_
                      rintro e w9 ⟨_, ⟨u9, rfl, rfl⟩, hs9⟩
                      simp only [List.cons_append, List.nil_append] at hs9
                      obtain ⟨a9, c9, rfl, hnn9⟩ := hs9.rowForm
                      have Hrw9 := hide hs9.row
                      have hs10 := Sep.swap (L1 := [_, _, _, _]) hs9
                      simp only [List.cons_append, List.nil_append] at hs10
                      have HS9 := hide hs10
                      have Ho9 := hide (Sep.own hs10)
                      have HEnd : Hid (∀ v ys n wz, Sep Foot.none w [OwnF 9 1 v n ys, S (.pointer (some sa)) s, RowF strV (.slice a9 out.length c9) out, R (.pointer (some ra)) r2, OwnF 35 2 u10 net'.length (cs2 (netN F) (netS T) net'), CellsF wr.heap.size 35 [.int .i64 (nn : Int), .string dd]] wz → Sep Foot.none w [OwnF 9 1 v n ys, OwnF 35 2 u10 net'.length (cs2 (netN F) (netS T) net'), S (.pointer (some sa)) s, R (.pointer (some ra)) r2] wz) := by
                        intro v ys n wz h
                        have x1 := (Sep.swap (L1 := [_, _]) h).drop
                        have x2 := (Sep.third x1).drop
                        have x3 := Sep.swap (L1 := [_]) x2
                        try simp only [List.cons_append] at x3
                        exact x3.sw.sw2.sw2
                      clear hs9 hs10 HSn HTk e0 e1
                      cases a9 with
                      | none =>
                        obtain rfl := hnn9 rfl
                        have ho : out = [] := by
                          cases out with
                          | nil => rfl
                          | cons x l =>
                            obtain ⟨_, _, e, hrow⟩ := Hrw9.out
                            obtain ⟨_, _, e2, _⟩ := hrow (by simp)
                            cases e
                            cases e2
                        subst ho
                        obtain rfl : d' = d := by simp at hll; omega
                        go_wp2_with (at_builtin; refine wpList_append_own_none rfl (.tmp 162) (.tmp 168) 22 rfl 0 9 j0 1 Tryd.underlying22 ‹Tryd.prog.info? 9 = some j0› _ _ _ rfl Ho9.out rfl ?_)
                        have HS10 := hide (HEnd.out _ _ _ _ HS9.out)
                        clear HS9 Ho9 Hrw9 Htk HEnd
                        go_wp2_with fail
                        go_meet
                        case rel => exact ⟨a14, b14, rfl, HS10.out⟩
                      | some ad =>
                        have Hnw : Hid (∀ j u, (out.map strV)[j]? = some u → w9.cell? (ad.add j) = some u) := by
                          intro j u hu
                          rw [List.getElem?_map] at hu
                          cases hx : out[j]? with
                          | none => rw [hx] at hu; cases hu
                          | some x =>
                            rw [hx] at hu
                            cases hu
                            obtain ⟨hjl, hxj⟩ := List.getElem?_eq_some_iff.1 hx
                            obtain ⟨_, _, e, hrow⟩ := Hrw9.out
                            obtain ⟨b2, o2, e2, hc⟩ := hrow (by omega)
                            simp only [Value.slice.injEq] at e
                            have e3 := e.1.trans e2
                            simp only [Option.some.injEq] at e3
                            subst e3
                            have := hc j hjl
                            rw [hxj] at this
                            rw [Go.WideShapes.add_plain]
                            exact this
                        have hol : d + out.length = d' := by omega
                        have Hol := hide hol
                        have Hd3 := hide hd3
                        clear Hrw9 hll hd1 hd3 hol
                        go_wp2_with (at_builtin; refine wpList_append_own_at _ rfl (.tmp 162) (.tmp 168) 22 rfl 0 9 j0 (.string ⟨#[]⟩) 1 16 Tryd.underlying22 ‹Tryd.prog.info? 9 = some j0› ky0 ky1 ky2 rfl (by decide) _ d ((T.take d).map strV) rfl Ho9.out ad out.length c9 (out.map strV) rfl ?l1 ?c1 ?c2 ?b1 ?b2 (Nat.zero_le _) ?_)
                        case l1 => simp
                        case c1 => intro j u hu; have h := Hnw.out j u hu; first | exact h | simpa using h
                        case c2 => intro u hu; rw [List.mem_map] at hu; obtain ⟨x, _, rfl⟩ := hu; rfl
                        case b1 => have h1 := Hol.out; have h2 := Hd3.out; unfold maxLen; omega
                        case b2 => have h1 := Hol.out; have h2 := Hd3.out; omega
                        intro v10 w10 own10 hg10 _ hat10
                        have h0 := Sep.append HS9.out own10 hg10 hat10
                        rw [Hol.out] at h0
                        (try rw [← List.map_take] at h0)
                        rw [Htk.out] at h0
                        have h1 := HEnd.out _ _ _ _ h0
                        obtain ⟨ax, cx, rfl, -⟩ := own_slice' h1.own
                        have HS10 := hide h1
                        clear own10 hg10 hat10 h0 h1 HS9 Ho9 Hnw Htk HEnd
                        go_wp2_with fail
                        go_meet
                        case rel => exact ⟨ax, cx, rfl, HS10.out⟩
                    case rest =>
                      obtain ⟨ax, cx, rfl, Hsx⟩ := hcut
                      have hd3' : (d' : Int) ≤ T.length := by omega
                      have hd4' : (d' : Int) ≤ tc := by omega
                      have HRo := hide (Row1.of_own (f := strV) Hsx.out.own)
                      have HRt := hide (Row1.cut (HT.out _ Hsx.out.below) d' hd3)
                      clear HTk Htk HSn hll
                      go_wp2_with fail
                      refine (sameTexts_ok _ _ (T.take d') (T.take d') _ HRo.out HRt.out (by rw [List.length_take]; omega) (by rw [List.length_take]; omega)).mono ?_
                      rintro e w10 ⟨rfl, hb10⟩
                      rw [show decide (T.take d' = T.take d') = true from by simp]
                      have HS10 := hide (Hsx.out.keep hb10)
                      have Hl3 : Hid (net'.length ≤ 30 + (j + 1)) := by show _ ≤ _; have := Hl2.out; omega
                      clear hb10 Hsx HRo HRt
                      go_wp2_with fail
                      go_roundw
                      case rel => exact ⟨j + 1, d', net', I, s, r2, by go_num, by omega, hd3, Hl3.out, Hnt2.out, HPy2.out, HS10.out⟩
                      case measure => simp [intOf]; omega
        · have hle : (P.length : Int) ≤ (j : Int) := by omega
          have hT32 : T.length ≤ 32 := by omega
          have Hrow := hide (fun W (k : Below w.heap.size w W) => HT.out W k)
          clear HPl HT Hnt
          go_wp2_with fail
          refine (Sep.call (L0 := [_]) (Sep.fourth Hs.out) (Hw.out.ackR _ _ _ Hpy.out.rok (HE.out _ Hs.out.below))).mono ?_
          rintro e w5 ⟨_, ⟨u5, rfl, rfl⟩, hs5⟩
          simp only [List.cons_append, List.nil_append] at hs5
          have HS5 := hide (Sep.swap (L1 := [_, _, _, _]) hs5)
          have hml : (r.more.map Int.ofNat).length ≤ 1000000 := by rw [List.length_map]; exact Nat.le_trans (Go.Window.more_length r) (by decide)
          clear hs5 Hs
          go_wp2_with fail
          refine (Hw.out.takeL HS5.out Hpy.out.sok hml (more_wf r) (HE.out _ HS5.out.below)).mono ?_
          rintro e w6 ⟨rfl, hs6⟩
          obtain ⟨J, hJ, -⟩ := Hpy.out.ack hT32
          have HPy := hide hJ
          have HS6 := hide (Sep.swap (L1 := [_, _, _]) hs6.sw.drop).drop
          clear hs6 HS5 hml hJ Hpy
          generalize s.ack (r.due : Int) (r.more.map Int.ofNat) = s6 at *
          go_wp2_with fail
          refine (Sep.call (L0 := [_]) HS6.out (Hw.out.kept _ _ _ HPy.out.sok (HE.out _ HS6.out.below))).mono ?_
          rintro e w7 ⟨_, ⟨u7, rfl, rfl⟩, hs7⟩
          simp only [List.cons_append, List.nil_append] at hs7
          rw [HPy.out.kept.1] at hs7
          obtain ⟨la, lc, e7, -⟩ := hs7.row
          rw [List.length_map] at e7
          subst e7
          have hJl : J.length ≤ 32 := by
            have h1 := HPy.out.sok.length
            have h2 := congrArg List.length HPy.out.kept.1
            rw [List.length_map, List.length_map] at h2
            omega
          have hJl' : (J.length : Int) ≤ 32 := by omega
          have HS7 := hide (Sep.fourth hs7)
          clear hs7 HS6
          go_wp2_with fail
          go_loopw [14, 25] (fun t14 t25 wz => ∃ (k d : Nat) (r : Rc), t25 = .int .i64 k ∧ k ≤ J.length ∧ d ≤ T.length ∧ Hid (Play F T r s6 d J) ∧ Hid (∀ i (hi : i < J.length), i < k → Got r d J[i]) ∧ Hid (Sep Foot.none w [OwnF 9 1 t14 d ((T.take d).map strV), RowF intV (.slice la J.length lc) (J.map fun i => (((F + i) % 65536 : Nat) : Int)), S (.pointer (some sa)) s6, R (.pointer (some ra)) r] wz)) (fun _ t25 _ => J.length - (intOf t25).toNat)
          case atStart => exact ⟨0, d, r, rfl, Nat.zero_le _, hd, HPy.out, fun _ _ h => by omega, HS7.out⟩
          case round =>
            clear HS7 HPy
            obtain ⟨k, d, r, rfl, hk, hd2, HPy, Hgot, Hs⟩ := hrel
            by_cases hkt : k < J.length
            · have hkt' : (k : Int) < J.length := by omega
              have hJT := HPy.out.kept.2.1 J[k] (List.getElem_mem hkt)
              have hJd := HPy.out.kept.2.2 J[k] (List.getElem_mem hkt)
              obtain ⟨d', hd1, hd3, hPy', htake, hgk, hgj⟩ := HPy.out.take hT32 hJT
              obtain ⟨_, _, e, hrow⟩ := (Sep.sw Hs.out).row
              have HLc : Hid (∃ b o, la = some ⟨b, o, none⟩ ∧ wr.cell? ⟨b, o + k, none⟩ = some (.int .i64 (((F + J[k]) % 65536 : Nat) : Int))) := by
                simp only [Value.slice.injEq] at e
                obtain ⟨b, o, e2, hc⟩ := hrow (by rw [List.length_map]; omega)
                refine ⟨b, o, e.1.trans e2, ?_⟩
                have := hc k (by rw [List.length_map]; exact hkt)
                rw [List.getElem_map] at this
                exact this
              obtain ⟨b, o, rfl, c0⟩ := HLc.out
              clear e hrow HLc
              have HC : Hid (∀ L wz, Sep Foot.none w (RowF intV (.slice (some ⟨b, o, none⟩) J.length lc) (J.map fun i => (((F + i) % 65536 : Nat) : Int)) :: L) wz → wz.cell? ⟨b, o + k, none⟩ = some (.int .i64 (((F + J[k]) % 65536 : Nat) : Int))) := by
                intro L wz hq
                obtain ⟨_, _, e, hrow⟩ := hq.row
                simp only [Value.slice.injEq] at e
                obtain ⟨b2, o2, e2, hc⟩ := hrow (by rw [List.length_map]; omega)
                have e3 := e.1.trans e2
                simp only [Option.some.injEq, Addr.mk.injEq, and_true] at e3
                obtain ⟨rfl, rfl⟩ := e3
                have := hc k (by rw [List.length_map]; exact hkt)
                rw [List.getElem_map] at this
                exact this
              have HDt := hide (fun W (q : Env W) => Hw.out.data (.pointer (some sa)) s6 (((F + J[k]) % 65536 : Nat) : Int) W HPy.out.sok ⟨by omega, by omega⟩ q)
              rw [hJd] at HDt
              have hsz := HSz.out _ (List.getElem_mem hJT)
              have HTk := hide (fun W (q : Env W) => Hw.out.takeR (.pointer (some ra)) r (((F + J[k]) % 65536 : Nat) : Int) T[J[k]] W HPy.out.rok (by omega) q)
              have Hgot2 : Hid (∀ i (hi : i < J.length), i < k + 1 → Got (r.takeI (((F + J[k]) % 65536 : Nat) : Int) T[J[k]]).1 d' J[i]) := fun i hi hik => by
                by_cases e : i = k
                · subst e; exact hgk
                · exact hgj _ (Hgot.out i hi (by omega))
              have HPy2 := hide hPy'
              have htk := congrArg (List.map strV) htake
              rw [List.map_append] at htk
              have Htk := hide htk
              have hll : (r.takeI (((F + J[k]) % 65536 : Nat) : Int) T[J[k]]).2.length = d' - d := by
                have := congrArg List.length htake
                rw [List.length_append, List.length_take, List.length_take] at this
                omega
              have hnI : (((F + J[k]) % 65536 : Nat) : Int) ≤ 65535 := by omega
              have Hk8 := hide HPy.out.sok
              clear htk htake hgk hgj hPy' hJd hsz
              generalize (F + J[k]) % 65536 = nn at *
              generalize T[J[k]] = dd at *
              generalize (r.takeI (nn : Int) dd) = rr at *
              obtain ⟨r2, out⟩ := rr
              simp only at HTk Hgot2 HPy2 Htk hll
              simp only [Option.getD_some, Option.isSome_some] at HDt
              clear hJT HPy Hgot
              obtain ⟨a14, b14, rfl, -⟩ := own_slice' Hs.out.own
              go_wp2_with fail
              refine (Sep.call (L0 := [_]) (Sep.third Hs.out) (HDt.out _ (HE.out _ Hs.out.below))).mono ?_
              rintro e w8 ⟨_, ⟨rfl, rfl⟩, hs8⟩
              simp only [List.cons_append, List.nil_append] at hs8
              have c0 := HC.out _ _ (Sep.third hs8)
              have HS8 := hide (Sep.fourth hs8)
              clear hs8 Hs HDt HC
              go_wp2_with fail
              refine (Sep.call (L0 := [_]) HS8.out (HTk.out _ (HE.out _ HS8.out.below))).mono ?_
              rintro e w9 ⟨_, ⟨u9, rfl, rfl⟩, hs9⟩
              simp only [List.cons_append, List.nil_append] at hs9
              obtain ⟨a9, c9, rfl, hnn9⟩ := hs9.rowForm
              have Hrw9 := hide hs9.row
              have HS9 := hide (Sep.fourth hs9)
              have Ho9 := hide (Sep.own (Sep.fourth hs9))
              clear hs9 HS8 HTk c0
              cases a9 with
              | none =>
                obtain rfl := hnn9 rfl
                have ho : out = [] := by
                  cases out with
                  | nil => rfl
                  | cons x l =>
                    obtain ⟨_, _, e, hrow⟩ := Hrw9.out
                    obtain ⟨_, _, e2, _⟩ := hrow (by simp)
                    cases e
                    cases e2
                subst ho
                obtain rfl : d' = d := by simp at hll; omega
                go_wp2_with (at_builtin; refine wpList_append_own_none rfl (.tmp 203) (.tmp 210) 22 rfl 0 9 j0 1 Tryd.underlying22 ‹Tryd.prog.info? 9 = some j0› _ _ _ rfl Ho9.out rfl ?_)
                have h1 := Sep.swap (L1 := [_, _]) HS9.out.sw.drop
                simp only [List.cons_append, List.nil_append] at h1
                have HS10 := hide h1.third.sw2
                clear h1 HS9 Ho9 Hrw9 Htk
                go_wp2_with fail
                go_roundw
                case rel => exact ⟨k + 1, d', r2, by go_num, by omega, hd2, HPy2.out, Hgot2.out, HS10.out⟩
                case measure => simp [intOf]; omega
              | some ad =>
                have Hnw : Hid (∀ j u, (out.map strV)[j]? = some u → w9.cell? (ad.add j) = some u) := by
                  intro j u hu
                  rw [List.getElem?_map] at hu
                  cases hx : out[j]? with
                  | none => rw [hx] at hu; cases hu
                  | some x =>
                    rw [hx] at hu
                    cases hu
                    obtain ⟨hjl, hxj⟩ := List.getElem?_eq_some_iff.1 hx
                    obtain ⟨_, _, e, hrow⟩ := Hrw9.out
                    obtain ⟨b2, o2, e2, hc⟩ := hrow (by omega)
                    simp only [Value.slice.injEq] at e
                    have e3 := e.1.trans e2
                    simp only [Option.some.injEq] at e3
                    subst e3
                    have := hc j hjl
                    rw [hxj] at this
                    rw [Go.WideShapes.add_plain]
                    exact this
                have hol : d + out.length = d' := by omega
                have Hol := hide hol
                have Hd3 := hide hd3
                clear Hrw9 hll hd1 hd3 hol
                go_wp2_with (at_builtin; refine wpList_append_own_at _ rfl (.tmp 203) (.tmp 210) 22 rfl 0 9 j0 (.string ⟨#[]⟩) 1 16 Tryd.underlying22 ‹Tryd.prog.info? 9 = some j0› ky0 ky1 ky2 rfl (by decide) _ d ((T.take d).map strV) rfl Ho9.out ad out.length c9 (out.map strV) rfl ?l1 ?c1 ?c2 ?b1 ?b2 (Nat.zero_le _) ?next)
                case l1 => simp
                case c1 => intro j u hu; have h := Hnw.out j u hu; first | exact h | simpa using h
                case c2 => intro u hu; rw [List.mem_map] at hu; obtain ⟨x, _, rfl⟩ := hu; rfl
                case b1 => have h1 := Hol.out; have h2 := Hd3.out; unfold maxLen; omega
                case b2 => have h1 := Hol.out; have h2 := Hd3.out; omega
                case next =>
                  intro v10 w10 own10 hg10 _ hat10
                  have h0 := Sep.append HS9.out own10 hg10 hat10
                  rw [Hol.out] at h0
                  (try rw [← List.map_take] at h0)
                  rw [Htk.out] at h0
                  have h1 := Sep.swap (L1 := [_, _]) h0.sw.drop
                  simp only [List.cons_append, List.nil_append] at h1
                  have HS10 := hide h1.third.sw2
                  clear own10 hg10 hat10 h0 h1 HS9 Ho9 Hnw Htk
                  go_wp2_with fail
                  go_roundw
                  case rel => exact ⟨k + 1, d', r2, by go_num, by omega, Hd3.out, HPy2.out, Hgot2.out, HS10.out⟩
                  case measure => simp [intOf]; omega
            · have hkl : (J.length : Int) ≤ (k : Int) := by omega
              obtain ⟨hde, hkn⟩ := HPy.out.ends hT32 (fun i hi => by
                obtain ⟨x, hx, rfl⟩ := List.getElem_of_mem hi
                exact Hgot.out x hx (by omega))
              subst hde
              rw [List.take_length] at Hs
              have HK := hide hkn
              clear Hgot hkn
              go_wp2_with fail
              refine (Sep.call (L0 := [_]) (Sep.fourth Hs.out) (Hw.out.ackR _ _ _ HPy.out.rok (HE.out _ Hs.out.below))).mono ?_
              rintro e w8 ⟨_, ⟨u8, rfl, rfl⟩, hs8⟩
              simp only [List.cons_append, List.nil_append] at hs8
              have HS8 := hide (Sep.swap (L1 := [_, _, _, _]) hs8)
              have hml : (r.more.map Int.ofNat).length ≤ 1000000 := by rw [List.length_map]; exact Nat.le_trans (Go.Window.more_length r) (by decide)
              clear hs8 Hs
              go_wp2_with fail
              refine (Hw.out.takeL HS8.out HPy.out.sok hml (more_wf r) (HE.out _ HS8.out.below)).mono ?_
              rintro e w9 ⟨rfl, hs9⟩
              have HS9 := hide hs9
              have Hok9 := hide (HPy.out.sok.ack (r.due : Int) (r.more.map Int.ofNat))
              have HRo := hide (Row1.of_own (f := strV) (hs9.ownMem (.tail _ (.tail _ (.tail _ (.head _))))))
              have HRt := hide (Hrow.out _ hs9.below)
              clear hs9 HS8 hml HPy Hrow
              generalize s6.ack (r.due : Int) (r.more.map Int.ofNat) = s9 at *
              go_wp2_with fail
              refine (sameTexts_ok _ _ T T _ HRo.out HRt.out (by omega) (by omega)).mono ?_
              rintro e w10 ⟨rfl, hb10⟩
              rw [show decide (T = T) = true from by simp]
              have HS10 := hide (HS9.out.keep hb10)
              clear hb10 HS9 HRo HRt
              go_wp2_with fail
              refine (Sep.call (L0 := [_]) HS10.out (Hw.out.kept _ _ _ Hok9.out (HE.out _ HS10.out.below))).mono ?_
              rintro e w11 ⟨_, ⟨u11, rfl, rfl⟩, hs11⟩
              simp only [List.cons_append, List.nil_append] at hs11
              rw [HK.out, List.map_nil] at hs11
              obtain ⟨ya, yc, e11, -⟩ := hs11.row
              rw [List.length_nil] at e11
              subst e11
              have HB := hide hs11.below
              clear hs11 HS10 HK
              go_wp2_with fail
              go_ret
              exact ⟨rfl, HB.out⟩

set_option maxHeartbeats 1000000 in
set_option maxRecDepth 100000 in
theorem wonce_early (Env : World → Prop) (S : Value → Sn → Fam) (R : Value → Rc → Fam) (errW : Nat → Value) (h : WinOk Env S R errW) (first : Int) (ta pa : Option Addr) (tl tc pl pc : Nat) (w : World) (hE : Env w) (hl : 30 < tl ∨ (tl ≤ 30 ∧ 300 < pl)) :
    Calls Tryd.prog 3 #[.int .i64 first, .slice ta tl tc, .slice pa pl pc] w fun e w' => e = .returned (.bool true) ∧ Below w.heap.size w w' := by
  have HM := hide (windowed_ok Env S R errW h w hE)
  rcases hl with hl | ⟨hl, hp⟩
  · have hl' : (30 : Int) < tl := by omega
    clear hE h hl
    go_enter Tryd.func3, Tryd.ntmps3
    go_wp2_with fail
    refine HM.out.mono ?_
    rintro e w1 ⟨rfl, hb1⟩
    have Hb1 := hide hb1
    clear hb1 HM
    go_wp2_with fail
    go_ret
    exact ⟨rfl, Hb1.out⟩
  · have hl' : (tl : Int) ≤ 30 := by omega
    have hp' : (300 : Int) < pl := by omega
    clear hE h hl hp
    go_enter Tryd.func3, Tryd.ntmps3
    go_wp2_with fail
    refine HM.out.mono ?_
    rintro e w1 ⟨rfl, hb1⟩
    have Hb1 := hide hb1
    clear hb1 HM
    go_wp2_with fail
    go_ret
    exact ⟨rfl, Hb1.out⟩
/-- WindowOnce, whole. -/
theorem wonce_walk (Env : World → Prop) (S : Value → Sn → Fam) (R : Value → Rc → Fam) (errW : Nat → Value) (h : WinOk Env S R errW) (first : Int) (v u : Value) (T : List ByteArray) (P : List Int) (w : World) (hE : Env w) (hT : Row1 strV w v T) (hP : Row1 intV w u P)
    (hcap : ∀ a n c, v = .slice a n c → n ≤ c) (hPw : ∀ x ∈ P, WfI x) :
    Calls Tryd.prog 3 #[.int .i64 first, v, u] w fun e w' => e = .returned (.bool true) ∧ Below w.heap.size w w' := by
  have hT' := hT
  have hP' := hP
  obtain ⟨ta, tc, rfl, -⟩ := hT'
  obtain ⟨pa, pc, rfl, -⟩ := hP'
  by_cases hl : 30 < T.length
  · exact wonce_early Env S R errW h first ta pa _ tc _ pc w hE (.inl hl)
  · by_cases hp : 300 < P.length
    · exact wonce_early Env S R errW h first ta pa _ tc _ pc w hE (.inr ⟨by omega, hp⟩)
    · exact wonce_main Env S R errW h first ta pa tc pc T P w hE hT hP (by omega) (by omega) (hcap _ _ _ rfl) hPw
end Go.Proofs.YtaambclpkghddaaDoor
