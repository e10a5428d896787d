/-
  Contracts of delta.read, Read over this dump: every text.
  Contract of the document's SameOps over this dump, at ops that are the same; of ownOps.
  Contracts of the document's FindOf, and of OwnBlocks, over this dump.
-/
import Derived.Test.YtgogjncamjbajacGreatDoorJoin15
import Derived.Deep.QuietTactic
import Derived.BigQuiet
import Derived.Test.YtgogjncamjbajacGreatDoorJoin04
import Derived.Test.YtgogjncamjbajacGreatDoorJoin06
namespace Go.Proofs.YtgogjncamjbajacGreatDoor
open Go.RowKit
open Go.Delta (Opx copyOp dataOp rdO rdOs rdA rdD txt aheadO kCopy kData)

theorem num_lenD {s r : List UInt8} {n : Nat} (h : Go.Sign.num s = .ok (n, r)) : r.length + 1 ≤ s.length := by
  unfold Go.Sign.num at h
  split at h
  · rename_i n' k hd
    cases h
    have := dec_num hd
    rw [List.length_drop]; omega
  · cases h
theorem txt_len {s r d : List UInt8} (h : txt s = .ok (d, r)) : r.length + d.length + 1 ≤ s.length := by
  unfold txt at h
  split at h
  · cases h
  · rename_i n s1 h1
    have := num_lenD h1
    split at h
    · cases h
    · split at h
      · cases h
      · cases h
        simp; omega
theorem rdO_len {s s' : List UInt8} {o : Opx} (h : rdO s = .ok (o, s')) : s'.length + 1 ≤ s.length ∧ o.data.size ≤ s.length := by
  unfold rdO at h
  split at h
  · cases h
  · rename_i k s1 h1
    have := num_lenD h1
    split at h
    · split at h
      · cases h
      · rename_i d s2 h2
        have := txt_len h2
        cases h
        simp only [dataOp, str_len]; omega
    · split at h
      · split at h
        · cases h
        · rename_i a s2 h2
          have := num_lenD h2
          split at h
          · cases h
          · rename_i n s3 h3
            have := num_lenD h3
            cases h
            refine ⟨by omega, ?_⟩
            show (0 : Nat) ≤ _
            omega
      · cases h
theorem rdOs_len : ∀ (m : Nat) (s : List UInt8) (l : List Opx) (r : List UInt8), rdOs m s = .ok (l, r) → l.length ≤ s.length ∧ ∀ o ∈ l, o.data.size ≤ s.length := by
  intro m
  induction m with
  | zero => intro s l r h; cases h; simp
  | succ m ih =>
    intro s l r h
    rw [rdOs] at h
    split at h
    · cases h
    · rename_i b s1 hb
      split at h
      · cases h
      · rename_i l' s2 hl
        cases h
        have h1 := ih _ _ _ hl
        have h2 := rdO_len hb
        refine ⟨by simp; omega, fun o ho => ?_⟩
        rcases List.mem_cons.1 ho with rfl | ho
        · exact h2.2
        · have := h1.2 o ho; omega

/-- All is read: is anything left? -/
def finO : Except Nat (List Opx × List UInt8) → Except Nat (List Opx)
  | .error c => .error c
  | .ok (l, s) => if s = [] then .ok l else .error 1
theorem rdA_eq {s : List UInt8} (hl : s.length ≤ 20000) : rdA s = match (numS (.ok s)).2 with | .error c => .error c | .ok rest => finO (rdOs (numS (.ok s)).1 rest) := by
  rw [rdA, if_neg (by omega), numS_numD]
  cases Go.Sign.num s with
  | error c => rfl
  | ok x =>
    obtain ⟨n, r⟩ := x
    simp only
    cases rdOs n r with
    | error c => rfl
    | ok y => rfl
theorem rdA_short {s : List UInt8} {l : List Opx} (h : rdA s = .ok l) : l.length ≤ 20000 ∧ ∀ o ∈ l, o.data.size ≤ 20000 := by
  unfold rdA at h
  split at h
  · cases h
  · split at h
    · cases h
    · rename_i n s1 h1
      have := num_lenD h1
      split at h
      · cases h
      · rename_i l' s2 h2
        split at h
        · cases h
          have hh := rdOs_len _ _ _ _ h2
          exact ⟨by omega, fun o ho => by have := hh.2 o ho; omega⟩
        · cases h

/-- How far the ops are read. -/
def InvO (A : Except Nat (List Opx)) (N n i : Nat) (l : List Opx) : St → Prop
  | .error c => A = .error c
  | .ok rest => i = l.length ∧ A = finO (aheadO l (rdOs (n - i) rest)) ∧ rest.length + i ≤ N
theorem InvO.step {A : Except Nat (List Opx)} {N n i : Nat} {l : List Opx} {rest : List UInt8} (h : InvO A N n i l (.ok rest)) (hi : i < n) : InvO A N n (i + 1) (l ++ [(rdOpS (.ok rest)).1]) (rdOpS (.ok rest)).2 := by
  obtain ⟨h1, h2, h3⟩ := h
  obtain ⟨k, hk⟩ : ∃ k, n - i = k + 1 := ⟨n - i - 1, by omega⟩
  rw [hk] at h2
  cases hr : rdO rest with
  | error c =>
    rw [Go.Delta.aheadO_error hr] at h2
    rw [rdOpS_error hr]
    exact h2
  | ok x =>
    obtain ⟨b, s1⟩ := x
    rw [rdOpS_ok hr]
    rw [Go.Delta.aheadO_ok hr] at h2
    have := rdO_len hr
    refine ⟨by simp [h1], ?_, by omega⟩
    rw [show n - (i + 1) = k by omega]
    exact h2
theorem rdOpS_len (st : St) : lenS (rdOpS st).2 ≤ lenS st := by
  unfold rdOpS
  split
  · exact Nat.le_trans (numS_len _) (Nat.le_trans (numS_len _) (numS_len _))
  · split
    · exact Nat.le_trans (textS_len _) (numS_len _)
    · simp [lenS]

/-- What read answers. -/
def OReadRes (e : EV) (base : Nat) (w' : World) (r : Ending) : Except Nat (List Opx) → Prop
  | .ok l => ∃ v, r = .returned (.tuple #[v, .nilIface]) ∧ w'.ownsRow base 44 4 v l.length (ocs l)
  | .error c => ∃ a n cap, r = .returned (.tuple #[.slice a n cap, errV e c]) ∧ (c = 1 ∨ c = 2)
theorem oread_end {A : Except Nat (List Opx)} {N n i : Nat} {l : List Opx} {st : St} {e : EV} {base : Nat} {w' : World} {v : Value} (h : InvO A N n i l st) (hc : ∀ c, st = .error c → c = 1 ∨ c = 2) (hi : ∀ r, st = .ok r → n ≤ i)
    (hown : w'.ownsRow base 44 4 v l.length (ocs l)) : OReadRes e base w' (.returned (.tuple #[v, errV e (endC st)])) A := by
  have hf : ∃ a n cap, v = .slice a n cap := by
    rcases hown.2 with ⟨rfl, _⟩ | ⟨g, c, cur, rfl, _⟩
    · exact ⟨_, _, _, rfl⟩
    · exact ⟨_, _, _, rfl⟩
  obtain ⟨a, m, cap, rfl⟩ := hf
  cases st with
  | error c =>
    have h' : A = .error c := h
    subst h'
    exact ⟨a, m, cap, rfl, hc c rfl⟩
  | ok rest =>
    obtain ⟨_, h2, _⟩ := h
    rw [show n - i = 0 by have := hi rest rfl; omega, rdOs, aheadO, List.append_nil, finO] at h2
    rw [show endC (.ok rest) = if rest = [] then 0 else 1 from rfl]
    by_cases hr : rest = []
    · rw [if_pos hr] at h2 ⊢
      subst h2
      exact ⟨_, rfl, hown⟩
    · rw [if_neg hr] at h2 ⊢
      subst h2
      exact ⟨a, m, cap, rfl, Or.inl rfl⟩

theorem erBelowAt {e : EV} {k : Nat} {w0 w w' : World} (h0 : Er e w0) (hk : w0.heap.size ≤ k) (h : Er e w) (hb : Below k w w') : Er e w' :=
  ⟨(hb.cell (Nat.lt_of_lt_of_le (World.block_lt_of_cell? _ _ h0.text) hk)).trans h.text, (hb.cell (Nat.lt_of_lt_of_le (World.block_lt_of_cell? _ _ h0.bound) hk)).trans h.bound, (hb.cell (Nat.lt_of_lt_of_le (World.block_lt_of_cell? _ _ h0.full) hk)).trans h.full⟩

set_option maxHeartbeats 1000000 in
set_option maxRecDepth 100000 in
theorem oread_long (e : EV) (s : ByteArray) (w : World) (hs : s.size ≤ 1000000) (hl : 20000 < s.size) (he : Er e w) :
    Calls Tryz.prog 32 #[.string s] w fun r w' => OReadRes e w.heap.size w' r (rdA s.data.toList) ∧ Below w.heap.size w w' := by
  have hA : rdA s.data.toList = .error 2 := by rw [rdA, if_pos (by rw [lenL]; exact hl)]
  rw [hA]
  have hs' : (s.size : Int) ≤ 1000000 := by omega
  have hl' : (20000 : Int) < s.size := by omega
  have hB := he.bound
  clear he hA
  go_enter Tryz.func32, Tryz.ntmps32
  go_wp2_with fail
  go_quiet (fail)
  go_wp2
  go_ret2
  exact ⟨⟨none, 0, 0, rfl, Or.inr rfl⟩, (Below.refl _ _).trans ⟨rfl, rfl, rfl, Nat.le_refl _, fun _ _ => rfl⟩⟩

set_option maxHeartbeats 2000000 in
set_option maxRecDepth 100000 in
theorem oread_main (e : EV) (s : ByteArray) (w : World) (hs : s.size ≤ 20000) (he : Er e w) :
    Calls Tryz.prog 32 #[.string s] w fun r w' => OReadRes e w.heap.size w' r (rdA s.data.toList) ∧ Below w.heap.size w w' := by
  obtain ⟨i0, hi, hz0, hz1, hz2⟩ := info_parts Tryz.info44
  have hs' : (s.size : Int) ≤ 20000 := by omega
  have hsl : lenS (.ok s.data.toList) ≤ 1000000 := by rw [lenS, lenL]; omega
  have HA := hide (fun W (a : RdSt e w.heap.size W (.ok s.data.toList)) (b : Er e W) => numSt e w.heap.size (.ok s.data.toList) W a hsl b)
  have l1 := numS_le (.ok s.data.toList)
  have HI : Hid (InvO (rdA s.data.toList) s.size (numS (.ok s.data.toList)).1 0 [] (numS (.ok s.data.toList)).2) := by
    have hlen : lenS (numS (.ok s.data.toList)).2 ≤ s.size := Nat.le_trans (numS_len _) (by rw [lenS, lenL]; exact Nat.le_refl _)
    have hA := rdA_eq (s := s.data.toList) (by rw [lenL]; exact hs)
    cases hx : (numS (.ok s.data.toList)).2 with
    | error c => rw [hx] at hA; exact hA
    | ok rest =>
      rw [hx] at hA hlen
      refine ⟨rfl, ?_, by simpa [lenS] using hlen⟩
      rw [hA, Nat.sub_zero, Go.Delta.aheadO_nil]
  have HE0 := hide (fun W W' (a : Er e W) (b : W.grownBy W' (some w.heap.size)) => Er.grown he (Nat.le_refl _) a b)
  have HEB := hide (fun k W W' (hk : w.heap.size ≤ k) (a : Er e W) (b : Below k W W') => erBelowAt he hk a b)
  have HR := hide (fun st W (h : RdSt e w.heap.size W st) (hl : lenS st ≤ 1000000) (h2 : Er e W) => readOp_ok e w.heap.size st w W he (Nat.le_refl _) h hl h2)
  have HE := hide he
  generalize rdA s.data.toList = A at *
  generalize numS (.ok s.data.toList) = x1 at *
  obtain ⟨n, st2⟩ := x1
  simp only at l1 HA HI
  have hn : (n : Int) ≤ 1099511627776 := by omega
  clear he
  go_enter Tryz.func32, Tryz.ntmps32
  go_wp2_with fail
  refine (newR_ok s _).mono ?_
  rintro r w1 ⟨rfl, h1⟩
  have hf := RdAt.fresh w s
  have hb : Below w.heap.size w (w.alloc (.cells #[.string s, .nilIface] 130)) := (Below.refl _ _).alloc (Nat.le_refl _) _
  rw [h1] at hf hb
  have Hf := hide hf
  have Hb := hide hb
  have HE1 := hide (HE.out.below hb)
  clear hf hb h1 HE
  go_wp2_with fail
  refine (HA.out _ ⟨s, rfl, Hf.out⟩ HE1.out).mono ?_
  rintro r w3 ⟨rfl, h3, hg3⟩
  have H3 := hide h3
  have HE3 := hide (HE0.out _ _ HE1.out hg3)
  have Hb3 := hide (Hb.out.trans (grow_below hg3 Hf.out.lt))
  clear h3 hg3 Hf Hb HE1 HA
  go_wp2_with fail
  go_loopw [6, 7] (fun t6 t7 wr => ∃ (i : Nat) (l : List Opx) (st : St), t7 = .int .i64 i ∧ i ≤ n ∧ l.length ≤ s.size + 1 ∧ Hid (wr.ownsRow (w.heap.size + 1) 44 4 t6 l.length (ocs l)) ∧ Hid (RdSt e w.heap.size wr st) ∧ Hid (Er e wr) ∧ Hid (Below w.heap.size w wr) ∧ Hid (InvO A s.size n i l st)) (fun _ t7 _ => n - (intOf t7).toNat)
  case atStart => exact ⟨0, [], st2, rfl, by omega, by simp, World.ownsRow_nil _ _ _ _, H3.out, HE3.out, Hb3.out, HI.out⟩
  case round =>
    clear H3 HE3 Hb3 HI
    obtain ⟨i, l, st, rfl, hin, hll, Hown, Hst, HE, Hb, HI⟩ := hrel
    by_cases hlt : i < n
    · have hlt' : (i : Int) < n := by omega
      cases st with
      | error c =>
        obtain ⟨hc, hrd⟩ := Hst.out
        obtain ⟨tc, xc, ev⟩ := errV_form e c (by omega)
        rw [ev] at hrd
        have Hrd := hide hrd
        have Hc := hide hc
        clear hrd hc ev
        go_wp2_with fail
        refine (err_ok _ _ _ _ Hrd.out).mono ?_
        rintro r w4 ⟨rfl, rfl⟩
        go_wp2_with fail
        refine (endSt e w.heap.size (.error c) _ Hst.out HE.out).mono ?_
        rintro r w9 ⟨rfl, hg9⟩
        have Hb9 := hide (Hb.out.trans (grow_below hg9 Hst.out.lt))
        have Hown9 := hide (own_grown Hown.out hg9)
        clear hg9
        go_wp2
        go_ret2
        exact ⟨oread_end HI.out (fun c' h => by cases h; exact Hc.out) (fun r h => by cases h) (own_mono Hown9.out (by omega)), Hb9.out⟩
      | ok rest =>
        obtain ⟨sl, hsl, hrd⟩ := Hst.out
        have Hrd := hide hrd
        clear hrd hsl
        have hrl : rest.length + i ≤ s.size ∧ i = l.length := ⟨HI.out.2.2, HI.out.1⟩
        have HR' := hide (HR.out (.ok rest))
        have HI' := hide (HI.out.step hlt)
        unfold oval at HR'
        generalize rdOpS (.ok rest) = x at HR' HI'
        obtain ⟨bk, st'⟩ := x
        simp only at HR' HI'
        go_wp2_with fail
        refine (err_ok _ _ _ _ Hrd.out).mono ?_
        rintro r w4 ⟨rfl, rfl⟩
        go_wp2_with fail
        refine (HR'.out _ Hst.out (by simp only [lenS]; omega) HE.out).mono ?_
        rintro r w5 ⟨rfl, h5, hg5⟩
        have H5 := hide h5
        have Hown5 := hide (own_grown Hown.out hg5)
        have HE5 := hide (HE0.out _ _ HE.out hg5)
        have Hb5 := hide (Hb.out.trans (grow_below hg5 Hst.out.lt))
        clear h5 hg5 Hst Hrd HE Hb Hown HR' HI
        go_wp2_with (first | (at_builtin; refine wpList_append_own _ rfl (.tmp 26) (.tmp 29) 23 rfl (w.heap.size + 1) 44 i0 (.agg #[.string ⟨#[]⟩, .int .i64 0, .int .i64 0, .string ⟨#[]⟩]) 4 48 Tryz.underlying23 hi hz0 hz1 hz2 rfl (by decide) u6 l.length (ocs l) rfl ?own ⟨w5.heap.size, 0, none⟩ 1 1 [.string bk.kind, .int .i64 bk.at_, .int .i64 bk.n, .string bk.data] rfl rfl ?c1 ?c2 ?b1 ?b2 ?b3 ?next))
        case own => exact Hown5.out.alloc _
        case c1 => intro j u hj; match j, hj with | 0, hj | 1, hj | 2, hj | 3, hj => simp at hj; subst hj; simp [Addr.add]
        case c2 => intro u hu; simp at hu; rcases hu with rfl | rfl | rfl | rfl <;> rfl
        case b1 => unfold maxLen; omega
        case b2 => omega
        case b3 => have := H5.out.lt; simp; omega
        case next =>
          intro v6 w6 hown6 hgrow6 _
          have hb6 : Below (w.heap.size + 1) w5 w6 := ((Below.refl _ _).alloc H5.out.lt _).grown hgrow6 (by have := H5.out.lt; simp; omega) (fun k hk => (Hown5.out.lt k hk).1)
          have Hb6 := hide (Hb5.out.trans (hb6.mono (by omega)))
          have H6 := hide (H5.out.below' hb6)
          have HE6 := hide (HEB.out _ _ _ (by omega) HE5.out hb6)
          have Hown6 := hide hown6
          clear hb6 hown6 hgrow6 Hown5 Hb5 H5 HE5
          go_wp2_with fail
          go_roundw
          case rel =>
            refine ⟨i + 1, l ++ [bk], st', by go_num, by omega, by simp; omega, ?_, H6.out, HE6.out, Hb6.out, HI'.out⟩
            have h := Hown6.out
            rw [show [Value.string bk.kind, .int .i64 bk.at_, .int .i64 bk.n, .string bk.data] = ocells bk from rfl, ← ocs_snoc] at h
            simpa [Hid] using h
          case measure => simp [intOf]; omega
    · have hle : (n : Int) ≤ (i : Int) := by omega
      go_wp2_with fail
      refine (endSt e w.heap.size st _ Hst.out HE.out).mono ?_
      rintro r w9 ⟨rfl, hg9⟩
      have Hb9 := hide (Hb.out.trans (grow_below hg9 Hst.out.lt))
      have Hown9 := hide (own_grown Hown.out hg9)
      clear hg9
      go_wp2
      go_ret2
      exact ⟨oread_end HI.out (fun c' h => by subst h; exact Hst.out.1) (fun r h => by omega) (own_mono Hown9.out (by omega)), Hb9.out⟩

theorem oread_ok (e : EV) (s : ByteArray) (w : World) (hs : s.size ≤ 1000000) (he : Er e w) :
    Calls Tryz.prog 32 #[.string s] w fun r w' => OReadRes e w.heap.size w' r (rdA s.data.toList) ∧ Below w.heap.size w w' := by
  by_cases hl : 20000 < s.size
  · exact oread_long e s w hs hl he
  · exact oread_main e s w (by omega) he

/-- What Read answers. -/
def ORdRes (e : OV) (base : Nat) (w' : World) (r : Ending) : Except Nat (List Opx) → Prop
  | .ok l => ∃ v, r = .returned (.tuple #[v, .nilIface]) ∧ w'.ownsRow base 44 4 v l.length (ocs l)
  | .error c => r = .returned (.tuple #[.slice none 0 0, errO e c]) ∧ (c = 1 ∨ c = 2 ∨ c = 3 ∨ c = 4)

set_option maxHeartbeats 1000000 in
set_option maxRecDepth 100000 in
theorem oRead_ok (e : OV) (s : ByteArray) (w : World) (hs : s.size ≤ 1000000) (he : OEr e w) :
    Calls Tryz.prog 16 #[.string s] w fun r w' => ORdRes e w.heap.size w' r (rdD s.data.toList) ∧ Below w.heap.size w w' := by
  have HR := hide (oread_ok e.e s w hs he.er)
  have HL : Hid (∀ l, rdA s.data.toList = .ok l → l.length ≤ 1000000 ∧ Short l) := fun l h => ⟨by have := rdA_short h; omega, fun o ho => by have := (rdA_short h).2 o ho; omega⟩
  have HE := hide he
  have ES : Hid (rdD s.data.toList = match rdA s.data.toList with | .error c => .error c | .ok l => if (Go.Delta.faultO l).1 = 0 then .ok l else .error (Go.Delta.faultO l).1) := rfl
  generalize rdD s.data.toList = S at *
  generalize rdA s.data.toList = A at *
  clear he
  cases A with
  | error c =>
    have hS : S = .error c := ES.out
    subst hS
    clear ES HL
    go_enter Tryz.func16, Tryz.ntmps16
    go_wp2_with fail
    refine HR.out.mono ?_
    rintro r w1 ⟨⟨a, n, cap, rfl, hc⟩, hb1⟩
    obtain ⟨t, x, ev⟩ := errV_form e.e c (by omega)
    have ev2 : errO e c = .iface t x := by rcases hc with rfl | rfl <;> exact ev
    have Hev := hide ev2
    have Hc := hide hc
    have Hb1 := hide hb1
    rw [ev]
    clear ev ev2 hb1 hc
    go_wp2
    go_ret2
    exact ⟨⟨by rw [Hev.out]; rfl, Hc.out.elim Or.inl (fun h => Or.inr (Or.inl h))⟩, Hb1.out⟩
  | ok l =>
    have hS := ES.out
    simp only at hS
    obtain ⟨hl, hsh⟩ := HL.out l rfl
    have HS := hide hS
    clear ES HL hS
    go_enter Tryz.func16, Tryz.ntmps16
    go_wp2_with fail
    refine HR.out.mono ?_
    rintro r w1 ⟨⟨v, rfl, hown⟩, hb1⟩
    have HW := hide (owrong_ok v l e w1 (ORow.of_own hown) hl hsh (HE.out.below hb1))
    have Hb1 := hide hb1
    have Hown := hide hown
    have hf : ∃ a cap, v = .slice a l.length cap := by
      rcases hown.2 with ⟨rfl, h⟩ | ⟨g, c, cur, rfl, _⟩
      · exact ⟨none, 0, by rw [h]⟩
      · exact ⟨_, _, rfl⟩
    obtain ⟨a, cap, rfl⟩ := hf
    clear hb1 hown hsh
    unfold Go.Delta.faultO at HS
    cases hx : Go.Delta.scanO l 0 with
    | none =>
      rw [hx] at HS HW
      have hS := HS.out
      simp only [if_true] at hS
      subst hS
      simp only [owrongOut] at HW
      rw [show errO e 0 = .nilIface from rfl] at HW
      clear HS hx
      go_wp2_with fail
      refine HW.out.mono ?_
      rintro r w2 ⟨rfl, hb2⟩
      have Hb2 := hide (bthen Hb1.out hb2)
      have Hown2 := hide (own_below Hown.out hb2)
      clear hb2 HW Hown Hb1
      go_wp2
      go_ret2
      exact ⟨⟨_, rfl, Hown2.out⟩, Hb2.out⟩
    | some q =>
      obtain ⟨i, c⟩ := q
      have hc := (Go.Delta.scanO_code _ _ _ _ hx).1
      rw [hx] at HS HW
      have hS := HS.out
      simp only at hS
      rw [if_neg (by omega)] at hS
      subst hS
      obtain ⟨t, x, ev⟩ := errO_form e c (by omega)
      simp only [owrongOut] at HW
      rw [ev] at HW
      have Hev := hide ev
      have Hc := hide hc
      clear ev HS hx hc
      go_wp2_with fail
      refine HW.out.mono ?_
      rintro r w2 ⟨rfl, hb2⟩
      have Hb2 := hide (bthen Hb1.out hb2)
      clear hb2 HW Hb1
      go_wp2
      go_ret2
      exact ⟨⟨by rw [Hev.out]; rfl, Or.inr Hc.out⟩, Hb2.out⟩
end Go.Proofs.YtgogjncamjbajacGreatDoor

namespace Go.Proofs.YtgogjncamjbajacGreatDoor
open Go.RowKit
open Go.Delta (Opx)

set_option maxHeartbeats 2000000 in
set_option maxRecDepth 100000 in
theorem sameOps_ok (v u : Value) (l : List Opx) (w : World) (hv : ORow w v l) (hu : ORow w u l) (hl : l.length ≤ 1000000) :
    Calls Tryz.prog 10 #[v, u] w fun r w' => r = .returned (.bool true) ∧ Below w.heap.size w w' := by
  obtain ⟨a, c, rfl, hv⟩ := hv
  obtain ⟨a', c', rfl, hu⟩ := hu
  have HV := hide hv
  have HU := hide hu
  have hl' : (l.length : Int) ≤ 1000000 := by omega
  clear hv hu
  go_enter Tryz.func10, Tryz.ntmps10
  go_wp2_with fail
  go_loopw [5] (fun t wr => ∃ j : Nat, t = .int .i64 j ∧ j ≤ l.length ∧ Hid (Below w.heap.size w wr)) (fun t _ => l.length - (intOf t).toNat)
  case atStart => exact ⟨0, rfl, by omega, Below.refl _ _⟩
  case round =>
    obtain ⟨j, rfl, hj, Hb⟩ := hrel
    by_cases hlt : j < l.length
    · have hlt' : (j : Int) < l.length := by omega
      obtain ⟨b, o, rfl, hc⟩ := HV.out (by omega)
      obtain ⟨b', o', rfl, hc'⟩ := HU.out (by omega)
      obtain ⟨c0, c1, c2, c3⟩ := hc j hlt
      obtain ⟨e0, e1, e2, e3⟩ := hc' j hlt
      have d0 := (Hb.out.cell (World.block_lt_of_cell? _ _ c0)).trans c0
      have d1 := (Hb.out.cell (World.block_lt_of_cell? _ _ c1)).trans c1
      have d2 := (Hb.out.cell (World.block_lt_of_cell? _ _ c2)).trans c2
      have d3 := (Hb.out.cell (World.block_lt_of_cell? _ _ c3)).trans c3
      have g0 := (Hb.out.cell (World.block_lt_of_cell? _ _ e0)).trans e0
      have g1 := (Hb.out.cell (World.block_lt_of_cell? _ _ e1)).trans e1
      have g2 := (Hb.out.cell (World.block_lt_of_cell? _ _ e2)).trans e2
      have g3 := (Hb.out.cell (World.block_lt_of_cell? _ _ e3)).trans e3
      clear hc hc' c0 c1 c2 c3 e0 e1 e2 e3
      generalize l[j] = op at *
      go_wp2_with fail
      go_quiet (fail)
      go_wp2
      go_roundw
      case rel => exact ⟨j + 1, by go_num, by omega, Hb.out.trans ⟨rfl, rfl, rfl, Nat.le_refl _, fun _ _ => rfl⟩⟩
      case measure => simp [intOf]; omega
    · have hle : (l.length : Int) ≤ (j : Int) := by omega
      go_wp2_with fail
      go_ret
      exact ⟨rfl, Hb.out⟩
end Go.Proofs.YtgogjncamjbajacGreatDoor

namespace Go.Proofs.YtgogjncamjbajacGreatDoor
open Go.RowKit
open Go.Sign (Blk)

set_option maxHeartbeats 2000000 in
set_option maxRecDepth 100000 in
theorem findOf_ok (v : Value) (l : List Blk) (s : ByteArray) (w : World) (hv : RowIn w v l) (hl : l.length ≤ 1000000) (hs : s.size ≤ 1000000) :
    Calls Tryz.prog 25 #[v, .string s] w fun r w' => r = .returned (.int .i64 (findOut l (blk s.data.toList))) ∧ Below w.heap.size w w' := by
  have HW := hide (fun W => weakOf_ok s W hs)
  have HS := hide (fun W => sumOf_ok s W hs)
  obtain ⟨a, c, rfl, hv⟩ := hv
  have HV := hide hv
  have hl' : (l.length : Int) ≤ 1000000 := by omega
  have hs' : (s.size : Int) ≤ 1000000 := by omega
  have hcl := Go.Crc.crc_lt 0 s.data.toList (by decide)
  clear hv
  have hbk : blk s.data.toList = ⟨s.size, wk s.data.toList, Go.Crc.crc 0 s.data.toList⟩ := by unfold blk; rw [lenL]
  rw [hbk]
  clear hbk
  generalize wk s.data.toList = k at *
  generalize Go.Crc.crc 0 s.data.toList = q at *
  have hq1 : (q : Int) % 4294967296 = (q : Int) := by omega
  have hq2 : (q : Int) < 4294967296 := by omega
  clear hcl
  unfold findOut
  generalize hR : findFrom ⟨s.size, k, q⟩ l 0 = R
  have HR := hide hR
  clear hR
  go_enter Tryz.func25, Tryz.ntmps25
  go_wp2_with fail
  refine (HW.out _).mono ?_
  rintro r w1 ⟨rfl, rfl⟩
  go_wp2_with fail
  refine (HS.out _).mono ?_
  rintro r w2 ⟨rfl, rfl⟩
  go_wp2_with fail
  go_loop [7] (fun t => ∃ j : Nat, t = .int .i64 j ∧ j ≤ l.length ∧ Hid (findFrom ⟨s.size, k, q⟩ (l.drop j) j = R)) (fun t => l.length - (intOf t).toNat)
  case atStart => exact ⟨0, rfl, by omega, HR.out⟩
  case round =>
    clear HR
    obtain ⟨j, rfl, hj, Hf⟩ := hrel
    by_cases hlt : j < l.length
    · have hlt' : (j : Int) < l.length := by omega
      obtain ⟨g, o, rfl, hc⟩ := HV.out (by omega)
      obtain ⟨c0, c1, c2⟩ := hc j hlt
      have Hs := hide (find_step ⟨s.size, k, q⟩ l j hlt)
      rw [Hf.out] at Hs
      have Heq := hide (bval_eq l[j] ⟨s.size, k, q⟩)
      clear hc Hf HV
      generalize l[j] = x at *
      by_cases e0 : x.n = s.size
      · by_cases e1 : x.weak = k
        · by_cases e2 : x.strong = q
          · have hR : R = (j : Int) := by rw [Hs.out, if_pos (Heq.out.2 ⟨e0, e1, e2⟩)]
            subst hR
            have g0 : (x.n == (s.size : Int)) = true := by simp [e0]
            have g1 : (x.weak == k) = true := by simp [e1]
            have g2 : ((x.strong : Int) == (q : Int)) = true := by simp [e2]
            clear e0 e1 e2 Hs Heq
            go_wp2_with fail
            go_ret
            exact ⟨rfl, Below.refl _ _⟩
          · have Hn : Hid (findFrom ⟨s.size, k, q⟩ (l.drop (j + 1)) (j + 1) = R) := by rw [Hs.out, if_neg (fun h => e2 (Heq.out.1 h).2.2)]; exact rfl
            have g0 : (x.n == (s.size : Int)) = true := by simp [e0]
            have g1 : (x.weak == k) = true := by simp [e1]
            have g2 : ((x.strong : Int) == (q : Int)) = false := by simp; omega
            clear e0 e1 e2 Hs Heq
            go_wp2_with fail
            go_round
            case rel => exact ⟨j + 1, by go_num, by omega, Hn.out⟩
            case measure => simp [intOf]; omega
        · have Hn : Hid (findFrom ⟨s.size, k, q⟩ (l.drop (j + 1)) (j + 1) = R) := by rw [Hs.out, if_neg (fun h => e1 (Heq.out.1 h).2.1)]; exact rfl
          have g0 : (x.n == (s.size : Int)) = true := by simp [e0]
          have g1 : (x.weak == k) = false := by simp [e1]
          clear e0 e1 Hs Heq
          go_wp2_with fail
          go_round
          case rel => exact ⟨j + 1, by go_num, by omega, Hn.out⟩
          case measure => simp [intOf]; omega
      · have Hn : Hid (findFrom ⟨s.size, k, q⟩ (l.drop (j + 1)) (j + 1) = R) := by rw [Hs.out, if_neg (fun h => e0 (Heq.out.1 h).1)]; exact rfl
        have g0 : (x.n == (s.size : Int)) = false := by simp [e0]
        clear e0 Hs Heq
        go_wp2_with fail
        go_round
        case rel => exact ⟨j + 1, by go_num, by omega, Hn.out⟩
        case measure => simp [intOf]; omega
    · have hle : (l.length : Int) ≤ (j : Int) := by omega
      have hR : R = -1 := by rw [← Hf.out, List.drop_eq_nil_of_le (by omega), findFrom]
      subst hR
      go_wp2_with fail
      go_ret
      exact ⟨rfl, Below.refl _ _⟩

/-- Cells of a slice that reads as blocks, one by one. -/
theorem RowIn.news {w : World} {a : Option Addr} {c : Nat} {l : List Blk} (h : RowIn w (.slice a l.length c) l) (hp : 0 < l.length) : ∃ b o, a = some ⟨b, o, none⟩ ∧ ∀ j u, (bcs l)[j]? = some u → w.cell? ((⟨b, o, none⟩ : Addr).add j) = some u := by
  obtain ⟨a', c', e, h⟩ := h
  obtain ⟨b, o, rfl, hc⟩ := h hp
  have ea : a = some ⟨b, o, none⟩ := by simp at e; exact e.1
  refine ⟨b, o, ea, fun j u hu => ?_⟩
  rw [Go.WideShapes.add_plain]
  have hj : j < l.length * 3 := by
    have := (List.getElem?_eq_some_iff.1 hu).1
    rw [bcs_length] at this
    exact this
  have hd : j / 3 < l.length := by omega
  obtain ⟨g0, g1, g2⟩ := bcs_get l (j / 3) hd
  obtain ⟨c0, c1, c2⟩ := hc (j / 3) hd
  rcases (show j = j / 3 * 3 ∨ j = j / 3 * 3 + 1 ∨ j = j / 3 * 3 + 2 by omega) with e | e | e
  · rw [← e] at g0
    rw [g0] at hu
    cases hu
    rw [← e] at c0
    exact c0
  · rw [← e] at g1
    rw [g1] at hu
    cases hu
    rw [Nat.add_assoc, ← e] at c1
    exact c1
  · rw [← e] at g2
    rw [g2] at hu
    cases hu
    rw [Nat.add_assoc, ← e] at c2
    exact c2

set_option maxHeartbeats 1000000 in
set_option maxRecDepth 100000 in
theorem ownBlocks_ok (v : Value) (l : List Blk) (w : World) (hv : RowIn w v l) (hl : l.length ≤ 1000) :
    Calls Tryz.prog 7 #[v] w fun r w' => ∃ u, r = .returned u ∧ RowIn w' u l ∧ Below w.heap.size w w' := by
  obtain ⟨i0, hi, hz0, hz1, hz2⟩ := info_parts Tryz.info75
  have hv' := hv
  obtain ⟨a, c, rfl, _⟩ := hv'
  by_cases hp : 0 < l.length
  · obtain ⟨b, o, rfl, hn⟩ := hv.news hp
    have Hn := hide hn
    clear hn hv
    go_enter Tryz.func7, Tryz.ntmps7
    go_wp2_with (first | (at_builtin; refine wpList_append_own _ rfl (.tmp 4) (.tmp 5) 22 rfl w.heap.size 75 i0 (.agg #[.int .i64 0, .int .i64 0, .int .u32 0]) 3 24 Tryz.underlying22 hi hz0 hz1 hz2 rfl (by decide) (.slice none 0 0) 0 [] rfl ?own ⟨b, o, none⟩ l.length c (bcs l) rfl ?c0 ?c1 ?c2 ?b1 ?b2 ?b3 ?next))
    case own => exact World.ownsRow_nil _ _ _ _
    case c0 => exact bcs_length l
    case c1 => exact Hn.out
    case c2 => intro u hu; simp only [bcs, List.mem_flatMap, bcells] at hu; obtain ⟨x, _, hu⟩ := hu; simp at hu; rcases hu with rfl | rfl | rfl <;> rfl
    case b1 => unfold maxLen; omega
    case b2 => omega
    case b3 => exact Nat.le_refl _
    case next =>
      intro v5 w5 hown5 hgrow5 _
      have Hb5 := hide ((Below.refl w.heap.size w).grown hgrow5 (Nat.le_refl _) (fun k hk => by cases hk))
      have Hown5 := hide hown5
      clear hown5 hgrow5
      go_wp2_with fail
      go_ret
      refine ⟨_, rfl, ?_, Hb5.out⟩
      have h := Hown5.out
      exact RowIn.of_own h
  · have hz : l = [] := by cases l with
      | nil => rfl
      | cons x r => simp at hp
    subst hz
    clear hv
    rename_i hrest
    clear hrest hp
    simp only [List.length_nil]
    cases a with
    | none =>
      go_enter Tryz.func7, Tryz.ntmps7
      go_wp2
      go_ret
      exact ⟨_, rfl, ⟨none, 0, rfl, fun h => by simp at h⟩, Below.refl _ _⟩
    | some ad =>
      go_enter Tryz.func7, Tryz.ntmps7
      go_wp2_with (first | (at_builtin; refine wpList_append_own _ rfl (.tmp 4) (.tmp 5) 22 rfl w.heap.size 75 i0 (.agg #[.int .i64 0, .int .i64 0, .int .u32 0]) 3 24 Tryz.underlying22 hi hz0 hz1 hz2 rfl (by decide) (.slice none 0 0) 0 [] rfl ?own ad 0 c [] rfl rfl ?c1 ?c2 ?b1 ?b2 ?b3 ?next))
      case own => exact World.ownsRow_nil _ _ _ _
      case c1 => intro j u hu; simp at hu
      case c2 => intro u hu; cases hu
      case b1 => unfold maxLen; omega
      case b2 => omega
      case b3 => exact Nat.le_refl _
      case next =>
        intro v5 w5 hown5 hgrow5 _
        have Hb5 := hide ((Below.refl w.heap.size w).grown hgrow5 (Nat.le_refl _) (fun k hk => by cases hk))
        have Hown5 := hide hown5
        clear hown5 hgrow5
        go_wp2_with fail
        go_ret
        exact ⟨_, rfl, RowIn.of_own (l := []) Hown5.out, Hb5.out⟩
end Go.Proofs.YtgogjncamjbajacGreatDoor
