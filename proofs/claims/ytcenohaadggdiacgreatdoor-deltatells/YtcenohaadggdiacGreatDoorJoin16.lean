/-
  Contracts of delta.read, Read over this dump: every text.
  Contract of the document's SameOps over this dump, at ops that are the same; of ownOps.
  Contracts of the document's answer for sums that roll (WeakOf, RollOf, JoinWeak) over this dump.
  Contracts of the document's answer for sums of all (shift, MoreOf, SumOf, JoinSums) over this dump.
  Contracts of the document's SignFault, FindOf, and of OwnBlocks, over this dump.
-/
import Derived.Test.YtcenohaadggdiacGreatDoorJoin15
import Derived.Deep.QuietTactic
import Derived.BigQuiet
import Derived.Test.YtcenohaadggdiacGreatDoorJoin04
import Derived.Test.YtcenohaadggdiacGreatDoorJoin03
import Derived.Test.YtcenohaadggdiacGreatDoorJoin05
namespace Go.Proofs.YtcenohaadggdiacGreatDoor
open Go.RowKit
open Go.Delta (Opx copyOp dataOp rdO rdOs rdA rdD txt aheadO kCopy kData)

theorem num_lenD {s r : List UInt8} {n : Nat} (h : Go.Sign.num s = .ok (n, r)) : r.length + 1 ≤ s.length := by
  unfold Go.Sign.num at h
  split at h
  · rename_i n' k hd
    cases h
    have := dec_num hd
    rw [List.length_drop]; omega
  · cases h
theorem txt_len {s r d : List UInt8} (h : txt s = .ok (d, r)) : r.length + d.length + 1 ≤ s.length := by
  unfold txt at h
  split at h
  · cases h
  · rename_i n s1 h1
    have := num_lenD h1
    split at h
    · cases h
    · split at h
      · cases h
      · cases h
        simp; omega
theorem rdO_len {s s' : List UInt8} {o : Opx} (h : rdO s = .ok (o, s')) : s'.length + 1 ≤ s.length ∧ o.data.size ≤ s.length := by
  unfold rdO at h
  split at h
  · cases h
  · rename_i k s1 h1
    have := num_lenD h1
    split at h
    · split at h
      · cases h
      · rename_i d s2 h2
        have := txt_len h2
        cases h
        simp only [dataOp, str_len]; omega
    · split at h
      · split at h
        · cases h
        · rename_i a s2 h2
          have := num_lenD h2
          split at h
          · cases h
          · rename_i n s3 h3
            have := num_lenD h3
            cases h
            refine ⟨by omega, ?_⟩
            show (0 : Nat) ≤ _
            omega
      · cases h
theorem rdOs_len : ∀ (m : Nat) (s : List UInt8) (l : List Opx) (r : List UInt8), rdOs m s = .ok (l, r) → l.length ≤ s.length ∧ ∀ o ∈ l, o.data.size ≤ s.length := by
  intro m
  induction m with
  | zero => intro s l r h; cases h; simp
  | succ m ih =>
    intro s l r h
    rw [rdOs] at h
    split at h
    · cases h
    · rename_i b s1 hb
      split at h
      · cases h
      · rename_i l' s2 hl
        cases h
        have h1 := ih _ _ _ hl
        have h2 := rdO_len hb
        refine ⟨by simp; omega, fun o ho => ?_⟩
        rcases List.mem_cons.1 ho with rfl | ho
        · exact h2.2
        · have := h1.2 o ho; omega

/-- All is read: is anything left? -/
def finO : Except Nat (List Opx × List UInt8) → Except Nat (List Opx)
  | .error c => .error c
  | .ok (l, s) => if s = [] then .ok l else .error 1
theorem rdA_eq {s : List UInt8} (hl : s.length ≤ 20000) : rdA s = match (numS (.ok s)).2 with | .error c => .error c | .ok rest => finO (rdOs (numS (.ok s)).1 rest) := by
  rw [rdA, if_neg (by omega), numS_numD]
  cases Go.Sign.num s with
  | error c => rfl
  | ok x =>
    obtain ⟨n, r⟩ := x
    simp only
    cases rdOs n r with
    | error c => rfl
    | ok y => rfl
theorem rdA_short {s : List UInt8} {l : List Opx} (h : rdA s = .ok l) : l.length ≤ 20000 ∧ ∀ o ∈ l, o.data.size ≤ 20000 := by
  unfold rdA at h
  split at h
  · cases h
  · split at h
    · cases h
    · rename_i n s1 h1
      have := num_lenD h1
      split at h
      · cases h
      · rename_i l' s2 h2
        split at h
        · cases h
          have hh := rdOs_len _ _ _ _ h2
          exact ⟨by omega, fun o ho => by have := hh.2 o ho; omega⟩
        · cases h

/-- How far the ops are read. -/
def InvO (A : Except Nat (List Opx)) (N n i : Nat) (l : List Opx) : St → Prop
  | .error c => A = .error c
  | .ok rest => i = l.length ∧ A = finO (aheadO l (rdOs (n - i) rest)) ∧ rest.length + i ≤ N
theorem InvO.step {A : Except Nat (List Opx)} {N n i : Nat} {l : List Opx} {rest : List UInt8} (h : InvO A N n i l (.ok rest)) (hi : i < n) : InvO A N n (i + 1) (l ++ [(rdOpS (.ok rest)).1]) (rdOpS (.ok rest)).2 := by
  obtain ⟨h1, h2, h3⟩ := h
  obtain ⟨k, hk⟩ : ∃ k, n - i = k + 1 := ⟨n - i - 1, by omega⟩
  rw [hk] at h2
  cases hr : rdO rest with
  | error c =>
    rw [Go.Delta.aheadO_error hr] at h2
    rw [rdOpS_error hr]
    exact h2
  | ok x =>
    obtain ⟨b, s1⟩ := x
    rw [rdOpS_ok hr]
    rw [Go.Delta.aheadO_ok hr] at h2
    have := rdO_len hr
    refine ⟨by simp [h1], ?_, by omega⟩
    rw [show n - (i + 1) = k by omega]
    exact h2
theorem rdOpS_len (st : St) : lenS (rdOpS st).2 ≤ lenS st := by
  unfold rdOpS
  split
  · exact Nat.le_trans (numS_len _) (Nat.le_trans (numS_len _) (numS_len _))
  · split
    · exact Nat.le_trans (textS_len _) (numS_len _)
    · simp [lenS]

/-- What read answers. -/
def OReadRes (e : EV) (base : Nat) (w' : World) (r : Ending) : Except Nat (List Opx) → Prop
  | .ok l => ∃ v, r = .returned (.tuple #[v, .nilIface]) ∧ w'.ownsRow base 44 4 v l.length (ocs l)
  | .error c => ∃ a n cap, r = .returned (.tuple #[.slice a n cap, errV e c]) ∧ (c = 1 ∨ c = 2)
theorem oread_end {A : Except Nat (List Opx)} {N n i : Nat} {l : List Opx} {st : St} {e : EV} {base : Nat} {w' : World} {v : Value} (h : InvO A N n i l st) (hc : ∀ c, st = .error c → c = 1 ∨ c = 2) (hi : ∀ r, st = .ok r → n ≤ i)
    (hown : w'.ownsRow base 44 4 v l.length (ocs l)) : OReadRes e base w' (.returned (.tuple #[v, errV e (endC st)])) A := by
  have hf : ∃ a n cap, v = .slice a n cap := by
    rcases hown.2 with ⟨rfl, _⟩ | ⟨g, c, cur, rfl, _⟩
    · exact ⟨_, _, _, rfl⟩
    · exact ⟨_, _, _, rfl⟩
  obtain ⟨a, m, cap, rfl⟩ := hf
  cases st with
  | error c =>
    have h' : A = .error c := h
    subst h'
    exact ⟨a, m, cap, rfl, hc c rfl⟩
  | ok rest =>
    obtain ⟨_, h2, _⟩ := h
    rw [show n - i = 0 by have := hi rest rfl; omega, rdOs, aheadO, List.append_nil, finO] at h2
    rw [show endC (.ok rest) = if rest = [] then 0 else 1 from rfl]
    by_cases hr : rest = []
    · rw [if_pos hr] at h2 ⊢
      subst h2
      exact ⟨_, rfl, hown⟩
    · rw [if_neg hr] at h2 ⊢
      subst h2
      exact ⟨a, m, cap, rfl, Or.inl rfl⟩

theorem erBelowAt {e : EV} {k : Nat} {w0 w w' : World} (h0 : Er e w0) (hk : w0.heap.size ≤ k) (h : Er e w) (hb : Below k w w') : Er e w' :=
  ⟨(hb.cell (Nat.lt_of_lt_of_le (World.block_lt_of_cell? _ _ h0.text) hk)).trans h.text, (hb.cell (Nat.lt_of_lt_of_le (World.block_lt_of_cell? _ _ h0.bound) hk)).trans h.bound, (hb.cell (Nat.lt_of_lt_of_le (World.block_lt_of_cell? _ _ h0.full) hk)).trans h.full⟩

set_option maxHeartbeats 1000000 in
set_option maxRecDepth 100000 in
theorem oread_long (e : EV) (s : ByteArray) (w : World) (hs : s.size ≤ 1000000) (hl : 20000 < s.size) (he : Er e w) :
    Calls Tryz.prog 32 #[.string s] w fun r w' => OReadRes e w.heap.size w' r (rdA s.data.toList) ∧ Below w.heap.size w w' := by
  have hA : rdA s.data.toList = .error 2 := by rw [rdA, if_pos (by rw [lenL]; exact hl)]
  rw [hA]
  have hs' : (s.size : Int) ≤ 1000000 := by omega
  have hl' : (20000 : Int) < s.size := by omega
  have hB := he.bound
  clear he hA
  go_enter Tryz.func32, Tryz.ntmps32
  go_wp2_with fail
  go_quiet (fail)
  go_wp2
  go_ret2
  exact ⟨⟨none, 0, 0, rfl, Or.inr rfl⟩, (Below.refl _ _).trans ⟨rfl, rfl, rfl, Nat.le_refl _, fun _ _ => rfl⟩⟩

set_option maxHeartbeats 2000000 in
set_option maxRecDepth 100000 in
theorem oread_main (e : EV) (s : ByteArray) (w : World) (hs : s.size ≤ 20000) (he : Er e w) :
    Calls Tryz.prog 32 #[.string s] w fun r w' => OReadRes e w.heap.size w' r (rdA s.data.toList) ∧ Below w.heap.size w w' := by
  obtain ⟨i0, hi, hz0, hz1, hz2⟩ := info_parts Tryz.info44
  have hs' : (s.size : Int) ≤ 20000 := by omega
  have hsl : lenS (.ok s.data.toList) ≤ 1000000 := by rw [lenS, lenL]; omega
  have HA := hide (fun W (a : RdSt e w.heap.size W (.ok s.data.toList)) (b : Er e W) => numSt e w.heap.size (.ok s.data.toList) W a hsl b)
  have l1 := numS_le (.ok s.data.toList)
  have HI : Hid (InvO (rdA s.data.toList) s.size (numS (.ok s.data.toList)).1 0 [] (numS (.ok s.data.toList)).2) := by
    have hlen : lenS (numS (.ok s.data.toList)).2 ≤ s.size := Nat.le_trans (numS_len _) (by rw [lenS, lenL]; exact Nat.le_refl _)
    have hA := rdA_eq (s := s.data.toList) (by rw [lenL]; exact hs)
    cases hx : (numS (.ok s.data.toList)).2 with
    | error c => rw [hx] at hA; exact hA
    | ok rest =>
      rw [hx] at hA hlen
      refine ⟨rfl, ?_, by simpa [lenS] using hlen⟩
      rw [hA, Nat.sub_zero, Go.Delta.aheadO_nil]
  have HE0 := hide (fun W W' (a : Er e W) (b : W.grownBy W' (some w.heap.size)) => Er.grown he (Nat.le_refl _) a b)
  have HEB := hide (fun k W W' (hk : w.heap.size ≤ k) (a : Er e W) (b : Below k W W') => erBelowAt he hk a b)
  have HR := hide (fun st W (h : RdSt e w.heap.size W st) (hl : lenS st ≤ 1000000) (h2 : Er e W) => readOp_ok e w.heap.size st w W he (Nat.le_refl _) h hl h2)
  have HE := hide he
  generalize rdA s.data.toList = A at *
  generalize numS (.ok s.data.toList) = x1 at *
  obtain ⟨n, st2⟩ := x1
  simp only at l1 HA HI
  have hn : (n : Int) ≤ 1099511627776 := by omega
  clear he
  go_enter Tryz.func32, Tryz.ntmps32
  go_wp2_with fail
  refine (newR_ok s _).mono ?_
  rintro r w1 ⟨rfl, h1⟩
  have hf := RdAt.fresh w s
  have hb : Below w.heap.size w (w.alloc (.cells #[.string s, .nilIface] 130)) := (Below.refl _ _).alloc (Nat.le_refl _) _
  rw [h1] at hf hb
  have Hf := hide hf
  have Hb := hide hb
  have HE1 := hide (HE.out.below hb)
  clear hf hb h1 HE
  go_wp2_with fail
  refine (HA.out _ ⟨s, rfl, Hf.out⟩ HE1.out).mono ?_
  rintro r w3 ⟨rfl, h3, hg3⟩
  have H3 := hide h3
  have HE3 := hide (HE0.out _ _ HE1.out hg3)
  have Hb3 := hide (Hb.out.trans (grow_below hg3 Hf.out.lt))
  clear h3 hg3 Hf Hb HE1 HA
  go_wp2_with fail
  go_loopw [6, 7] (fun t6 t7 wr => ∃ (i : Nat) (l : List Opx) (st : St), t7 = .int .i64 i ∧ i ≤ n ∧ l.length ≤ s.size + 1 ∧ Hid (wr.ownsRow (w.heap.size + 1) 44 4 t6 l.length (ocs l)) ∧ Hid (RdSt e w.heap.size wr st) ∧ Hid (Er e wr) ∧ Hid (Below w.heap.size w wr) ∧ Hid (InvO A s.size n i l st)) (fun _ t7 _ => n - (intOf t7).toNat)
  case atStart => exact ⟨0, [], st2, rfl, by omega, by simp, World.ownsRow_nil _ _ _ _, H3.out, HE3.out, Hb3.out, HI.out⟩
  case round =>
    clear H3 HE3 Hb3 HI
    obtain ⟨i, l, st, rfl, hin, hll, Hown, Hst, HE, Hb, HI⟩ := hrel
    by_cases hlt : i < n
    · have hlt' : (i : Int) < n := by omega
      cases st with
      | error c =>
        obtain ⟨hc, hrd⟩ := Hst.out
        obtain ⟨tc, xc, ev⟩ := errV_form e c (by omega)
        rw [ev] at hrd
        have Hrd := hide hrd
        have Hc := hide hc
        clear hrd hc ev
        go_wp2_with fail
        refine (err_ok _ _ _ _ Hrd.out).mono ?_
        rintro r w4 ⟨rfl, rfl⟩
        go_wp2_with fail
        refine (endSt e w.heap.size (.error c) _ Hst.out HE.out).mono ?_
        rintro r w9 ⟨rfl, hg9⟩
        have Hb9 := hide (Hb.out.trans (grow_below hg9 Hst.out.lt))
        have Hown9 := hide (own_grown Hown.out hg9)
        clear hg9
        go_wp2
        go_ret2
        exact ⟨oread_end HI.out (fun c' h => by cases h; exact Hc.out) (fun r h => by cases h) (own_mono Hown9.out (by omega)), Hb9.out⟩
      | ok rest =>
        obtain ⟨sl, hsl, hrd⟩ := Hst.out
        have Hrd := hide hrd
        clear hrd hsl
        have hrl : rest.length + i ≤ s.size ∧ i = l.length := ⟨HI.out.2.2, HI.out.1⟩
        have HR' := hide (HR.out (.ok rest))
        have HI' := hide (HI.out.step hlt)
        unfold oval at HR'
        generalize rdOpS (.ok rest) = x at HR' HI'
        obtain ⟨bk, st'⟩ := x
        simp only at HR' HI'
        go_wp2_with fail
        refine (err_ok _ _ _ _ Hrd.out).mono ?_
        rintro r w4 ⟨rfl, rfl⟩
        go_wp2_with fail
        refine (HR'.out _ Hst.out (by simp only [lenS]; omega) HE.out).mono ?_
        rintro r w5 ⟨rfl, h5, hg5⟩
        have H5 := hide h5
        have Hown5 := hide (own_grown Hown.out hg5)
        have HE5 := hide (HE0.out _ _ HE.out hg5)
        have Hb5 := hide (Hb.out.trans (grow_below hg5 Hst.out.lt))
        clear h5 hg5 Hst Hrd HE Hb Hown HR' HI
        go_wp2_with (first | (at_builtin; refine wpList_append_own _ rfl (.tmp 26) (.tmp 29) 23 rfl (w.heap.size + 1) 44 i0 (.agg #[.string ⟨#[]⟩, .int .i64 0, .int .i64 0, .string ⟨#[]⟩]) 4 48 Tryz.underlying23 hi hz0 hz1 hz2 rfl (by decide) u6 l.length (ocs l) rfl ?own ⟨w5.heap.size, 0, none⟩ 1 1 [.string bk.kind, .int .i64 bk.at_, .int .i64 bk.n, .string bk.data] rfl rfl ?c1 ?c2 ?b1 ?b2 ?b3 ?next))
        case own => exact Hown5.out.alloc _
        case c1 => intro j u hj; match j, hj with | 0, hj | 1, hj | 2, hj | 3, hj => simp at hj; subst hj; simp [Addr.add]
        case c2 => intro u hu; simp at hu; rcases hu with rfl | rfl | rfl | rfl <;> rfl
        case b1 => unfold maxLen; omega
        case b2 => omega
        case b3 => have := H5.out.lt; simp; omega
        case next =>
          intro v6 w6 hown6 hgrow6 _
          have hb6 : Below (w.heap.size + 1) w5 w6 := ((Below.refl _ _).alloc H5.out.lt _).grown hgrow6 (by have := H5.out.lt; simp; omega) (fun k hk => (Hown5.out.lt k hk).1)
          have Hb6 := hide (Hb5.out.trans (hb6.mono (by omega)))
          have H6 := hide (H5.out.below' hb6)
          have HE6 := hide (HEB.out _ _ _ (by omega) HE5.out hb6)
          have Hown6 := hide hown6
          clear hb6 hown6 hgrow6 Hown5 Hb5 H5 HE5
          go_wp2_with fail
          go_roundw
          case rel =>
            refine ⟨i + 1, l ++ [bk], st', by go_num, by omega, by simp; omega, ?_, H6.out, HE6.out, Hb6.out, HI'.out⟩
            have h := Hown6.out
            rw [show [Value.string bk.kind, .int .i64 bk.at_, .int .i64 bk.n, .string bk.data] = ocells bk from rfl, ← ocs_snoc] at h
            simpa [Hid] using h
          case measure => simp [intOf]; omega
    · have hle : (n : Int) ≤ (i : Int) := by omega
      go_wp2_with fail
      refine (endSt e w.heap.size st _ Hst.out HE.out).mono ?_
      rintro r w9 ⟨rfl, hg9⟩
      have Hb9 := hide (Hb.out.trans (grow_below hg9 Hst.out.lt))
      have Hown9 := hide (own_grown Hown.out hg9)
      clear hg9
      go_wp2
      go_ret2
      exact ⟨oread_end HI.out (fun c' h => by subst h; exact Hst.out.1) (fun r h => by omega) (own_mono Hown9.out (by omega)), Hb9.out⟩

theorem oread_ok (e : EV) (s : ByteArray) (w : World) (hs : s.size ≤ 1000000) (he : Er e w) :
    Calls Tryz.prog 32 #[.string s] w fun r w' => OReadRes e w.heap.size w' r (rdA s.data.toList) ∧ Below w.heap.size w w' := by
  by_cases hl : 20000 < s.size
  · exact oread_long e s w hs hl he
  · exact oread_main e s w (by omega) he

/-- What Read answers. -/
def ORdRes (e : OV) (base : Nat) (w' : World) (r : Ending) : Except Nat (List Opx) → Prop
  | .ok l => ∃ v, r = .returned (.tuple #[v, .nilIface]) ∧ w'.ownsRow base 44 4 v l.length (ocs l)
  | .error c => r = .returned (.tuple #[.slice none 0 0, errO e c]) ∧ (c = 1 ∨ c = 2 ∨ c = 3 ∨ c = 4)

set_option maxHeartbeats 1000000 in
set_option maxRecDepth 100000 in
theorem oRead_ok (e : OV) (s : ByteArray) (w : World) (hs : s.size ≤ 1000000) (he : OEr e w) :
    Calls Tryz.prog 16 #[.string s] w fun r w' => ORdRes e w.heap.size w' r (rdD s.data.toList) ∧ Below w.heap.size w w' := by
  have HR := hide (oread_ok e.e s w hs he.er)
  have HL : Hid (∀ l, rdA s.data.toList = .ok l → l.length ≤ 1000000 ∧ Short l) := fun l h => ⟨by have := rdA_short h; omega, fun o ho => by have := (rdA_short h).2 o ho; omega⟩
  have HE := hide he
  have ES : Hid (rdD s.data.toList = match rdA s.data.toList with | .error c => .error c | .ok l => if (Go.Delta.faultO l).1 = 0 then .ok l else .error (Go.Delta.faultO l).1) := rfl
  generalize rdD s.data.toList = S at *
  generalize rdA s.data.toList = A at *
  clear he
  cases A with
  | error c =>
    have hS : S = .error c := ES.out
    subst hS
    clear ES HL
    go_enter Tryz.func16, Tryz.ntmps16
    go_wp2_with fail
    refine HR.out.mono ?_
    rintro r w1 ⟨⟨a, n, cap, rfl, hc⟩, hb1⟩
    obtain ⟨t, x, ev⟩ := errV_form e.e c (by omega)
    have ev2 : errO e c = .iface t x := by rcases hc with rfl | rfl <;> exact ev
    have Hev := hide ev2
    have Hc := hide hc
    have Hb1 := hide hb1
    rw [ev]
    clear ev ev2 hb1 hc
    go_wp2
    go_ret2
    exact ⟨⟨by rw [Hev.out]; rfl, Hc.out.elim Or.inl (fun h => Or.inr (Or.inl h))⟩, Hb1.out⟩
  | ok l =>
    have hS := ES.out
    simp only at hS
    obtain ⟨hl, hsh⟩ := HL.out l rfl
    have HS := hide hS
    clear ES HL hS
    go_enter Tryz.func16, Tryz.ntmps16
    go_wp2_with fail
    refine HR.out.mono ?_
    rintro r w1 ⟨⟨v, rfl, hown⟩, hb1⟩
    have HW := hide (owrong_ok v l e w1 (ORow.of_own hown) hl hsh (HE.out.below hb1))
    have Hb1 := hide hb1
    have Hown := hide hown
    have hf : ∃ a cap, v = .slice a l.length cap := by
      rcases hown.2 with ⟨rfl, h⟩ | ⟨g, c, cur, rfl, _⟩
      · exact ⟨none, 0, by rw [h]⟩
      · exact ⟨_, _, rfl⟩
    obtain ⟨a, cap, rfl⟩ := hf
    clear hb1 hown hsh
    unfold Go.Delta.faultO at HS
    cases hx : Go.Delta.scanO l 0 with
    | none =>
      rw [hx] at HS HW
      have hS := HS.out
      simp only [if_true] at hS
      subst hS
      simp only [owrongOut] at HW
      rw [show errO e 0 = .nilIface from rfl] at HW
      clear HS hx
      go_wp2_with fail
      refine HW.out.mono ?_
      rintro r w2 ⟨rfl, hb2⟩
      have Hb2 := hide (bthen Hb1.out hb2)
      have Hown2 := hide (own_below Hown.out hb2)
      clear hb2 HW Hown Hb1
      go_wp2
      go_ret2
      exact ⟨⟨_, rfl, Hown2.out⟩, Hb2.out⟩
    | some q =>
      obtain ⟨i, c⟩ := q
      have hc := (Go.Delta.scanO_code _ _ _ _ hx).1
      rw [hx] at HS HW
      have hS := HS.out
      simp only at hS
      rw [if_neg (by omega)] at hS
      subst hS
      obtain ⟨t, x, ev⟩ := errO_form e c (by omega)
      simp only [owrongOut] at HW
      rw [ev] at HW
      have Hev := hide ev
      have Hc := hide hc
      clear ev HS hx hc
      go_wp2_with fail
      refine HW.out.mono ?_
      rintro r w2 ⟨rfl, hb2⟩
      have Hb2 := hide (bthen Hb1.out hb2)
      clear hb2 HW Hb1
      go_wp2
      go_ret2
      exact ⟨⟨by rw [Hev.out]; rfl, Or.inr Hc.out⟩, Hb2.out⟩
end Go.Proofs.YtcenohaadggdiacGreatDoor

namespace Go.Proofs.YtcenohaadggdiacGreatDoor
open Go.RowKit
open Go.Delta (Opx)

set_option maxHeartbeats 2000000 in
set_option maxRecDepth 100000 in
theorem sameOps_ok (v u : Value) (l : List Opx) (w : World) (hv : ORow w v l) (hu : ORow w u l) (hl : l.length ≤ 1000000) :
    Calls Tryz.prog 10 #[v, u] w fun r w' => r = .returned (.bool true) ∧ Below w.heap.size w w' := by
  obtain ⟨a, c, rfl, hv⟩ := hv
  obtain ⟨a', c', rfl, hu⟩ := hu
  have HV := hide hv
  have HU := hide hu
  have hl' : (l.length : Int) ≤ 1000000 := by omega
  clear hv hu
  go_enter Tryz.func10, Tryz.ntmps10
  go_wp2_with fail
  go_loopw [5] (fun t wr => ∃ j : Nat, t = .int .i64 j ∧ j ≤ l.length ∧ Hid (Below w.heap.size w wr)) (fun t _ => l.length - (intOf t).toNat)
  case atStart => exact ⟨0, rfl, by omega, Below.refl _ _⟩
  case round =>
    obtain ⟨j, rfl, hj, Hb⟩ := hrel
    by_cases hlt : j < l.length
    · have hlt' : (j : Int) < l.length := by omega
      obtain ⟨b, o, rfl, hc⟩ := HV.out (by omega)
      obtain ⟨b', o', rfl, hc'⟩ := HU.out (by omega)
      obtain ⟨c0, c1, c2, c3⟩ := hc j hlt
      obtain ⟨e0, e1, e2, e3⟩ := hc' j hlt
      have d0 := (Hb.out.cell (World.block_lt_of_cell? _ _ c0)).trans c0
      have d1 := (Hb.out.cell (World.block_lt_of_cell? _ _ c1)).trans c1
      have d2 := (Hb.out.cell (World.block_lt_of_cell? _ _ c2)).trans c2
      have d3 := (Hb.out.cell (World.block_lt_of_cell? _ _ c3)).trans c3
      have g0 := (Hb.out.cell (World.block_lt_of_cell? _ _ e0)).trans e0
      have g1 := (Hb.out.cell (World.block_lt_of_cell? _ _ e1)).trans e1
      have g2 := (Hb.out.cell (World.block_lt_of_cell? _ _ e2)).trans e2
      have g3 := (Hb.out.cell (World.block_lt_of_cell? _ _ e3)).trans e3
      clear hc hc' c0 c1 c2 c3 e0 e1 e2 e3
      generalize l[j] = op at *
      go_wp2_with fail
      go_quiet (fail)
      go_wp2
      go_roundw
      case rel => exact ⟨j + 1, by go_num, by omega, Hb.out.trans ⟨rfl, rfl, rfl, Nat.le_refl _, fun _ _ => rfl⟩⟩
      case measure => simp [intOf]; omega
    · have hle : (l.length : Int) ≤ (j : Int) := by omega
      go_wp2_with fail
      go_ret
      exact ⟨rfl, Hb.out⟩
end Go.Proofs.YtcenohaadggdiacGreatDoor

namespace Go.Proofs.YtcenohaadggdiacGreatDoor
open Go.RowKit

/-- Each of the first i bytes times its place from the end. -/
def wc (l : List UInt8) (i : Nat) : Nat := Go.Weak.wb l - Go.Weak.wb (l.drop i)

theorem wb_drop_le (l : List UInt8) (i : Nat) : Go.Weak.wb (l.drop i) ≤ Go.Weak.wb l := by
  induction l generalizing i with
  | nil => simp
  | cons b r ih =>
    cases i with
    | zero => simp
    | succ i => rw [List.drop_succ_cons, Go.Weak.wb]; exact Nat.le_trans (ih i) (by omega)

theorem wc_succ (l : List UInt8) (i : Nat) (h : i < l.length) : wc l (i + 1) = wc l i + l[i].toNat * (l.length - i) := by
  have h1 := wb_drop_le l i
  have h2 := wb_drop_le l (i + 1)
  have e : Go.Weak.wb (l.drop i) = (l.length - i) * l[i].toNat + Go.Weak.wb (l.drop (i + 1)) := by
    rw [Go.Weak.drop_cons l i h, Go.Weak.wb, List.length_drop, show l.length - (i + 1) + 1 = l.length - i by omega]
  unfold wc
  rw [Nat.mul_comm l[i].toNat]
  omega

theorem wc_zero (l : List UInt8) : wc l 0 = 0 := by simp [wc]

theorem wc_all (l : List UInt8) : wc l l.length = Go.Weak.wb l := by simp [wc, Go.Weak.wb]

set_option maxHeartbeats 1000000 in
set_option maxRecDepth 100000 in
theorem weakOf_ok (s : ByteArray) (w : World) (hs : s.size ≤ 1000000) : Calls Tryz.prog 41 #[.string s] w fun r w' => r = .returned (.int .i64 (wk s.data.toList)) ∧ w' = w := by
  have hs' : (s.size : Int) ≤ 1000000 := by omega
  go_enter Tryz.func41, Tryz.ntmps41
  go_wp2_with fail
  go_loop [3, 4, 5] (fun t3 t4 t5 => ∃ (i a b : Nat), t5 = .int .i64 i ∧ i ≤ s.size ∧ t3 = .int .i64 a ∧ t4 = .int .i64 b ∧ a < 65536 ∧ b < 65536 ∧ Hid (a = Go.Weak.wa (s.data.toList.take i) % 65536) ∧ Hid (b = wc s.data.toList i % 65536)) (fun _ _ t5 => s.size - (intOf t5).toNat)
  case atStart => exact ⟨0, 0, 0, rfl, by omega, rfl, rfl, by omega, by omega, by simp [Hid, Go.Weak.wa], by simp [Hid, wc_zero]⟩
  case round =>
    obtain ⟨i, a, b, rfl, hi, rfl, rfl, ha, hb, Ha, Hb⟩ := hrel
    have ha' : (a : Int) < 65536 := by omega
    have hb' : (b : Int) < 65536 := by omega
    by_cases hlt : i < s.size
    · have hlt' : (i : Int) < s.size := by omega
      have hx := byte_lt s[i]
      have e1 : (a + s[i].toNat) % 65536 = Go.Weak.wa (s.data.toList.take (i + 1)) % 65536 := by
        rw [takeL s i hlt, Go.Weak.wa_snoc, Ha.out]; omega
      have e2 : (b + s[i].toNat * (s.size - i)) % 65536 = wc s.data.toList (i + 1) % 65536 := by
        have h := wc_succ s.data.toList i (by rw [lenL]; exact hlt)
        rw [atL s i hlt, lenL] at h
        rw [h, Hb.out]; omega
      have e3 : ((s[i].toNat * (s.size - i) : Nat) : Int) = (s[i].toNat : Int) * ((s.size : Int) - i) := by
        rw [Int.natCast_mul, Int.natCast_sub hi]
      have hm : s[i].toNat * (s.size - i) ≤ 256 * 1000000 := Nat.mul_le_mul (by omega) (by omega)
      have hm0 : 0 ≤ (s[i].toNat : Int) * ((s.size : Int) - i) := by rw [← e3]; omega
      have hm1 : (s[i].toNat : Int) * ((s.size : Int) - i) ≤ 256000000 := by rw [← e3]; omega
      have E := hide (And.intro e1 (And.intro e2 e3))
      have hxi : (s[i].toNat : Int) < 256 := by omega
      clear e1 e2 e3 hx hm
      go_wp2_with fail
      go_round
      case rel =>
        obtain ⟨e1, e2, e3⟩ := E.out
        refine ⟨i + 1, (a + s[i].toNat) % 65536, (b + s[i].toNat * (s.size - i)) % 65536, by go_num, by omega, ?_, ?_, by omega, by omega, e1, e2⟩
        · show Value.int .i64 _ = Value.int .i64 _
          congr 1
        · show Value.int .i64 _ = Value.int .i64 _
          congr 1
          rw [← e3]
          omega
      case measure => simp [intOf]; omega
    · have hle : (s.size : Int) ≤ i := by omega
      have hie : i = s.size := by omega
      have hend : (a : Int) + 65536 * b = wk s.data.toList := by
        have h1 := Ha.out
        have h2 := Hb.out
        rw [hie, ← lenL s, List.take_length] at h1
        rw [hie, ← lenL s, wc_all] at h2
        unfold wk hA hB
        omega
      have Hend := hide hend
      clear hend hie
      go_wp2_with fail
      go_ret
      exact ⟨ret_int Hend.out, rfl⟩

theorem isWeak_ok (n : Int) (w : World) : Calls Tryz.prog 40 #[.int .i64 n] w fun r w' => r = .returned (.bool (decide (0 ≤ n ∧ n < 4294967296))) ∧ w' = w := by
  by_cases h0 : 0 ≤ n
  · go_enter Tryz.func40, Tryz.ntmps40
    go_wp2
    go_ret
    exact ⟨ret_bool (by simp [h0]), rfl⟩
  · have h0' : decide (0 ≤ n) = false := by simp; omega
    go_enter Tryz.func40, Tryz.ntmps40
    go_wp2
    go_ret
    exact ⟨ret_bool (by simp), rfl⟩
end Go.Proofs.YtcenohaadggdiacGreatDoor

namespace Go.Proofs.YtcenohaadggdiacGreatDoor
open Go.RowKit



set_option maxHeartbeats 1000000 in
theorem shift_ok (c : Nat) (w : World) (hc : c < 4294967296) : Calls Tryz.prog 87 #[.int .i64 c] w fun r w' => r = .returned (.int .i64 (Go.Crc.sh c : Nat)) ∧ w' = w := by
  rcases Nat.mod_two_eq_zero_or_one c with h | h
  · have h1 : ((c : Int) % 2 == 1) = false := by simp; omega
    have e : (c : Int) / 2 = (Go.Crc.sh c : Nat) := by unfold Go.Crc.sh; rw [h, Nat.mul_zero, Nat.xor_zero]; omega
    have E := hide e
    clear h e
    go_enter Tryz.func87, Tryz.ntmps87
    go_wp2_with fail
    go_ret
    exact ⟨ret_int E.out, rfl⟩
  · have h1 : ((c : Int) % 2 == 1) = true := by simp; omega
    have e : bits .xor .i64 ((c : Int) / 2) 3988292384 = (Go.Crc.sh c : Nat) := by
      rw [show (c : Int) / 2 = ((c / 2 : Nat) : Int) by omega, show (3988292384 : Int) = ((3988292384 : Nat) : Int) from rfl, i64_xor_nat _ _ (by omega) (by omega)]
      unfold Go.Crc.sh
      rw [h]
    have E := hide e
    clear h e
    go_enter Tryz.func87, Tryz.ntmps87
    go_wp2_with fail
    go_ret
    exact ⟨ret_int E.out, rfl⟩

theorem i64_not (c : Nat) (hc : c < 4294967296) : bits .xor .i64 (c : Int) 4294967295 = ((c ^^^ Go.Crc.ones : Nat) : Int) :=
  i64_xor_nat c Go.Crc.ones (by omega) (by decide)

set_option maxHeartbeats 1000000 in
set_option maxRecDepth 100000 in
theorem moreOf_ok (c : Nat) (s : ByteArray) (w : World) (hc : c < 4294967296) (hs : s.size ≤ 1000000) : Calls Tryz.prog 67 #[.int .i64 c, .string s] w fun r w' => r = .returned (.int .i64 (Go.Crc.crc c s.data.toList : Nat)) ∧ w' = w := by
  have hs' : (s.size : Int) ≤ 1000000 := by omega
  have hnot := i64_not c hc
  have hc1 : c ^^^ Go.Crc.ones < 2 ^ 32 := Nat.xor_lt_two_pow hc Go.Crc.ones_lt
  have Hc : Hid (Go.Crc.crc c s.data.toList = Go.Crc.run (c ^^^ Go.Crc.ones) s.data.toList ^^^ Go.Crc.ones) := rfl
  generalize c ^^^ Go.Crc.ones = d at *
  go_enter Tryz.func67, Tryz.ntmps67
  go_wp2_with fail
  go_loop [0, 5] (fun t0 t5 => ∃ i : Nat, t5 = .int .i64 i ∧ i ≤ s.size ∧ t0 = .int .i64 (Go.Crc.run d (s.data.toList.take i) : Nat)) (fun _ t5 => s.size - (intOf t5).toNat)
  case atStart => exact ⟨0, rfl, by omega, rfl⟩
  case round =>
    obtain ⟨i, rfl, hi, rfl⟩ := hrel
    have hx : Go.Crc.run d (s.data.toList.take i) < 2 ^ 32 := Go.Crc.run_lt _ _ hc1
    by_cases hlt : i < s.size
    · have hlt' : (i : Int) < s.size := by omega
      have hb := byte_lt s[i]
      have hn := Go.Crc.run_snoc d (s.data.toList.take i) s[i]
      rw [← takeL s i hlt] at hn
      have He := hide hn
      clear hn
      generalize Go.Crc.run d (s.data.toList.take i) = x at *
      have hxb : x ^^^ s[i].toNat < 2 ^ 32 := Nat.xor_lt_two_pow hx (by omega)
      have hxe : bits .xor .i64 (x : Int) (s[i].toNat : Int) = ((x ^^^ s[i].toNat : Nat) : Int) := i64_xor_nat _ _ (by omega) (by omega)
      generalize x ^^^ s[i].toNat = y at *
      go_wp2_with fail
      go_loop [0, 6] (fun t0 t6 => ∃ j : Nat, t6 = .int .i64 j ∧ j ≤ 8 ∧ t0 = .int .i64 (Go.Crc.shs j y : Nat)) (fun _ t6 => 8 - (intOf t6).toNat)
      case atStart => exact ⟨0, rfl, by omega, rfl⟩
      case round =>
        obtain ⟨j, rfl, hj, rfl⟩ := hrel
        have hz := Go.Crc.shs_lt j y hxb
        by_cases hlj : j < 8
        · have hlj' : (j : Int) < 8 := by omega
          have HS := hide (fun W => shift_ok (Go.Crc.shs j y) W hz)
          have Hn : Hid (Go.Crc.sh (Go.Crc.shs j y) = Go.Crc.shs (j + 1) y) := rfl
          generalize Go.Crc.shs j y = z at *
          go_wp2_with fail
          refine (HS.out _).mono ?_
          rintro e w1 ⟨rfl, rfl⟩
          go_wp2_with fail
          go_round
          case rel => exact ⟨j + 1, by go_num, by omega, by rw [Hn.out]⟩
          case measure => simp [intOf]; omega
        · have hlj' : (8 : Int) ≤ j := by omega
          obtain rfl : j = 8 := by omega
          go_wp2_with fail
          go_round
          case rel => exact ⟨i + 1, by go_num, by omega, by rw [He.out]⟩
          case measure => simp [intOf]; omega
    · have hle : (s.size : Int) ≤ i := by omega
      obtain rfl : i = s.size := by omega
      have ht : s.data.toList.take s.size = s.data.toList := by rw [← lenL s, List.take_length]
      rw [ht] at hx ⊢
      have hn2 := i64_not _ hx
      rw [← Hc.out] at hn2
      clear ht Hc
      generalize Go.Crc.run d s.data.toList = x at *
      go_wp2_with fail
      go_ret
      exact ⟨rfl, rfl⟩

set_option maxHeartbeats 1000000 in
theorem sumOf_ok (s : ByteArray) (w : World) (hs : s.size ≤ 1000000) : Calls Tryz.prog 42 #[.string s] w fun r w' => r = .returned (.int .i64 (Go.Crc.crc 0 s.data.toList : Nat)) ∧ w' = w := by
  have H := hide (fun W => moreOf_ok 0 s W (by omega) hs)
  generalize Go.Crc.crc 0 s.data.toList = x at *
  go_enter Tryz.func42, Tryz.ntmps42
  go_wp2_with fail
  refine (H.out _).mono ?_
  rintro e w1 ⟨rfl, rfl⟩
  go_wp2_with fail
  go_ret
  exact ⟨rfl, rfl⟩
end Go.Proofs.YtcenohaadggdiacGreatDoor

namespace Go.Proofs.YtcenohaadggdiacGreatDoor
open Go.RowKit
open Go.Sign (Blk)

theorem fits_false {size : Int} {last : Bool} {b : Blk} (h : ¬ (1 ≤ b.n ∧ b.n ≤ size ∧ (0 ≤ b.weak ∧ b.weak < 4294967296)) ∨ (b.n < size ∧ last = false)) (h1 : 1 ≤ size) : Go.Sign.fits size last b = false := by
  rw [← Bool.not_eq_true]
  intro hf
  have hb := Go.Sign.fits_bounds hf h1
  rcases h with h | ⟨h, rfl⟩
  · exact h ⟨hb.1, hb.2.1, hb.2.2⟩
  · simp [Go.Sign.fits] at hf
    omega
theorem fits_true {size : Int} {last : Bool} {b : Blk} (h0 : 1 ≤ b.n) (h1 : b.n ≤ size) (h2 : 0 ≤ b.weak ∧ b.weak < 4294967296) (h3 : b.n < size → last = true) : Go.Sign.fits size last b = true := by
  simp only [Go.Sign.fits, Bool.and_eq_true, Bool.or_eq_true, beq_iff_eq, decide_eq_true_eq]
  refine ⟨?_, h2⟩
  by_cases he : b.n = size
  · exact Or.inl he
  · exact Or.inr ⟨⟨h3 (by omega), h0⟩, by omega⟩

set_option maxHeartbeats 1000000 in
set_option maxRecDepth 100000 in
theorem sfault_size (a : Option Addr) (n c : Nat) (size : Int) (w : World) (hs : ¬ (1 ≤ size ∧ size ≤ 64)) :
    Calls Tryz.prog 23 #[.slice a n c, .int .i64 size] w fun r w' => r = .returned (.agg #[.int .i64 2, .int .i64 (-1)]) ∧ Below w.heap.size w w' := by
  have HB := hide (fun W => bare_ok 2 W)
  by_cases h0 : size < 1
  · have h0' : decide (size < 1) = true := by simp; omega
    clear hs
    go_enter Tryz.func23, Tryz.ntmps23
    go_wp2_with fail
    refine (HB.out _).mono ?_
    rintro r w2 ⟨rfl, hb2⟩
    have hq2 := (HvAt.fresh w 0 0 32).below hb2 (by simp)
    have Hq2 := hide hq2
    have Hb2 := hide (((Below.refl w.heap.size w).alloc (Nat.le_refl _) (.cells #[.int .i64 0, .int .i64 0] 32)).trans (hb2.mono (by simp)))
    clear hb2
    obtain ⟨q0, q1, p0, p1, qlt⟩ := hq2
    go_wp2_with fail
    (try simp only [Exit.inBlock, Exit.then])
    refine bodyPost_ret (v := .agg #[.int .i64 2, .int .i64 (-1)]) ?_ rfl ⟨rfl, (Hb2.out.setCell (by simp) _).setCell (by simp) _⟩
    obtain ⟨x0, x1, _, _, _⟩ := Hq2.out.set 2 (-1)
    simp only [results, show Tryz.f23.results = #[.cell 4 32] from rfl]
    go_simp
  · have h0' : decide (size < 1) = false := by simp; omega
    have h1' : decide ((64 : Int) < size) = true := by simp; omega
    clear hs
    go_enter Tryz.func23, Tryz.ntmps23
    go_wp2_with fail
    refine (HB.out _).mono ?_
    rintro r w2 ⟨rfl, hb2⟩
    have hq2 := (HvAt.fresh w 0 0 32).below hb2 (by simp)
    have Hq2 := hide hq2
    have Hb2 := hide (((Below.refl w.heap.size w).alloc (Nat.le_refl _) (.cells #[.int .i64 0, .int .i64 0] 32)).trans (hb2.mono (by simp)))
    clear hb2
    obtain ⟨q0, q1, p0, p1, qlt⟩ := hq2
    go_wp2_with fail
    (try simp only [Exit.inBlock, Exit.then])
    refine bodyPost_ret (v := .agg #[.int .i64 2, .int .i64 (-1)]) ?_ rfl ⟨rfl, (Hb2.out.setCell (by simp) _).setCell (by simp) _⟩
    obtain ⟨x0, x1, _, _, _⟩ := Hq2.out.set 2 (-1)
    simp only [results, show Tryz.f23.results = #[.cell 4 32] from rfl]
    go_simp

set_option maxHeartbeats 2000000 in
set_option maxRecDepth 100000 in
theorem sfault_scan (v : Value) (l : List Blk) (size : Int) (w : World) (hv : RowIn w v l) (hs : 1 ≤ size ∧ size ≤ 64) (hl : l.length ≤ 1000000) :
    Calls Tryz.prog 23 #[v, .int .i64 size] w fun r w' => r = .returned (.agg #[.int .i64 (wrongOut (Go.Sign.scanW size l 0 0)).2, .int .i64 (wrongOut (Go.Sign.scanW size l 0 0)).1]) ∧ Below w.heap.size w w' := by
  obtain ⟨a, c, rfl, hv⟩ := hv
  have HV := hide hv
  have hl' : (l.length : Int) ≤ 1000000 := by omega
  have s1 := hs.1
  have s2 := hs.2
  have s1' : decide (size < 1) = false := by simp; omega
  have s2' : decide ((64 : Int) < size) = false := by simp; omega
  clear hv hs
  generalize hR : Go.Sign.scanW size l 0 0 = R
  have HR := hide hR
  clear hR
  go_enter Tryz.func23, Tryz.ntmps23
  go_wp2_with fail
  have Hq := hide (HvAt.fresh w 0 0 32)
  have Hb0 := hide ((Below.refl w.heap.size w).alloc (Nat.le_refl _) (.cells #[.int .i64 0, .int .i64 0] 32))
  go_loopw [5, 6] (fun t5 t6 wr => ∃ (j : Nat) (all : Int), t6 = .int .i64 j ∧ t5 = .int .i64 all ∧ 0 ≤ all ∧ all ≤ 4000 ∧ j ≤ l.length ∧ Hid (Go.Sign.scanW size (l.drop j) j all = R) ∧ Hid (HvAt w.heap.size wr 0 0) ∧ Hid (Below w.heap.size w wr)) (fun _ t6 _ => l.length - (intOf t6).toNat)
  case atStart => exact ⟨0, 0, rfl, rfl, by omega, by omega, by omega, HR.out, Hq.out, Hb0.out⟩
  case round =>
    clear HR Hq Hb0
    obtain ⟨j, all, rfl, rfl, a0, a1, hj, Hsc, Hq, Hb⟩ := hrel
    obtain ⟨q0, q1, p0, p1, qlt⟩ := Hq.out
    by_cases hlt : j < l.length
    · have hlt' : (j : Int) < l.length := by omega
      obtain ⟨b, o, rfl, hc⟩ := HV.out (by omega)
      obtain ⟨c0, c1, c2⟩ := hc j hlt
      have d0 := (Hb.out.cell (World.block_lt_of_cell? _ _ c0)).trans c0
      have d1 := (Hb.out.cell (World.block_lt_of_cell? _ _ c1)).trans c1
      clear hc c0 c1 c2
      have Hs := hide (scan_step size l j all hlt)
      rw [Hsc.out] at Hs
      have HI := hide (fun W => isWeak_ok l[j].weak W)
      generalize l[j] = bk at *
      clear Hsc HV
      by_cases hbad : 1 ≤ bk.n ∧ bk.n ≤ size ∧ (0 ≤ bk.weak ∧ bk.weak < 4294967296)
      · obtain ⟨n0, n1, hw⟩ := hbad
        rw [show decide (0 ≤ bk.weak ∧ bk.weak < 4294967296) = true from decide_eq_true hw] at HI
        have g0 : decide (bk.n < 1) = false := by simp; omega
        have g1 : decide (size < bk.n) = false := by simp; omega
        by_cases hshort : bk.n < size ∧ j + 1 < l.length
        · have g2 : decide (bk.n < size) = true := by simp; omega
          have g3 : decide ((j : Int) < (l.length : Int) - 1) = true := by simp; omega
          have hR : R = some (j, 2) := by
            rw [Hs.out, if_neg (by rw [fits_false (Or.inr ⟨hshort.1, by simp; omega⟩) s1]; simp)]
          subst hR
          clear Hs hshort hw
          go_wp2_with fail
          refine (HI.out _).mono ?_
          rintro r w2 ⟨rfl, rfl⟩
          go_wp2_with fail
          (try simp only [Exit.inBlock, Exit.then])
          refine bodyPost_ret (v := .agg #[.int .i64 2, .int .i64 j]) ?_ rfl ⟨rfl, (Hb.out.setCell (by simp) _).setCell (by simp) _⟩
          obtain ⟨x0, x1, _, _, _⟩ := Hq.out.set 2 j
          simp only [results, show Tryz.f23.results = #[.cell 4 32] from rfl]
          go_simp
        · have hfit : Go.Sign.fits size (decide (j + 1 = l.length)) bk = true := fits_true n0 n1 hw (fun h => by simp; omega)
          have hR := Hs.out
          rw [if_pos hfit] at hR
          have n64 : bk.n ≤ 64 := by omega
          by_cases h4 : 4000 < all + bk.n
          · rw [if_pos h4] at hR
            subst hR
            clear Hs hfit
            by_cases hn : bk.n < size
            · have g2 : decide (bk.n < size) = true := by simp; omega
              have g3 : decide ((j : Int) < (l.length : Int) - 1) = false := by simp; omega
              clear hshort hw
              go_wp2_with fail
              refine (HI.out _).mono ?_
              rintro r w2 ⟨rfl, rfl⟩
              go_wp2_with fail
              (try simp only [Exit.inBlock, Exit.then])
              refine bodyPost_ret (v := .agg #[.int .i64 8, .int .i64 j]) ?_ rfl ⟨rfl, (Hb.out.setCell (by simp) _).setCell (by simp) _⟩
              obtain ⟨x0, x1, _, _, _⟩ := Hq.out.set 8 j
              simp only [results, show Tryz.f23.results = #[.cell 4 32] from rfl]
              go_simp
            · have g2 : decide (bk.n < size) = false := by simp; omega
              clear hshort hw
              go_wp2_with fail
              refine (HI.out _).mono ?_
              rintro r w2 ⟨rfl, rfl⟩
              go_wp2_with fail
              (try simp only [Exit.inBlock, Exit.then])
              refine bodyPost_ret (v := .agg #[.int .i64 8, .int .i64 j]) ?_ rfl ⟨rfl, (Hb.out.setCell (by simp) _).setCell (by simp) _⟩
              obtain ⟨x0, x1, _, _, _⟩ := Hq.out.set 8 j
              simp only [results, show Tryz.f23.results = #[.cell 4 32] from rfl]
              go_simp
          · rw [if_neg h4] at hR
            have HR := hide hR
            have h4' : all + bk.n ≤ 4000 := by omega
            clear Hs hfit hR h4
            by_cases hn : bk.n < size
            · have g2 : decide (bk.n < size) = true := by simp; omega
              have g3 : decide ((j : Int) < (l.length : Int) - 1) = false := by simp; omega
              clear hshort hw
              go_wp2_with fail
              refine (HI.out _).mono ?_
              rintro r w2 ⟨rfl, rfl⟩
              go_wp2_with fail
              go_roundw
              case rel => exact ⟨j + 1, all + bk.n, by go_num, by go_num, by omega, by omega, by omega, HR.out.symm, Hq.out, Hb.out⟩
              case measure => simp [intOf]; omega
            · have g2 : decide (bk.n < size) = false := by simp; omega
              clear hshort hw
              go_wp2_with fail
              refine (HI.out _).mono ?_
              rintro r w2 ⟨rfl, rfl⟩
              go_wp2_with fail
              go_roundw
              case rel => exact ⟨j + 1, all + bk.n, by go_num, by go_num, by omega, by omega, by omega, HR.out.symm, Hq.out, Hb.out⟩
              case measure => simp [intOf]; omega
      · have hR : R = some (j, 2) := by
          rw [Hs.out, if_neg (by rw [fits_false (Or.inl hbad) s1]; simp)]
        subst hR
        clear Hs
        by_cases g0 : bk.n < 1
        · have g0' : decide (bk.n < 1) = true := by simp; omega
          generalize decide (0 ≤ bk.weak ∧ bk.weak < 4294967296) = y at *
          clear hbad
          go_wp2_with fail
          refine (HI.out _).mono ?_
          rintro r w2 ⟨rfl, rfl⟩
          go_wp2_with fail
          (try simp only [Exit.inBlock, Exit.then])
          refine bodyPost_ret (v := .agg #[.int .i64 2, .int .i64 j]) ?_ rfl ⟨rfl, (Hb.out.setCell (by simp) _).setCell (by simp) _⟩
          obtain ⟨x0, x1, _, _, _⟩ := Hq.out.set 2 j
          simp only [results, show Tryz.f23.results = #[.cell 4 32] from rfl]
          go_simp
        · have g0' : decide (bk.n < 1) = false := by simp; omega
          by_cases g1 : size < bk.n
          · have g1' : decide (size < bk.n) = true := by simp; omega
            generalize decide (0 ≤ bk.weak ∧ bk.weak < 4294967296) = y at *
            clear hbad
            go_wp2_with fail
            refine (HI.out _).mono ?_
            rintro r w2 ⟨rfl, rfl⟩
            go_wp2_with fail
            (try simp only [Exit.inBlock, Exit.then])
            refine bodyPost_ret (v := .agg #[.int .i64 2, .int .i64 j]) ?_ rfl ⟨rfl, (Hb.out.setCell (by simp) _).setCell (by simp) _⟩
            obtain ⟨x0, x1, _, _, _⟩ := Hq.out.set 2 j
            simp only [results, show Tryz.f23.results = #[.cell 4 32] from rfl]
            go_simp
          · have g1' : decide (size < bk.n) = false := by simp; omega
            rw [show decide (0 ≤ bk.weak ∧ bk.weak < 4294967296) = false from decide_eq_false (fun h => hbad ⟨by omega, by omega, h⟩)] at HI
            clear hbad
            go_wp2_with fail
            refine (HI.out _).mono ?_
            rintro r w2 ⟨rfl, rfl⟩
            go_wp2_with fail
            (try simp only [Exit.inBlock, Exit.then])
            refine bodyPost_ret (v := .agg #[.int .i64 2, .int .i64 j]) ?_ rfl ⟨rfl, (Hb.out.setCell (by simp) _).setCell (by simp) _⟩
            obtain ⟨x0, x1, _, _, _⟩ := Hq.out.set 2 j
            simp only [results, show Tryz.f23.results = #[.cell 4 32] from rfl]
            go_simp
    · have hle : (l.length : Int) ≤ (j : Int) := by omega
      have he : R = none := by rw [← Hsc.out, List.drop_eq_nil_of_le (by omega), Go.Sign.scanW]
      subst he
      have HF := hide (fun W => fine_ok W)
      go_wp2_with fail
      refine (HF.out _).mono ?_
      rintro r w2 ⟨rfl, hb2⟩
      have hq2 := Hq.out.below hb2 qlt
      have Hq2 := hide hq2
      have Hb2 := hide (bthen Hb.out hb2)
      clear hb2 q0 q1 p0 p1 qlt
      obtain ⟨q0, q1, p0, p1, qlt⟩ := hq2
      go_wp2_with fail
      (try simp only [Exit.inBlock, Exit.then])
      refine bodyPost_ret (v := .agg #[.int .i64 0, .int .i64 (-1)]) ?_ rfl ⟨rfl, (Hb2.out.setCell (by simp) _).setCell (by simp) _⟩
      obtain ⟨x0, x1, _, _, _⟩ := Hq2.out.set 0 (-1)
      simp only [results, show Tryz.f23.results = #[.cell 4 32] from rfl]
      go_simp

theorem sfault_ok (v : Value) (l : List Blk) (size : Int) (w : World) (hv : RowIn w v l) (hl : l.length ≤ 1000000) :
    Calls Tryz.prog 23 #[v, .int .i64 size] w fun r w' => r = .returned (fval (Go.Sign.fault l size)) ∧ Below w.heap.size w w' := by
  unfold Go.Sign.fault
  by_cases hs : 1 ≤ size ∧ size ≤ 64
  · rw [if_pos hs]
    refine (sfault_scan v l size w hv hs hl).mono ?_
    rintro r w' ⟨rfl, hb⟩
    refine ⟨?_, hb⟩
    cases Go.Sign.scanW size l 0 0 <;> rfl
  · rw [if_neg hs]
    obtain ⟨a, c, rfl, _⟩ := hv
    exact sfault_size a _ c size w hs
end Go.Proofs.YtcenohaadggdiacGreatDoor
