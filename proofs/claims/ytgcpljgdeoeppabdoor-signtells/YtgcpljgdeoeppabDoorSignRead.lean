/-
  Contracts of sign.read, Read over this dump: every text.
-/
import Derived.Test.YtgcpljgdeoeppabDoorReadState
namespace Go.Proofs.YtgcpljgdeoeppabDoor
open Go.RowKit
open Go.Sign (Blk)

/-- All is read: is anything left? -/
def fin (size : Nat) : Except Nat (List Blk × List UInt8) → Except Nat (List Blk × Nat)
  | .error c => .error c
  | .ok (l, s) => if s = [] then .ok (l, size) else .error 1

theorem rdAll_ok {s rest : List UInt8} (h : (numS (numS (.ok s)).2).2 = .ok rest) : Go.Sign.rdAll s = fin (numS (.ok s)).1 (Go.Sign.rdBs (numS (numS (.ok s)).2).1 rest) := by
  have e1 := numS_num s
  unfold Go.Sign.rdAll
  split
  · rename_i c h1
    rw [h1] at e1
    simp only at e1
    rw [e1, numS_err] at h
    cases h
  · rename_i n s1 h1
    rw [h1] at e1
    have e2 := numS_num s1
    simp only at e1
    split
    · rename_i c h2
      rw [h2] at e2
      simp only at e2
      rw [e1] at h
      simp only at h
      rw [e2] at h
      cases h
    · rename_i m s2 h2
      rw [h2] at e2
      simp only at e2
      rw [e1] at h ⊢
      simp only at h ⊢
      rw [e2] at h ⊢
      simp only at h ⊢
      cases h
      cases Go.Sign.rdBs m rest with
      | error c => rfl
      | ok x => rfl
theorem rdAll_error {s : List UInt8} {c : Nat} (h : (numS (numS (.ok s)).2).2 = .error c) : Go.Sign.rdAll s = .error c := by
  have e1 := numS_num s
  unfold Go.Sign.rdAll
  split
  · rename_i c h1
    rw [h1] at e1
    simp only at e1
    rw [e1, numS_err] at h
    cases h
    rfl
  · rename_i n s1 h1
    rw [h1] at e1
    have e2 := numS_num s1
    simp only at e1
    split
    · rename_i c h2
      rw [h2] at e2
      simp only at e2
      rw [e1] at h
      simp only at h
      rw [e2] at h
      cases h
      rfl
    · rename_i m s2 h2
      rw [h2] at e2
      simp only at e2
      rw [e1] at h
      simp only at h
      rw [e2] at h
      cases h

theorem num_len {s r : List UInt8} {n : Nat} (h : Go.Sign.num s = .ok (n, r)) : r.length + 1 ≤ s.length := by
  unfold Go.Sign.num at h
  split at h
  · rename_i n' k hd
    cases h
    have := dec_num hd
    simp; omega
  · cases h
theorem rdB_len {s r : List UInt8} {b : Blk} (h : Go.Sign.rdB s = .ok (b, r)) : r.length + 3 ≤ s.length := by
  unfold Go.Sign.rdB at h
  split at h
  · cases h
  · rename_i a s1 h1
    split at h
    · cases h
    · rename_i k s2 h2
      split at h
      · cases h
      · rename_i c s3 h3
        split at h
        · cases h
        · cases h
          have := num_len h1; have := num_len h2; have := num_len h3
          omega

/-- Where the reading stands. -/
def InvR (A : Except Nat (List Blk × Nat)) (N size n i : Nat) (l : List Blk) : St → Prop
  | .ok rest => i = l.length ∧ A = fin size (Go.Sign.ahead l (Go.Sign.rdBs (n - i) rest)) ∧ rest.length + 3 * i ≤ N
  | .error c => A = .error c
theorem InvR.step {A : Except Nat (List Blk × Nat)} {N size n i : Nat} {l : List Blk} {rest : List UInt8} (h : InvR A N size n i l (.ok rest)) (hi : i < n) : InvR A N size n (i + 1) (l ++ [(rdBk (.ok rest)).1]) (rdBk (.ok rest)).2 := by
  obtain ⟨h1, h2, h3⟩ := h
  obtain ⟨k, hk⟩ : ∃ k, n - i = k + 1 := ⟨n - i - 1, by omega⟩
  rw [hk] at h2
  cases hr : Go.Sign.rdB rest with
  | error c =>
    rw [rdBk_error hr]
    rw [Go.Sign.ahead_error hr] at h2
    exact h2
  | ok x =>
    obtain ⟨b, s1⟩ := x
    rw [rdBk_ok hr]
    rw [Go.Sign.ahead_ok hr] at h2
    have := rdB_len hr
    refine ⟨by simp [h1], ?_, by omega⟩
    rw [show n - (i + 1) = k by omega]
    exact h2

theorem Er.belowAt {e : EV} {k : Nat} {w0 w w' : World} (h0 : Er e w0) (hk : w0.heap.size ≤ k) (h : Er e w) (hb : Below k w w') : Er e w' :=
  ⟨(hb.cell (Nat.lt_of_lt_of_le (World.block_lt_of_cell? _ _ h0.text) hk)).trans h.text, (hb.cell (Nat.lt_of_lt_of_le (World.block_lt_of_cell? _ _ h0.bound) hk)).trans h.bound, (hb.cell (Nat.lt_of_lt_of_le (World.block_lt_of_cell? _ _ h0.full) hk)).trans h.full⟩

/-- What read answers. -/
def ReadRes (e : EV) (base : Nat) (w' : World) (r : Ending) : Except Nat (List Blk × Nat) → Prop
  | .ok (l, size) => ∃ v, r = .returned (.tuple #[v, .int .i64 size, .nilIface]) ∧ w'.ownsRow base 60 3 v l.length (bcs l)
  | .error c => ∃ a n cap z, r = .returned (.tuple #[.slice a n cap, .int .i64 z, errV e c]) ∧ (c = 1 ∨ c = 2)

theorem read_end {A : Except Nat (List Blk × Nat)} {N size n i : Nat} {l : List Blk} {st : St} {e : EV} {base : Nat} {w' : World} {v : Value} (h : InvR A N size n i l st) (hc : ∀ c, st = .error c → c = 1 ∨ c = 2) (hi : ∀ r, st = .ok r → n ≤ i)
    (hown : w'.ownsRow base 60 3 v l.length (bcs l)) : ReadRes e base w' (.returned (.tuple #[v, .int .i64 size, errV e (endC st)])) A := by
  have hf : ∃ a n cap, v = .slice a n cap := by
    rcases hown.2 with ⟨rfl, _⟩ | ⟨g, c, cur, rfl, _⟩
    · exact ⟨_, _, _, rfl⟩
    · exact ⟨_, _, _, rfl⟩
  obtain ⟨a, m, cap, rfl⟩ := hf
  cases st with
  | error c =>
    have h' : A = .error c := h
    subst h'
    exact ⟨a, m, cap, size, rfl, hc c rfl⟩
  | ok rest =>
    obtain ⟨_, h2, _⟩ := h
    rw [show n - i = 0 by have := hi rest rfl; omega, Go.Sign.rdBs, Go.Sign.ahead, List.append_nil, fin] at h2
    rw [show endC (.ok rest) = if rest = [] then 0 else 1 from rfl]
    by_cases hr : rest = []
    · rw [if_pos hr] at h2 ⊢
      subst h2
      exact ⟨_, rfl, hown⟩
    · rw [if_neg hr] at h2 ⊢
      subst h2
      exact ⟨a, m, cap, size, rfl, Or.inl rfl⟩

set_option maxHeartbeats 2000000 in
set_option maxRecDepth 100000 in
theorem read_ok (e : EV) (s : ByteArray) (w : World) (hs : s.size ≤ 100000) (he : Er e w) :
    Calls Tryd.prog 45 #[.string s] w fun r w' => ReadRes e w.heap.size w' r (Go.Sign.rdAll s.data.toList) ∧ Below w.heap.size w w' := by
  obtain ⟨i0, hi, hz0, hz1, hz2⟩ := info_parts Tryd.info60
  have hsl : lenS (.ok s.data.toList) ≤ 1000000 := by rw [lenS, lenL]; omega
  have HA := hide (fun W (a : RdSt e w.heap.size W (.ok s.data.toList)) (b : Er e W) => numSt e w.heap.size (.ok s.data.toList) W a hsl b)
  have HB := hide (fun W (a : RdSt e w.heap.size W (numS (.ok s.data.toList)).2) (b : Er e W) => numSt e w.heap.size (numS (.ok s.data.toList)).2 W a (Nat.le_trans (numS_len _) hsl) b)
  have l1 := numS_le (.ok s.data.toList)
  have l2 := numS_le (numS (.ok s.data.toList)).2
  have HI : Hid (∀ c, InvR (Go.Sign.rdAll s.data.toList) s.size (numS (.ok s.data.toList)).1 (numS (numS (.ok s.data.toList)).2).1 0 [] (numS (numS (.ok s.data.toList)).2).2 ∨ c ≠ 0) := by
    intro c
    left
    have hlen : lenS (numS (numS (.ok s.data.toList)).2).2 ≤ s.size := Nat.le_trans (numS_len _) (Nat.le_trans (numS_len _) (by rw [lenS, lenL]; exact Nat.le_refl _))
    cases hx : (numS (numS (.ok s.data.toList)).2).2 with
    | error c => exact rdAll_error hx
    | ok rest =>
      rw [hx] at hlen
      refine ⟨rfl, ?_, by simpa [lenS] using hlen⟩
      rw [rdAll_ok hx, Nat.sub_zero, Go.Sign.ahead_nil]
  have HI := hide ((HI.out 0).resolve_right (by simp))
  have HE0 := hide (fun W W' (a : Er e W) (b : W.grownBy W' (some w.heap.size)) => Er.grown he (Nat.le_refl _) a b)
  have HEB := hide (fun k W W' (hk : w.heap.size ≤ k) (a : Er e W) (b : Below k W W') => Er.belowAt he hk a b)
  have HR := hide (fun st W (h : RdSt e w.heap.size W st) (hl : lenS st ≤ 1000000) (h2 : Er e W) => readBlock_ok e w.heap.size st w W he (Nat.le_refl _) h hl h2)
  have HE := hide he
  generalize Go.Sign.rdAll s.data.toList = A at *
  generalize numS (numS (.ok s.data.toList)).2 = x2 at *
  generalize numS (.ok s.data.toList) = x1 at *
  obtain ⟨size, st1⟩ := x1
  obtain ⟨n, st2⟩ := x2
  simp only at l1 l2 HA HB HI
  have hn : (n : Int) ≤ 1099511627776 := by omega
  clear he
  go_enter Tryd.func45, Tryd.ntmps45
  go_wp2_with fail
  refine (newR_ok s _).mono ?_
  rintro r w1 ⟨rfl, h1⟩
  have hf := RdAt.fresh w s
  have hb : Below w.heap.size w (w.alloc (.cells #[.string s, .nilIface] 119)) := (Below.refl _ _).alloc (Nat.le_refl _) _
  rw [h1] at hf hb
  have Hf := hide hf
  have Hb := hide hb
  have HE1 := hide (HE.out.below hb)
  clear hf hb h1 HE
  go_wp2_with fail
  refine (HA.out _ ⟨s, rfl, Hf.out⟩ HE1.out).mono ?_
  rintro r w2 ⟨rfl, h2, hg2⟩
  have H2 := hide h2
  have HE2 := hide (HE0.out _ _ HE1.out hg2)
  have Hb2 := hide (Hb.out.trans (grow_below hg2 Hf.out.lt))
  clear h2 hg2 Hf Hb HE1 HA
  go_wp2_with fail
  refine (HB.out _ H2.out HE2.out).mono ?_
  rintro r w3 ⟨rfl, h3, hg3⟩
  have H3 := hide h3
  have HE3 := hide (HE0.out _ _ HE2.out hg3)
  have Hb3 := hide (Hb2.out.trans (grow_below hg3 H2.out.lt))
  clear h3 hg3 H2 Hb2 HE2 HB
  go_wp2_with fail
  go_loopw [8, 9] (fun t8 t9 wr => ∃ (i : Nat) (l : List Blk) (st : St), t9 = .int .i64 i ∧ i ≤ n ∧ l.length ≤ s.size + 1 ∧ Hid (wr.ownsRow (w.heap.size + 1) 60 3 t8 l.length (bcs l)) ∧ Hid (RdSt e w.heap.size wr st) ∧ Hid (Er e wr) ∧ Hid (Below w.heap.size w wr) ∧ Hid (InvR A s.size size n i l st)) (fun _ t9 _ => n - (intOf t9).toNat)
  case atStart => exact ⟨0, [], st2, rfl, by omega, by simp, World.ownsRow_nil _ _ _ _, H3.out, HE3.out, Hb3.out, HI.out⟩
  case round =>
    clear H3 HE3 Hb3 HI
    obtain ⟨i, l, st, rfl, hin, hll, Hown, Hst, HE, Hb, HI⟩ := hrel
    by_cases hlt : i < n
    · have hlt' : (i : Int) < n := by omega
      cases st with
      | error c =>
        obtain ⟨hc, hrd⟩ := Hst.out
        obtain ⟨tc, xc, ev⟩ := errV_form e c (by omega)
        rw [ev] at hrd
        have Hrd := hide hrd
        have Hc := hide hc
        clear hrd hc ev
        go_wp2_with fail
        refine (err_ok _ _ _ _ Hrd.out).mono ?_
        rintro r w4 ⟨rfl, rfl⟩
        go_wp2_with fail
        refine (endSt e w.heap.size (.error c) _ Hst.out HE.out).mono ?_
        rintro r w9 ⟨rfl, hg9⟩
        have Hb9 := hide (Hb.out.trans (grow_below hg9 Hst.out.lt))
        have Hown9 := hide (own_grown Hown.out hg9)
        clear hg9
        go_wp2
        go_ret3
        exact ⟨read_end HI.out (fun c' h => by cases h; exact Hc.out) (fun r h => by cases h) (own_mono Hown9.out (by omega)), Hb9.out⟩
      | ok rest =>
        obtain ⟨sl, hsl, hrd⟩ := Hst.out
        have Hrd := hide hrd
        clear hrd hsl
        have hrl : rest.length + 3 * i ≤ s.size ∧ i = l.length := ⟨HI.out.2.2, HI.out.1⟩
        have HR' := hide (HR.out (.ok rest))
        have HI' := hide (HI.out.step hlt)
        unfold bval at HR'
        generalize rdBk (.ok rest) = x at HR' HI'
        obtain ⟨bk, st'⟩ := x
        simp only at HR' HI'
        go_wp2_with fail
        refine (err_ok _ _ _ _ Hrd.out).mono ?_
        rintro r w4 ⟨rfl, rfl⟩
        go_wp2_with fail
        refine (HR'.out _ Hst.out (by simp only [lenS]; omega) HE.out).mono ?_
        rintro r w5 ⟨rfl, h5, hg5⟩
        have H5 := hide h5
        have Hown5 := hide (own_grown Hown.out hg5)
        have HE5 := hide (HE0.out _ _ HE.out hg5)
        have Hb5 := hide (Hb.out.trans (grow_below hg5 Hst.out.lt))
        clear h5 hg5 Hst Hrd HE Hb Hown HR' HI
        go_wp2_with (first | (at_builtin; refine wpList_append_own _ rfl (.tmp 26) (.tmp 29) 35 rfl (w.heap.size + 1) 60 i0 (.agg #[.int .i64 0, .int .i64 0, .int .u32 0]) 3 24 Tryd.underlying35 hi hz0 hz1 hz2 rfl (by decide) u8 l.length (bcs l) rfl ?own ⟨w5.heap.size, 0, none⟩ 1 1 [.int .i64 bk.n, .int .i64 bk.weak, .int .u32 bk.strong] rfl rfl ?c1 ?c2 ?b1 ?b2 ?b3 ?next))
        case own => exact Hown5.out.alloc _
        case c1 => intro j u hj; match j, hj with | 0, hj | 1, hj | 2, hj => simp at hj; subst hj; simp [Addr.add]
        case c2 => intro u hu; simp at hu; rcases hu with rfl | rfl | rfl <;> rfl
        case b1 => unfold maxLen; omega
        case b2 => omega
        case b3 => have := H5.out.lt; simp; omega
        case next =>
          intro v6 w6 hown6 hgrow6 _
          have hb6 : Below (w.heap.size + 1) w5 w6 := ((Below.refl _ _).alloc H5.out.lt _).grown hgrow6 (by have := H5.out.lt; simp; omega) (fun k hk => (Hown5.out.lt k hk).1)
          have Hb6 := hide (Hb5.out.trans (hb6.mono (by omega)))
          have H6 := hide (H5.out.below' hb6)
          have HE6 := hide (HEB.out _ _ _ (by omega) HE5.out hb6)
          have Hown6 := hide hown6
          clear hb6 hown6 hgrow6 Hown5 Hb5 H5 HE5
          go_wp2_with fail
          go_roundw
          case rel =>
            refine ⟨i + 1, l ++ [bk], st', by go_num, by omega, by simp; omega, ?_, H6.out, HE6.out, Hb6.out, HI'.out⟩
            have h := Hown6.out
            rw [show [Value.int .i64 bk.n, .int .i64 bk.weak, .int .u32 bk.strong] = bcells bk from rfl, ← bcs_snoc] at h
            simpa [Hid] using h
          case measure => simp [intOf]; omega
    · have hle : (n : Int) ≤ (i : Int) := by omega
      go_wp2_with fail
      refine (endSt e w.heap.size st _ Hst.out HE.out).mono ?_
      rintro r w9 ⟨rfl, hg9⟩
      have Hb9 := hide (Hb.out.trans (grow_below hg9 Hst.out.lt))
      have Hown9 := hide (own_grown Hown.out hg9)
      clear hg9
      go_wp2
      go_ret3
      exact ⟨read_end HI.out (fun c' h => by subst h; exact Hst.out.1) (fun r h => by omega) (own_mono Hown9.out (by omega)), Hb9.out⟩
end Go.Proofs.YtgcpljgdeoeppabDoor
