/-
  Contracts of files.read, Read over this dump: every text.
-/
import Derived.Test.YtbflmkjlpopeaadGreatDoorJoin24
import Derived.Test.YtbflmkjlpopeaadGreatDoorFRead
import Derived.Test.YtbflmkjlpopeaadGreatDoorLChecks
import Derived.Test.YtbflmkjlpopeaadGreatDoorJoin05
import Derived.Test.YtbflmkjlpopeaadGreatDoorFErrT
namespace Go.Proofs.YtbflmkjlpopeaadGreatDoor
open Go.RowKit
open Go.Delta (txt)
open Go.Files (Ln rdN rdNs rdL behindN aheadN faultF keyL)

theorem num_lenL {s r : List UInt8} {n : Nat} (h : Go.Sign.num s = .ok (n, r)) : r.length + 1 ≤ s.length := by
  unfold Go.Sign.num at h
  split at h
  · rename_i n' k hd
    cases h
    have := dec_num hd
    rw [List.length_drop]; omega
  · cases h
theorem txt_lenL {s r d : List UInt8} (h : txt s = .ok (d, r)) : r.length + d.length + 1 ≤ s.length := by
  unfold txt at h
  split at h
  · cases h
  · rename_i n s1 h1
    have := num_lenL h1
    split at h
    · cases h
    · split at h
      · cases h
      · cases h
        simp; omega
theorem rdN_len {s s' : List UInt8} {x : Ln} (h : rdN s = .ok (x, s')) : s'.length + 1 ≤ s.length ∧ x.name.size ≤ s.length := by
  unfold rdN at h
  split at h
  · cases h
  · rename_i d s1 h1
    have := txt_lenL h1
    split at h
    · cases h
    · rename_i n s2 h2
      have := num_lenL h2
      split at h
      · cases h
      · rename_i k s3 h3
        have := num_lenL h3
        split at h
        · cases h
        · cases h
          simp only [str_len]
          omega
theorem rdNs_lenL : ∀ (m : Nat) (s : List UInt8) (l : List Ln) (r : List UInt8), rdNs m s = .ok (l, r) → l.length ≤ s.length ∧ ∀ x ∈ l, x.name.size ≤ s.length := by
  intro m
  induction m with
  | zero => intro s l r h; cases h; simp
  | succ m ih =>
    intro s l r h
    rw [rdNs] at h
    split at h
    · cases h
    · rename_i b s1 hb
      split at h
      · cases h
      · rename_i l' s2 hl
        cases h
        have h1 := ih _ _ _ hl
        have h2 := rdN_len hb
        refine ⟨by simp; omega, fun o ho => ?_⟩
        rcases List.mem_cons.1 ho with rfl | ho
        · exact h2.2
        · have := h1.2 o ho; omega

/-- All is read: is anything left? -/
def finN : Except Nat (List Ln × List UInt8) → Except Nat (List Ln)
  | .error c => .error c
  | .ok (l, s) => if s = [] then .ok l else .error 1
/-- Lines as they stand there, right or wrong. -/
def rdAL (s : List UInt8) : Except Nat (List Ln) := match (numS (.ok s)).2 with | .error c => .error c | .ok rest => finN (rdNs (numS (.ok s)).1 rest)
theorem rdL_eq (s : List UInt8) : rdL s = match rdAL s with | .error c => .error c | .ok l => if (faultF (l.map keyL)).1 = 0 then .ok l else .error (faultF (l.map keyL)).1 := by
  rw [rdL, rdAL, numS_numD]
  cases Go.Sign.num s with
  | error c => rfl
  | ok x =>
    obtain ⟨n, r⟩ := x
    simp only
    cases rdNs n r with
    | error c => rfl
    | ok y =>
      obtain ⟨l, r2⟩ := y
      simp only [behindN, finN]
      by_cases h : r2 = []
      · rw [if_pos h, if_pos h]
      · rw [if_neg h, if_neg h]
theorem rdAL_short {s : List UInt8} {l : List Ln} (h : rdAL s = .ok l) : l.length ≤ s.length ∧ ∀ x ∈ l, x.name.size ≤ s.length := by
  unfold rdAL at h
  have hl := numS_len (.ok s)
  split at h
  · cases h
  · rename_i rest hx
    rw [hx] at hl
    simp only [lenS] at hl
    unfold finN at h
    split at h
    · cases h
    · rename_i l' s2 h2
      split at h
      · cases h
        have hh := rdNs_lenL _ _ _ _ h2
        exact ⟨by omega, fun o ho => by have := hh.2 o ho; omega⟩
      · cases h

/-- How far the lines are read. -/
def InvL (A : Except Nat (List Ln)) (N n i : Nat) (l : List Ln) : St → Prop
  | .error c => A = .error c
  | .ok rest => i = l.length ∧ A = finN (aheadN l (rdNs (n - i) rest)) ∧ rest.length + i ≤ N
theorem InvL.step {A : Except Nat (List Ln)} {N n i : Nat} {l : List Ln} {rest : List UInt8} (h : InvL A N n i l (.ok rest)) (hi : i < n) : InvL A N n (i + 1) (l ++ [(rdLnS (.ok rest)).1]) (rdLnS (.ok rest)).2 := by
  obtain ⟨h1, h2, h3⟩ := h
  obtain ⟨k, hk⟩ : ∃ k, n - i = k + 1 := ⟨n - i - 1, by omega⟩
  rw [hk] at h2
  cases hr : rdN rest with
  | error c =>
    rw [Go.Files.aheadN_error hr] at h2
    rw [rdLnS_error hr]
    exact h2
  | ok x =>
    obtain ⟨b, s1⟩ := x
    rw [rdLnS_ok hr]
    rw [Go.Files.aheadN_ok hr] at h2
    have := rdN_len hr
    refine ⟨by simp [h1], ?_, by omega⟩
    rw [show n - (i + 1) = k by omega]
    exact h2

/-- What read answers. -/
def LReadRes (e : EV) (base : Nat) (w' : World) (r : Ending) : Except Nat (List Ln) → Prop
  | .ok l => ∃ v, r = .returned (.tuple #[v, .nilIface]) ∧ w'.ownsRow base 60 3 v l.length (lcs l)
  | .error c => ∃ a n cap, r = .returned (.tuple #[.slice a n cap, errV e c]) ∧ (c = 1 ∨ c = 2)
theorem lread_end {A : Except Nat (List Ln)} {N n i : Nat} {l : List Ln} {st : St} {e : EV} {base : Nat} {w' : World} {v : Value} (h : InvL A N n i l st) (hc : ∀ c, st = .error c → c = 1 ∨ c = 2) (hi : ∀ r, st = .ok r → n ≤ i)
    (hown : w'.ownsRow base 60 3 v l.length (lcs l)) : LReadRes e base w' (.returned (.tuple #[v, errV e (endC st)])) A := by
  have hf : ∃ a n cap, v = .slice a n cap := by
    rcases hown.2 with ⟨rfl, _⟩ | ⟨g, c, cur, rfl, _⟩
    · exact ⟨_, _, _, rfl⟩
    · exact ⟨_, _, _, rfl⟩
  obtain ⟨a, m, cap, rfl⟩ := hf
  cases st with
  | error c =>
    have h' : A = .error c := h
    subst h'
    exact ⟨a, m, cap, rfl, hc c rfl⟩
  | ok rest =>
    obtain ⟨_, h2, _⟩ := h
    rw [show n - i = 0 by have := hi rest rfl; omega, rdNs, aheadN, List.append_nil, finN] at h2
    rw [show endC (.ok rest) = if rest = [] then 0 else 1 from rfl]
    by_cases hr : rest = []
    · rw [if_pos hr] at h2 ⊢
      subst h2
      exact ⟨_, rfl, hown⟩
    · rw [if_neg hr] at h2 ⊢
      subst h2
      exact ⟨a, m, cap, rfl, Or.inl rfl⟩
theorem erBelowL {e : EV} {k : Nat} {w0 w w' : World} (h0 : Er e w0) (hk : w0.heap.size ≤ k) (h : Er e w) (hb : Below k w w') : Er e w' :=
  ⟨(hb.cell (Nat.lt_of_lt_of_le (World.block_lt_of_cell? _ _ h0.text) hk)).trans h.text, (hb.cell (Nat.lt_of_lt_of_le (World.block_lt_of_cell? _ _ h0.bound) hk)).trans h.bound, (hb.cell (Nat.lt_of_lt_of_le (World.block_lt_of_cell? _ _ h0.full) hk)).trans h.full⟩

set_option maxHeartbeats 2000000 in
set_option maxRecDepth 100000 in
theorem lread_ok (e : EV) (s : ByteArray) (w : World) (hs : s.size ≤ 1000000) (he : Er e w) :
    Calls Tryz.prog 28 #[.string s] w fun r w' => LReadRes e w.heap.size w' r (rdAL s.data.toList) ∧ Below w.heap.size w w' := by
  obtain ⟨i0, hi, hz0, hz1, hz2⟩ := info_parts Tryz.info60
  have hs' : (s.size : Int) ≤ 1000000 := by omega
  have hsl : lenS (.ok s.data.toList) ≤ 1000000 := by rw [lenS, lenL]; omega
  have HA := hide (fun W (a : RdSt e w.heap.size W (.ok s.data.toList)) (b : Er e W) => numSt e w.heap.size (.ok s.data.toList) W a hsl b)
  have l1 := numS_le (.ok s.data.toList)
  have HI : Hid (InvL (rdAL s.data.toList) s.size (numS (.ok s.data.toList)).1 0 [] (numS (.ok s.data.toList)).2) := by
    have hlen : lenS (numS (.ok s.data.toList)).2 ≤ s.size := Nat.le_trans (numS_len _) (by rw [lenS, lenL]; exact Nat.le_refl _)
    have hA : rdAL s.data.toList = match (numS (.ok s.data.toList)).2 with | .error c => .error c | .ok rest => finN (rdNs (numS (.ok s.data.toList)).1 rest) := rfl
    cases hx : (numS (.ok s.data.toList)).2 with
    | error c => rw [hx] at hA; exact hA
    | ok rest =>
      rw [hx] at hA hlen
      refine ⟨rfl, ?_, by simpa [lenS] using hlen⟩
      rw [hA, Nat.sub_zero, Go.Files.aheadN_nil]
  have HE0 := hide (fun W W' (a : Er e W) (b : W.grownBy W' (some w.heap.size)) => Er.grown he (Nat.le_refl _) a b)
  have HEB := hide (fun k W W' (hk : w.heap.size ≤ k) (a : Er e W) (b : Below k W W') => erBelowL he hk a b)
  have HR := hide (fun st W (h : RdSt e w.heap.size W st) (hl : lenS st ≤ 1000000) (h2 : Er e W) => readLine_ok e w.heap.size st w W he (Nat.le_refl _) h hl h2)
  have HE := hide he
  generalize rdAL s.data.toList = A at *
  generalize numS (.ok s.data.toList) = x1 at *
  obtain ⟨n, st2⟩ := x1
  simp only at l1 HA HI
  have hn : (n : Int) ≤ 1099511627776 := by omega
  clear he
  go_enter Tryz.func28, Tryz.ntmps28
  go_wp2_with fail
  refine (newR_ok s _).mono ?_
  rintro r w1 ⟨rfl, h1⟩
  have hf := RdAt.fresh w s
  have hb : Below w.heap.size w (w.alloc (.cells #[.string s, .nilIface] 140)) := (Below.refl _ _).alloc (Nat.le_refl _) _
  rw [h1] at hf hb
  have Hf := hide hf
  have Hb := hide hb
  have HE1 := hide (HE.out.below hb)
  clear hf hb h1 HE
  go_wp2_with fail
  refine (HA.out _ ⟨s, rfl, Hf.out⟩ HE1.out).mono ?_
  rintro r w3 ⟨rfl, h3, hg3⟩
  have H3 := hide h3
  have HE3 := hide (HE0.out _ _ HE1.out hg3)
  have Hb3 := hide (Hb.out.trans (grow_below hg3 Hf.out.lt))
  clear h3 hg3 Hf Hb HE1 HA
  go_wp2_with fail
  go_loopw [6, 7] (fun t6 t7 wr => ∃ (i : Nat) (l : List Ln) (st : St), t7 = .int .i64 i ∧ i ≤ n ∧ l.length ≤ s.size + 1 ∧ Hid (wr.ownsRow (w.heap.size + 1) 60 3 t6 l.length (lcs l)) ∧ Hid (RdSt e w.heap.size wr st) ∧ Hid (Er e wr) ∧ Hid (Below w.heap.size w wr) ∧ Hid (InvL A s.size n i l st)) (fun _ t7 _ => n - (intOf t7).toNat)
  case atStart => exact ⟨0, [], st2, rfl, by omega, by simp, World.ownsRow_nil _ _ _ _, H3.out, HE3.out, Hb3.out, HI.out⟩
  case round =>
    clear H3 HE3 Hb3 HI
    obtain ⟨i, l, st, rfl, hin, hll, Hown, Hst, HE, Hb, HI⟩ := hrel
    by_cases hlt : i < n
    · have hlt' : (i : Int) < n := by omega
      cases st with
      | error c =>
        obtain ⟨hc, hrd⟩ := Hst.out
        obtain ⟨tc, xc, ev⟩ := errV_form e c (by omega)
        rw [ev] at hrd
        have Hrd := hide hrd
        have Hc := hide hc
        clear hrd hc ev
        go_wp2_with fail
        refine (err_ok _ _ _ _ Hrd.out).mono ?_
        rintro r w4 ⟨rfl, rfl⟩
        go_wp2_with fail
        refine (endSt e w.heap.size (.error c) _ Hst.out HE.out).mono ?_
        rintro r w9 ⟨rfl, hg9⟩
        have Hb9 := hide (Hb.out.trans (grow_below hg9 Hst.out.lt))
        have Hown9 := hide (own_grown Hown.out hg9)
        clear hg9
        go_wp2
        go_ret2
        exact ⟨lread_end HI.out (fun c' h => by cases h; exact Hc.out) (fun r h => by cases h) (own_mono Hown9.out (by omega)), Hb9.out⟩
      | ok rest =>
        obtain ⟨sl, hsl, hrd⟩ := Hst.out
        have Hrd := hide hrd
        clear hrd hsl
        have hrl : rest.length + i ≤ s.size ∧ i = l.length := ⟨HI.out.2.2, HI.out.1⟩
        have HR' := hide (HR.out (.ok rest))
        have HI' := hide (HI.out.step hlt)
        generalize rdLnS (.ok rest) = x at HR' HI'
        obtain ⟨bk, st'⟩ := x
        simp only at HR' HI'
        go_wp2_with fail
        refine (err_ok _ _ _ _ Hrd.out).mono ?_
        rintro r w4 ⟨rfl, rfl⟩
        go_wp2_with fail
        refine (HR'.out _ Hst.out (by simp only [lenS]; omega) HE.out).mono ?_
        rintro r w5 ⟨rfl, h5, hg5⟩
        have H5 := hide h5
        have Hown5 := hide (own_grown Hown.out hg5)
        have HE5 := hide (HE0.out _ _ HE.out hg5)
        have Hb5 := hide (Hb.out.trans (grow_below hg5 Hst.out.lt))
        clear h5 hg5 Hst Hrd HE Hb Hown HR' HI
        go_wp2_with (first | (at_builtin; refine wpList_append_own _ rfl (.tmp 22) (.tmp 25) 32 rfl (w.heap.size + 1) 60 i0 (.agg #[.string ⟨#[]⟩, .int .i64 0, .int .u32 0]) 3 32 Tryz.underlying32 hi hz0 hz1 hz2 rfl (by decide) u6 l.length (lcs l) rfl ?own ⟨w5.heap.size, 0, none⟩ 1 1 [.string bk.name, .int .i64 bk.n, .int .u32 bk.sum] rfl rfl ?c1 ?c2 ?b1 ?b2 ?b3 ?next))
        case own => exact Hown5.out.alloc _
        case c1 => intro j u hj; match j, hj with | 0, hj | 1, hj | 2, hj => simp at hj; subst hj; simp [Addr.add]
        case c2 => intro u hu; simp at hu; rcases hu with rfl | rfl | rfl <;> rfl
        case b1 => unfold maxLen; omega
        case b2 => omega
        case b3 => have := H5.out.lt; simp; omega
        case next =>
          intro v6 w6 hown6 hgrow6 _
          have hb6 : Below (w.heap.size + 1) w5 w6 := ((Below.refl _ _).alloc H5.out.lt _).grown hgrow6 (by have := H5.out.lt; simp; omega) (fun k hk => (Hown5.out.lt k hk).1)
          have Hb6 := hide (Hb5.out.trans (hb6.mono (by omega)))
          have H6 := hide (H5.out.below' hb6)
          have HE6 := hide (HEB.out _ _ _ (by omega) HE5.out hb6)
          have Hown6 := hide hown6
          clear hb6 hown6 hgrow6 Hown5 Hb5 H5 HE5
          go_wp2_with fail
          go_roundw
          case rel =>
            refine ⟨i + 1, l ++ [bk], st', by go_num, by omega, by simp; omega, ?_, H6.out, HE6.out, Hb6.out, HI'.out⟩
            have h := Hown6.out
            rw [show lcs l ++ [Value.string bk.name, .int .i64 bk.n, .int .u32 bk.sum] = lcs (l ++ [bk]) from (cs3_snoc l bk).symm] at h
            simpa [Hid] using h
          case measure => simp [intOf]; omega
    · have hle : (n : Int) ≤ (i : Int) := by omega
      go_wp2_with fail
      refine (endSt e w.heap.size st _ Hst.out HE.out).mono ?_
      rintro r w9 ⟨rfl, hg9⟩
      have Hb9 := hide (Hb.out.trans (grow_below hg9 Hst.out.lt))
      have Hown9 := hide (own_grown Hown.out hg9)
      clear hg9
      go_wp2
      go_ret2
      exact ⟨lread_end HI.out (fun c' h => by subst h; exact Hst.out.1) (fun r h => by omega) (own_mono Hown9.out (by omega)), Hb9.out⟩

/-- The errors that the reader meets among the five. -/
def evT (e : FVT) : EV := ⟨e.tT, e.xT, e.f.tB, e.f.xB, e.f.tF, e.f.xF⟩
theorem FErT.rd {e : FVT} {w : World} (h : FErT e w) : Er (evT e) w := ⟨h.text, h.er.bound, h.er.full⟩
/-- An error by its number, that of a text among them. -/
def errT (e : FVT) (c : Nat) : Value := if c = 1 then .iface e.tT e.xT else errF e.f c
/-- What Read answers. -/
def LRdRes (e : FVT) (w' : World) (r : Ending) : Except Nat (List Ln) → Prop
  | .ok l => ∃ v, r = .returned (.tuple #[v, .nilIface]) ∧ LRow w' v l
  | .error c => r = .returned (.tuple #[.slice none 0 0, errT e c]) ∧ (c = 1 ∨ c = 8 ∨ c = 5 ∨ c = 2 ∨ c = 9)

set_option maxHeartbeats 1000000 in
set_option maxRecDepth 100000 in
theorem lRead_ok (e : FVT) (s : ByteArray) (w : World) (hs : s.size ≤ 1000000) (he : FErT e w) :
    Calls Tryz.prog 11 #[.string s] w fun r w' => LRdRes e w' r (rdL s.data.toList) ∧ Below w.heap.size w w' := by
  have HR := hide (lread_ok (evT e) s w hs he.rd)
  have HL : Hid (∀ l, rdAL s.data.toList = .ok l → l.length ≤ 1000000 ∧ ∀ x ∈ l, x.name.size ≤ 1000000) := fun l h => by
    have := rdAL_short h
    rw [lenL] at this
    exact ⟨by omega, fun o ho => by have := this.2 o ho; omega⟩
  have HE := hide he
  have ES := hide (rdL_eq s.data.toList)
  generalize rdL s.data.toList = S at *
  generalize rdAL s.data.toList = A at *
  clear he
  cases A with
  | error c =>
    have hS : S = .error c := ES.out
    subst hS
    clear ES HL
    go_enter Tryz.func11, Tryz.ntmps11
    go_wp2_with fail
    refine HR.out.mono ?_
    rintro r w1 ⟨⟨a, n, cap, rfl, hc⟩, hb1⟩
    obtain ⟨t, x, ev⟩ := errV_form (evT e) c (by omega)
    have ev2 : errT e c = .iface t x := by rcases hc with rfl | rfl <;> exact ev
    have Hev := hide ev2
    have Hc := hide hc
    have Hb1 := hide hb1
    rw [ev]
    clear ev ev2 hb1 hc
    go_wp2
    go_ret2
    exact ⟨⟨by rw [Hev.out]; rfl, Hc.out.elim Or.inl (fun h => Or.inr (Or.inr (Or.inr (Or.inl h))))⟩, Hb1.out⟩
  | ok l =>
    have hS := ES.out
    simp only at hS
    obtain ⟨hl, hsh⟩ := HL.out l rfl
    have HS := hide hS
    clear ES HL hS
    have HA := hide (fun a c W => linesAt_ok a l.length c W)
    have HW := hide (fun v q W (h : LRow W v l) (hq : W.cell? ⟨q, 0, none⟩ = some v) (h2 : FEr e.f W) => firstWrong_ok 54 q (enters_of Tryz.func54 (by kernel_rfl) rfl) (l.map keyL) e.f W (fun j hj W' hb => by
      have hj' : j < l.length := by simpa using hj
      have := linesAt1_ok q j v l W' (h.below hb) hj' hl ((hb.cell (World.block_lt_of_cell? _ _ hq)).trans hq)
      simpa [keyL] using this) (by simpa using hl) (fun x hx => by obtain ⟨y, hy, rfl⟩ := List.mem_map.1 hx; exact hsh y hy) h2)
    rw [List.length_map] at HW
    have Hcode := hide (Go.Files.faultF_code (l.map keyL))
    generalize faultF (l.map keyL) = f at *
    obtain ⟨fc, fa⟩ := f
    simp only at HS HW Hcode
    go_enter Tryz.func11, Tryz.ntmps11
    go_wp2_with fail
    refine HR.out.mono ?_
    rintro r w1 ⟨⟨v, rfl, hown⟩, hb1⟩
    have hrow : LRow w1 v l := Row3c.of_own hown
    have Hrow := hide hrow
    have Hb1 := hide hb1
    obtain ⟨a, c, rfl, _⟩ := hrow
    clear hb1 hown hsh
    generalize l.length + c = cap at *
    go_wp2_with fail
    refine (HA.out _ _ _).mono ?_
    rintro r w2 ⟨⟨q, rfl, hq⟩, hb2⟩
    have Hq := hide hq
    have Hb2 := hide (bthen Hb1.out hb2)
    have Hrow2 := hide (Hrow.out.below hb2)
    clear hq hb2 HA Hrow
    go_wp2_with fail
    refine (HW.out _ q _ Hrow2.out Hq.out (HE.out.er.below Hb2.out)).mono ?_
    rintro r w3 ⟨rfl, hb3⟩
    have Hb3 := hide (bthen Hb2.out hb3)
    have Hrow3 := hide (Hrow2.out.below hb3)
    clear hb3 HW Hrow2 Hq
    by_cases h0 : fc = 0
    · subst h0
      have hS : S = .ok l := HS.out.trans (if_pos rfl)
      subst hS
      rw [show errF e.f 0 = .nilIface from rfl]
      clear HS
      go_wp2_with fail
      go_ret2
      exact ⟨⟨_, rfl, Hrow3.out⟩, Hb3.out⟩
    · have hS : S = .error fc := HS.out.trans (if_neg h0)
      subst hS
      obtain ⟨t, x, ev⟩ := errF_form e.f fc h0
      have hc := Hcode.out.resolve_left h0
      have ev2 : errT e fc = .iface t x := by unfold errT; rw [if_neg (by omega)]; exact ev
      have Hev := hide ev2
      have Hc := hide hc
      rw [ev]
      clear HS ev ev2 hc h0 Hcode
      go_wp2_with fail
      go_ret2
      exact ⟨⟨by rw [Hev.out]; rfl, Or.inr Hc.out⟩, Hb3.out⟩
end Go.Proofs.YtbflmkjlpopeaadGreatDoor
