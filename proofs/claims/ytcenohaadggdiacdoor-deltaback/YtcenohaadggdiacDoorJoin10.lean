/-
  Plain facts on a file's own signature: it is well, each block is found.
  What a file comes to, by its blocks: plain facts on lists.
  Contracts of sign.firstWrong whole, and of Check, over this dump.
-/
import Derived.Test.YtcenohaadggdiacDoorJoin05
import Derived.Test.YtcenohaadggdiacDoorJoin03
import Derived.Test.YtcenohaadggdiacDoorJoin04
namespace Go.Proofs.YtcenohaadggdiacDoor
open Go.Sign (Blk)

theorem many_lt {len size i : Nat} (h1 : 1 ≤ size) (h : i < many len size) : i * size < len := by
  unfold many at h
  have := (Nat.le_div_iff_mul_le (show 0 < size by omega)).1 (show i + 1 ≤ (len + size - 1) / size from h)
  rw [Nat.succ_mul] at this
  omega
theorem many_ge {len size : Nat} (h1 : 1 ≤ size) : len ≤ many len size * size := by
  unfold many
  have := Nat.lt_mul_div_succ (len + size - 1) (show 0 < size by omega)
  rw [Nat.mul_add, Nat.mul_one, Nat.mul_comm] at this
  omega
theorem sigL_length (l : List UInt8) (size : Nat) : (sigL l size).length = many l.length size := sigK_length ..
theorem sigL_get (l : List UInt8) (size i : Nat) (h : i < (sigL l size).length) : (sigL l size)[i] = blk ((l.drop (i * size)).take size) := by
  simp [sigL, sigK]
theorem sigL_n (l : List UInt8) (size i : Nat) (h : i < (sigL l size).length) : (sigL l size)[i].n = ((min size (l.length - i * size) : Nat) : Int) := by
  rw [sigL_get, blk]
  simp
theorem sigL_strong (l : List UInt8) (size : Nat) : ∀ b ∈ sigL l size, b.strong < 4294967296 := by
  intro b hb
  simp only [sigL, sigK, List.mem_map] at hb
  obtain ⟨j, _, rfl⟩ := hb
  exact Go.Crc.crc_lt 0 _ (by decide)

theorem sig_fits (l : List UInt8) (size k : Nat) (h1 : 1 ≤ size) (hk : k < (sigL l size).length) : Go.Sign.fits size (decide (k + 1 = (sigL l size).length)) (sigL l size)[k] = true ∧ (k * size : Nat) + (sigL l size)[k].n ≤ l.length ∧ (k + 1 < (sigL l size).length → (sigL l size)[k].n = size) := by
  have hm := hk
  rw [sigL_length] at hm
  have hlt := many_lt h1 hm
  have hn := sigL_n l size k hk
  have hw : 0 ≤ (sigL l size)[k].weak ∧ (sigL l size)[k].weak < 4294967296 := by
    rw [sigL_get]
    exact wk_bounds _
  have hfull : k + 1 < (sigL l size).length → (sigL l size)[k].n = size := by
    intro h
    rw [sigL_length] at h
    have := many_lt h1 h
    rw [Nat.succ_mul] at this
    rw [hn]
    omega
  refine ⟨?_, ?_, hfull⟩
  · simp only [Go.Sign.fits, Bool.and_eq_true, Bool.or_eq_true, beq_iff_eq, decide_eq_true_eq]
    refine ⟨?_, hw⟩
    by_cases hlast : k + 1 = (sigL l size).length
    · by_cases he : (sigL l size)[k].n = size
      · exact Or.inl he
      · refine Or.inr ⟨⟨hlast, ?_⟩, ?_⟩
        · rw [hn]; omega
        · rw [hn] at he ⊢; omega
    · exact Or.inl (hfull (by omega))
  · rw [hn]; omega

theorem scan_sig (l : List UInt8) (size : Nat) (h1 : 1 ≤ size) (hl : l.length ≤ 4000) : ∀ d k, k + d = (sigL l size).length → Go.Sign.scanW size ((sigL l size).drop k) k ((k * size : Nat) : Int) = none := by
  intro d
  induction d with
  | zero =>
    intro k hk
    rw [List.drop_eq_nil_of_le (by omega), Go.Sign.scanW]
  | succ d ih =>
    intro k hk
    have hkl : k < (sigL l size).length := by omega
    obtain ⟨hf, ha, hn⟩ := sig_fits l size k h1 hkl
    rw [scan_step size (sigL l size) k _ hkl, if_pos hf, if_neg (by omega)]
    by_cases hlast : k + 1 = (sigL l size).length
    · rw [List.drop_eq_nil_of_le (by omega), Go.Sign.scanW]
    · rw [hn (by omega)]
      have := ih (k + 1) (by omega)
      rw [Nat.succ_mul] at this
      exact this
theorem fault_sig (l : List UInt8) (size : Nat) (h1 : 1 ≤ size) (h2 : size ≤ 64) (hl : l.length ≤ 4000) : Go.Sign.fault (sigL l size) size = (0, -1) := by
  have := scan_sig l size h1 hl _ 0 (Nat.zero_add _)
  simp only [List.drop_zero, Nat.zero_mul] at this
  unfold Go.Sign.fault
  rw [if_pos (by omega)]
  have h0 : ((0 : Nat) : Int) = 0 := rfl
  rw [h0] at this
  rw [this]

theorem find_le (b : Blk) : ∀ (l : List Blk) (i k : Nat), l[i]? = some b → (k : Int) ≤ findFrom b l k ∧ findFrom b l k ≤ ((k + i : Nat) : Int)
  | [], i, k, h => by simp at h
  | x :: r, i, k, h => by
    rw [findFrom]
    split
    · omega
    · rename_i hx
      cases i with
      | zero => simp at h; exact absurd h hx
      | succ i =>
        have := find_le b r i (k + 1) (by simpa using h)
        omega
theorem find_sig (l : List Blk) (i : Nat) (h : i < l.length) : 0 ≤ findOut l l[i] ∧ findOut l l[i] ≤ i := by
  have := find_le l[i] l i 0 (List.getElem?_eq_getElem h)
  unfold findOut
  omega
end Go.Proofs.YtcenohaadggdiacDoor

namespace Go.Proofs.YtcenohaadggdiacDoor
open Go.RowKit
open Go.Sign (Blk)
open Go.Delta (Opx addData addCopy addByte pd gd cost copyOp dataOp kCopy kData opFault)

/-- The block with which a file goes on. -/
def findW (L : List Blk) (l : List UInt8) : Int := findOut L (blk l)
/-- What a file comes to. -/
def dmake (L : List Blk) (size : Nat) (s : List UInt8) : List Opx := gd (findW L) size s []

theorem findFrom_lt (b : Blk) : ∀ (l : List Blk) (j : Nat), findFrom b l j < ((j + l.length : Nat) : Int)
  | [], j => by simp only [findFrom]; omega
  | x :: r, j => by
    rw [findFrom]
    split
    · simp; omega
    · have := findFrom_lt b r (j + 1)
      simp at this ⊢; omega
theorem findFrom_neg (b : Blk) : ∀ (l : List Blk) (j : Nat), findFrom b l j < 0 → findFrom b l j = -1
  | [], j, _ => rfl
  | x :: r, j, h => by
    rw [findFrom] at h ⊢
    split
    · rename_i hx; rw [if_pos hx] at h; omega
    · rename_i hx; rw [if_neg hx] at h; exact findFrom_neg b r _ h
theorem findW_lt (L : List Blk) (l : List UInt8) : findW L l < L.length := by
  have := findFrom_lt (blk l) L 0
  unfold findW findOut
  omega


theorem cost_addCopy (out : List Opx) (k : Int) : cost (addCopy out k) = cost out := by
  rcases List.eq_nil_or_concat out with rfl | ⟨r, o, rfl⟩
  · rfl
  · rw [List.concat_eq_append, Go.Delta.addCopy_snoc]
    split
    · rw [Go.Delta.cost_snoc, Go.Delta.cost_snoc]
    · rw [Go.Delta.cost_snoc (r ++ [o])]; rfl
theorem cost_addByte (out : List Opx) (b : UInt8) : cost (addByte out b) = cost out + 1 := by
  rcases List.eq_nil_or_concat out with rfl | ⟨r, o, rfl⟩
  · rfl
  · rw [List.concat_eq_append, Go.Delta.addByte_snoc]
    split
    · rw [Go.Delta.cost_snoc, Go.Delta.cost_snoc]
      simp only [ByteArray.size_append, str_len, List.length_singleton]
      omega
    · rw [Go.Delta.cost_snoc (r ++ [o])]
      simp only [dataOp, str_len, List.length_singleton]
theorem len_addCopy (out : List Opx) (k : Int) : (addCopy out k).length ≤ out.length + 1 := by
  rcases List.eq_nil_or_concat out with rfl | ⟨r, o, rfl⟩
  · simp [Go.Delta.addCopy_nil]
  · rw [List.concat_eq_append, Go.Delta.addCopy_snoc]
    split <;> simp
theorem len_addByte (out : List Opx) (b : UInt8) : (addByte out b).length ≤ out.length + 1 := by
  rcases List.eq_nil_or_concat out with rfl | ⟨r, o, rfl⟩
  · simp [Go.Delta.addByte_nil]
  · rw [List.concat_eq_append, Go.Delta.addByte_snoc]
    split <;> simp

/-- A copy of blocks that are there, or data. -/
def GoodOp (N : Nat) (o : Opx) : Prop := (∃ a n : Nat, o = copyOp a n ∧ 1 ≤ n ∧ a + n ≤ N) ∨ (∃ l : List UInt8, o = dataOp l ∧ 1 ≤ l.length)
def Good (N : Nat) (l : List Opx) : Prop := ∀ o ∈ l, GoodOp N o
theorem good_snoc {N : Nat} {r : List Opx} {o : Opx} (h : Good N r) (ho : GoodOp N o) : Good N (r ++ [o]) := by
  intro x hx
  rcases List.mem_append.1 hx with hx | hx
  · exact h x hx
  · rw [List.mem_singleton.1 hx]; exact ho
theorem good_init {N : Nat} {r : List Opx} {o : Opx} (h : Good N (r ++ [o])) : Good N r ∧ GoodOp N o := ⟨fun x hx => h x (List.mem_append_left _ hx), h o (by simp)⟩
theorem good_copy {N : Nat} {out : List Opx} (h : Good N out) {k : Int} (h0 : 0 ≤ k) (h1 : k < N) : Good N (addCopy out k) := by
  have hnew : GoodOp N (copyOp k 1) := Or.inl ⟨k.toNat, 1, by rw [Int.toNat_of_nonneg h0]; rfl, by omega, by omega⟩
  rcases List.eq_nil_or_concat out with rfl | ⟨r, o, rfl⟩
  · rw [Go.Delta.addCopy_nil]; exact good_snoc (r := []) (fun x hx => by cases hx) hnew
  · rw [List.concat_eq_append] at h ⊢
    rw [Go.Delta.addCopy_snoc]
    obtain ⟨hr, ho⟩ := good_init h
    split
    · rename_i hc
      refine good_snoc hr ?_
      rcases ho with ⟨a, n, rfl, h2, h3⟩ | ⟨l, rfl, h2⟩
      · refine Or.inl ⟨a, n + 1, by simp [copyOp], by omega, ?_⟩
        have := hc.2
        simp only [copyOp] at this
        omega
      · exact absurd hc.1 (fun e => Go.Delta.kinds_ne e.symm)
    · exact good_snoc h hnew
theorem good_byte {N : Nat} {out : List Opx} (h : Good N out) (b : UInt8) : Good N (addByte out b) := by
  have hnew : GoodOp N (dataOp [b]) := Or.inr ⟨[b], rfl, by simp⟩
  rcases List.eq_nil_or_concat out with rfl | ⟨r, o, rfl⟩
  · rw [Go.Delta.addByte_nil]; exact good_snoc (r := []) (fun x hx => by cases hx) hnew
  · rw [List.concat_eq_append] at h ⊢
    rw [Go.Delta.addByte_snoc]
    obtain ⟨hr, ho⟩ := good_init h
    split
    · rename_i hc
      refine good_snoc hr ?_
      rcases ho with ⟨a, n, rfl, h2, h3⟩ | ⟨l, rfl, h2⟩
      · exact absurd hc Go.Delta.kinds_ne
      · exact Or.inr ⟨l ++ [b], by simp only [dataOp]; rw [str_app], by simp⟩
    · exact good_snoc h hnew

/-- All at once, from what is left. -/
theorem gd_all (f : List UInt8 → Int) (size N : Nat) (hf : ∀ l, f l < N) : ∀ (m : Nat) (rest : List UInt8) (out : List Opx), rest.length ≤ m → Good N out →
    cost (gd f size rest out) ≤ cost out + rest.length ∧ (gd f size rest out).length ≤ out.length + rest.length ∧ Good N (gd f size rest out) := by
  intro m
  induction m with
  | zero =>
    intro rest out hl h
    have : rest = [] := List.length_eq_zero_iff.1 (by omega)
    subst this
    rw [gd]
    exact ⟨by omega, by omega, h⟩
  | succ m ih =>
    intro rest out hl h
    cases rest with
    | nil => rw [gd]; exact ⟨by omega, by omega, h⟩
    | cons b r =>
      rw [List.length_cons] at hl
      rw [gd]
      split
      · rename_i hk
        obtain ⟨i1, i2, i3⟩ := ih (r.drop (size - 1)) (addCopy out (f ((b :: r).take size))) (by simp; omega) (good_copy h hk (hf _))
        rw [cost_addCopy] at i1
        have := len_addCopy out (f ((b :: r).take size))
        simp only [List.length_drop] at i1 i2
        rw [List.length_cons]
        exact ⟨by omega, by omega, i3⟩
      · obtain ⟨i1, i2, i3⟩ := ih r (addByte out b) (by omega) (good_byte h b)
        rw [cost_addByte] at i1
        have := len_addByte out b
        rw [List.length_cons]
        exact ⟨by omega, by omega, i3⟩
theorem mem_cost {o : Opx} : ∀ {l : List Opx}, o ∈ l → o.data.size ≤ cost l
  | x :: r, h => by
    rw [Go.Delta.cost]
    rcases List.mem_cons.1 h with rfl | h
    · omega
    · have := mem_cost h; omega
theorem good_right {N : Nat} {l : List Opx} (h : Good N l) (hN : N ≤ 4000) (hc : cost l ≤ 4000) : ∀ o ∈ l, opFault o = 0 := by
  intro o ho
  have hm := mem_cost ho
  rcases h o ho with ⟨a, n, rfl, h2, h3⟩ | ⟨d, rfl, h2⟩
  · exact Go.Delta.opFault_copy (by omega) h2 (by omega)
  · simp only [dataOp, str_len] at hm
    exact Go.Delta.opFault_data h2 (by omega)

theorem dmake_all (L : List Blk) (size : Nat) (s : List UInt8) : cost (dmake L size s) ≤ s.length ∧ (dmake L size s).length ≤ s.length ∧ Good L.length (dmake L size s) := by
  have h := gd_all (findW L) size L.length (findW_lt L) s.length s [] (Nat.le_refl _) (fun x hx => by cases hx)
  have e0 : cost [] = 0 := rfl
  rw [e0] at h
  unfold dmake
  simpa using h

/-- Where each block at its place is found, only what lies behind is data. -/
theorem cost_front (f : List UInt8 → Int) (size N n : Nat) (t : List UInt8) (hf : ∀ l, f l < N) (h1 : 1 ≤ size) (hn : n ≤ t.length) (h : ∀ i, i * size < n → 0 ≤ f ((t.drop (i * size)).take size)) :
    cost (gd f size t []) ≤ t.length - n := by
  have key : ∀ j, j ≤ many n size → ∃ out, gd f size t [] = gd f size (t.drop (j * size)) out ∧ cost out = 0 ∧ Good N out := by
    intro j
    induction j with
    | zero => intro _; exact ⟨[], by simp, rfl, fun x hx => by cases hx⟩
    | succ j ih =>
      intro hj
      obtain ⟨out, e, hc, hg⟩ := ih (by omega)
      have hjn : j * size < n := many_lt h1 (by omega)
      have hlt : j * size < t.length := by omega
      have hk := h j hjn
      have ed := List.drop_eq_getElem_cons hlt
      refine ⟨addCopy out (f ((t.drop (j * size)).take size)), ?_, by rw [cost_addCopy]; exact hc, good_copy hg hk (hf _)⟩
      rw [e]
      conv => lhs; rw [ed]
      rw [gd, ← ed, if_pos hk, List.drop_drop]
      congr 2
      rw [Nat.succ_mul]; omega
  obtain ⟨out, e, hc, hg⟩ := key (many n size) (Nat.le_refl _)
  rw [e]
  have := (gd_all f size N hf _ (t.drop (many n size * size)) out (Nat.le_refl _) hg).1
  have hm := many_ge (len := n) h1
  rw [hc, List.length_drop] at this
  omega
theorem cost_own (s more : List UInt8) (size : Nat) (h1 : 1 ≤ size) (hd : more = [] ∨ s.length % size = 0) : cost (dmake (sigL s size) size (s ++ more)) ≤ more.length := by
  unfold dmake
  have h := cost_front (findW (sigL s size)) size (sigL s size).length s.length (s ++ more) (findW_lt _) h1 (by simp) ?_
  · simpa using h
  · intro i hi
    have him : i < (sigL s size).length := by
      rw [sigL_length]
      have := many_ge (len := s.length) h1
      rcases Nat.lt_or_ge i (many s.length size) with h | h
      · exact h
      · have : many s.length size * size ≤ i * size := Nat.mul_le_mul_right _ h
        omega
    have e : ((s ++ more).drop (i * size)).take size = (s.drop (i * size)).take size := by
      rcases hd with rfl | hd
      · simp
      · have hle : i * size + size ≤ s.length := by
          obtain ⟨q, hq⟩ := Nat.dvd_of_mod_eq_zero hd
          rw [hq, Nat.mul_comm] at hi
          have : i < q := by
            rcases Nat.lt_or_ge i q with h | h
            · exact h
            · have := Nat.mul_le_mul_right size h
              rw [Nat.mul_comm q size] at this
              rw [Nat.mul_comm i size] at *
              omega
          have h2 := Nat.mul_le_mul_right size (show i + 1 ≤ q from this)
          rw [Nat.succ_mul] at h2
          rw [hq, Nat.mul_comm size q]
          omega
        rw [List.drop_append_of_le_length (by omega), List.take_append_of_le_length (by rw [List.length_drop]; omega)]
    have := (find_sig (sigL s size) i him).1
    rw [sigL_get] at this
    unfold findW
    rw [e]
    exact this

theorem findFrom_append (b : Blk) : ∀ (l m : List Blk) (j : Nat), findFrom b (l ++ m) j = if 0 ≤ findFrom b l j then findFrom b l j else findFrom b m (j + l.length)
  | [], m, j => by simp [findFrom]
  | x :: r, m, j => by
    rw [List.cons_append, findFrom, findFrom]
    split
    · rw [if_pos (by omega)]
    · rw [findFrom_append b r m (j + 1)]
      have e : j + 1 + r.length = j + (x :: r).length := by simp; omega
      rw [e]
theorem findFrom_none (b : Blk) : ∀ (l : List Blk) (j k : Nat), findFrom b l j < 0 → findFrom b l k = -1
  | [], _, _, _ => rfl
  | x :: r, j, k, h => by
    rw [findFrom] at h ⊢
    split
    · rename_i hx; rw [if_pos hx] at h; omega
    · rename_i hx; rw [if_neg hx] at h; exact findFrom_none b r _ _ h
theorem findOut_twice (l : List Blk) (b : Blk) : findOut (l ++ l) b = findOut l b := by
  unfold findOut
  rw [findFrom_append]
  split
  · rfl
  · rename_i h
    rw [findFrom_none b l 0 _ (by omega), findFrom_neg b l 0 (by omega)]
theorem dmake_twice (l : List Blk) (size : Nat) (s : List UInt8) : dmake (l ++ l) size s = dmake l size s := by
  unfold dmake
  have : findW (l ++ l) = findW l := by
    funext x
    exact findOut_twice l (blk x)
  rw [this]

theorem scan_full (size : Int) : ∀ (l : List Blk) (i : Nat) (all : Int), 1 ≤ size → (∀ b ∈ l, b.n = size ∧ 0 ≤ b.weak ∧ b.weak < 4294967296) → all + l.length * size ≤ 4000 → Go.Sign.scanW size l i all = none
  | [], _, _, _, _, _ => rfl
  | b :: r, i, all, h1, h, hs => by
    obtain ⟨e, w0, w1⟩ := h b (List.mem_cons_self ..)
    rw [Go.Sign.scanW]
    have hf : Go.Sign.fits size r.isEmpty b = true := by
      simp only [Go.Sign.fits, Bool.and_eq_true, Bool.or_eq_true, beq_iff_eq, decide_eq_true_eq]
      exact ⟨Or.inl e, w0, w1⟩
    have hl : ((b :: r).length : Int) * size = size + r.length * size := by
      rw [List.length_cons]
      simp only [Int.natCast_add, Int.cast_ofNat_Int, Int.add_mul, Int.one_mul]
      omega
    have hp : 0 ≤ (r.length : Int) * size := Int.mul_nonneg (by omega) (by omega)
    rw [if_pos hf, if_neg (by omega)]
    exact scan_full size r (i + 1) _ h1 (fun x hx => h x (List.mem_cons_of_mem _ hx)) (by omega)
theorem fault_twice (s : List UInt8) (size : Nat) (h1 : 1 ≤ size) (h2 : size ≤ 64) (hl : s.length ≤ 2000) (hd : s.length % size = 0) : Go.Sign.fault (sigL s size ++ sigL s size) size = (0, -1) := by
  have hw := (Go.Sign.scanW_none (size := (size : Int)) (by omega) _ _ _ (Go.Sign.fault_zero (l := sigL s size) (size := size) (by rw [fault_sig s size h1 h2 (by omega)])).2).1
  obtain ⟨q, hq⟩ := Nat.dvd_of_mod_eq_zero hd
  have hm : many s.length size = q := by
    rw [hq]
    exact (many_eq h1 (by rw [Nat.mul_comm]; exact Nat.le_refl _) (by rw [Nat.mul_comm]; omega)).symm
  have hall : ∀ b ∈ sigL s size, b.n = size ∧ 0 ≤ b.weak ∧ b.weak < 4294967296 := by
    intro b hb
    obtain ⟨i, hi, rfl⟩ := List.getElem_of_mem hb
    refine ⟨?_, (hw _ hb).2.2.1, (hw _ hb).2.2.2⟩
    rw [sigL_n]
    rw [sigL_length, hm] at hi
    have h3 := Nat.mul_le_mul_right size (show i + 1 ≤ q from hi)
    rw [Nat.succ_mul, Nat.mul_comm q size, ← hq] at h3
    congr 1
    omega
  unfold Go.Sign.fault
  rw [if_pos (by omega), scan_full (size : Int) _ 0 0 (by omega) (fun b hb => by rcases List.mem_append.1 hb with hb | hb <;> exact hall b hb)]
  rw [List.length_append, sigL_length, hm]
  have : ((q + q : Nat) : Int) * size = ((2 * (size * q) : Nat) : Int) := by
    rw [← Int.natCast_mul]; congr 1; rw [Nat.add_mul, Nat.mul_comm q size]; omega
  rw [this, ← hq]
  omega
end Go.Proofs.YtcenohaadggdiacDoor

namespace Go.Proofs.YtcenohaadggdiacDoor
open Go.RowKit
open Go.Sign (Blk)

theorem wrong_ok (v : Value) (l : List Blk) (size : Int) (e : EV) (w : World) (hv : RowIn w v l) (hl : l.length ≤ 1000000) (he : Er2 e w) :
    Calls Tryd.prog 49 #[v, .int .i64 size] w fun r w' => r = .returned (.tuple #[.int .i64 (Go.Sign.fault l size).2, errV e (Go.Sign.fault l size).1]) ∧ Below w.heap.size w w' := by
  unfold Go.Sign.fault
  by_cases hs : 1 ≤ size ∧ size ≤ 64
  · rw [if_pos hs]
    refine (wrong_scan v l size e w hv hs hl he).mono ?_
    rintro r w' ⟨rfl, hb⟩
    refine ⟨?_, hb⟩
    cases Go.Sign.scanW size l 0 0 <;> rfl
  · rw [if_neg hs]
    exact wrong_size v l size e w hv hs he

/-- What Check answers. -/
def CheckRes (e : EV) (base : Nat) (f : Nat × Int) (w' : World) (r : Ending) : Prop :=
  if f.1 = 0 ∨ f.2 = -1 then r = .returned (errV e f.1) else
    ∃ p, r = .returned (.iface 66 (.pointer (some ⟨p, 0, none⟩))) ∧ base ≤ p ∧ w'.cell? ⟨p, 0, none⟩ = some (.int .i64 f.2) ∧ w'.cell? ⟨p, 1, none⟩ = some (errV e f.1)

theorem errV_form (e : EV) (c : Nat) (h : c ≠ 0) : ∃ t x, errV e c = .iface t x := by
  match c, h with
  | 1, _ => exact ⟨_, _, rfl⟩
  | 2, _ => exact ⟨_, _, rfl⟩
  | c + 3, _ => exact ⟨_, _, rfl⟩

section
variable (a : Option Addr) (n cap : Nat) (size at_ : Int) (t : TypeId) (x : Value) (w : World)

set_option maxHeartbeats 1000000 in
set_option maxRecDepth 100000 in
theorem check_nil (h : Calls Tryd.prog 49 #[.slice a n cap, .int .i64 size] w fun r w' => r = .returned (.tuple #[.int .i64 at_, .nilIface]) ∧ Below w.heap.size w w') :
    Calls Tryd.prog 33 #[.slice a n cap, .int .i64 size] w fun r w' => r = .returned .nilIface ∧ Below w.heap.size w w' := by
  have HW := hide h
  clear h
  go_enter Tryd.func33, Tryd.ntmps33
  go_wp2_with fail
  refine HW.out.mono ?_
  rintro e1 w1 ⟨rfl, hb1⟩
  have Hb1 := hide hb1
  clear hb1
  go_wp2
  go_ret
  exact ⟨rfl, Hb1.out⟩

set_option maxHeartbeats 1000000 in
set_option maxRecDepth 100000 in
theorem check_bare (h : Calls Tryd.prog 49 #[.slice a n cap, .int .i64 size] w fun r w' => r = .returned (.tuple #[.int .i64 (-1), .iface t x]) ∧ Below w.heap.size w w') :
    Calls Tryd.prog 33 #[.slice a n cap, .int .i64 size] w fun r w' => r = .returned (.iface t x) ∧ Below w.heap.size w w' := by
  have HW := hide h
  clear h
  go_enter Tryd.func33, Tryd.ntmps33
  go_wp2_with fail
  refine HW.out.mono ?_
  rintro e1 w1 ⟨rfl, hb1⟩
  have Hb1 := hide hb1
  clear hb1
  go_wp2
  go_ret
  exact ⟨rfl, Hb1.out⟩

set_option maxHeartbeats 1000000 in
set_option maxRecDepth 100000 in
theorem check_at (ha : at_ ≠ -1) (h : Calls Tryd.prog 49 #[.slice a n cap, .int .i64 size] w fun r w' => r = .returned (.tuple #[.int .i64 at_, .iface t x]) ∧ Below w.heap.size w w') :
    Calls Tryd.prog 33 #[.slice a n cap, .int .i64 size] w fun r w' => (∃ p, r = .returned (.iface 66 (.pointer (some ⟨p, 0, none⟩))) ∧ w.heap.size ≤ p ∧ w'.cell? ⟨p, 0, none⟩ = some (.int .i64 at_) ∧ w'.cell? ⟨p, 1, none⟩ = some (.iface t x)) ∧ Below w.heap.size w w' := by
  have HW := hide h
  have ha' : (at_ == -1) = false := by simpa using ha
  clear h ha
  go_enter Tryd.func33, Tryd.ntmps33
  go_wp2_with fail
  refine HW.out.mono ?_
  rintro e1 w1 ⟨rfl, hb1⟩
  have Hb1 := hide hb1
  clear hb1
  go_wp2
  go_ret
  exact ⟨⟨w1.heap.size, rfl, Hb1.out.size, by simp, by simp⟩, Hb1.out.alloc Hb1.out.size _⟩
end

theorem check_ok (v : Value) (l : List Blk) (size : Int) (e : EV) (w : World) (hv : RowIn w v l) (hl : l.length ≤ 1000000) (he : Er2 e w) :
    Calls Tryd.prog 33 #[v, .int .i64 size] w fun r w' => CheckRes e w.heap.size (Go.Sign.fault l size) w' r ∧ Below w.heap.size w w' := by
  have HW := wrong_ok v l size e w hv hl he
  generalize Go.Sign.fault l size = f at *
  obtain ⟨c, at_⟩ := f
  obtain ⟨a, cap, rfl, _⟩ := hv
  by_cases hc : c = 0
  · subst hc
    refine (check_nil _ _ _ _ _ _ HW).mono ?_
    rintro r w' ⟨rfl, hb⟩
    exact ⟨by rw [CheckRes, if_pos (Or.inl rfl)]; rfl, hb⟩
  · obtain ⟨t, x, ev⟩ := errV_form e c hc
    simp only [ev] at HW
    by_cases ha : at_ = -1
    · subst ha
      refine (check_bare _ _ _ _ _ _ _ HW).mono ?_
      rintro r w' ⟨rfl, hb⟩
      exact ⟨by rw [CheckRes, if_pos (Or.inr rfl), ev], hb⟩
    · refine (check_at _ _ _ _ _ _ _ _ ha HW).mono ?_
      rintro r w' ⟨hr, hb⟩
      refine ⟨?_, hb⟩
      rw [CheckRes, if_neg (by simp only [not_or]; exact ⟨hc, ha⟩), ev]
      exact hr
end Go.Proofs.YtcenohaadggdiacDoor
