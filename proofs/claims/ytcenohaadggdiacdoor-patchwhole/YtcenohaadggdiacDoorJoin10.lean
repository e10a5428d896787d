/-
  Plain facts on a file's own signature: it is well, each block is found.
  What a file comes to, by its blocks: plain facts on lists.
  Plain mathematics of files that are put together: what an op adds, what ops come to, in parts and at once, and that a delta comes to its file where each block that is found is the one that is meant. No program, no walk.
  Contract of the document's PatchOf over this dump: any ops over any file.
  Contracts of the document's answer for sums of all (shift, MoreOf, SumOf, JoinSums) over this dump.
-/
import Derived.Test.YtcenohaadggdiacDoorJoin06
import Derived.Test.YtcenohaadggdiacDoorJoin02
import Derived.Test.YtcenohaadggdiacDoorJoin03
import Derived.Test.YtcenohaadggdiacDoorRefOFault
import Derived.Deep.RegionHeld3
import Derived.Deep.DeepCutAuto
import Derived.Test.YtcenohaadggdiacDoorJoin05
namespace Go.Proofs.YtcenohaadggdiacDoor
open Go.Sign (Blk)

theorem many_lt {len size i : Nat} (h1 : 1 ≤ size) (h : i < many len size) : i * size < len := by
  unfold many at h
  have := (Nat.le_div_iff_mul_le (show 0 < size by omega)).1 (show i + 1 ≤ (len + size - 1) / size from h)
  rw [Nat.succ_mul] at this
  omega
theorem many_ge {len size : Nat} (h1 : 1 ≤ size) : len ≤ many len size * size := by
  unfold many
  have := Nat.lt_mul_div_succ (len + size - 1) (show 0 < size by omega)
  rw [Nat.mul_add, Nat.mul_one, Nat.mul_comm] at this
  omega
theorem sigL_length (l : List UInt8) (size : Nat) : (sigL l size).length = many l.length size := sigK_length ..
theorem sigL_get (l : List UInt8) (size i : Nat) (h : i < (sigL l size).length) : (sigL l size)[i] = blk ((l.drop (i * size)).take size) := by
  simp [sigL, sigK]
theorem sigL_n (l : List UInt8) (size i : Nat) (h : i < (sigL l size).length) : (sigL l size)[i].n = ((min size (l.length - i * size) : Nat) : Int) := by
  rw [sigL_get, blk]
  simp
theorem sigL_strong (l : List UInt8) (size : Nat) : ∀ b ∈ sigL l size, b.strong < 4294967296 := by
  intro b hb
  simp only [sigL, sigK, List.mem_map] at hb
  obtain ⟨j, _, rfl⟩ := hb
  exact Go.Crc.crc_lt 0 _ (by decide)

theorem sig_fits (l : List UInt8) (size k : Nat) (h1 : 1 ≤ size) (hk : k < (sigL l size).length) : Go.Sign.fits size (decide (k + 1 = (sigL l size).length)) (sigL l size)[k] = true ∧ (k * size : Nat) + (sigL l size)[k].n ≤ l.length ∧ (k + 1 < (sigL l size).length → (sigL l size)[k].n = size) := by
  have hm := hk
  rw [sigL_length] at hm
  have hlt := many_lt h1 hm
  have hn := sigL_n l size k hk
  have hw : 0 ≤ (sigL l size)[k].weak ∧ (sigL l size)[k].weak < 4294967296 := by
    rw [sigL_get]
    exact wk_bounds _
  have hfull : k + 1 < (sigL l size).length → (sigL l size)[k].n = size := by
    intro h
    rw [sigL_length] at h
    have := many_lt h1 h
    rw [Nat.succ_mul] at this
    rw [hn]
    omega
  refine ⟨?_, ?_, hfull⟩
  · simp only [Go.Sign.fits, Bool.and_eq_true, Bool.or_eq_true, beq_iff_eq, decide_eq_true_eq]
    refine ⟨?_, hw⟩
    by_cases hlast : k + 1 = (sigL l size).length
    · by_cases he : (sigL l size)[k].n = size
      · exact Or.inl he
      · refine Or.inr ⟨⟨hlast, ?_⟩, ?_⟩
        · rw [hn]; omega
        · rw [hn] at he ⊢; omega
    · exact Or.inl (hfull (by omega))
  · rw [hn]; omega

theorem scan_sig (l : List UInt8) (size : Nat) (h1 : 1 ≤ size) (hl : l.length ≤ 4000) : ∀ d k, k + d = (sigL l size).length → Go.Sign.scanW size ((sigL l size).drop k) k ((k * size : Nat) : Int) = none := by
  intro d
  induction d with
  | zero =>
    intro k hk
    rw [List.drop_eq_nil_of_le (by omega), Go.Sign.scanW]
  | succ d ih =>
    intro k hk
    have hkl : k < (sigL l size).length := by omega
    obtain ⟨hf, ha, hn⟩ := sig_fits l size k h1 hkl
    rw [scan_step size (sigL l size) k _ hkl, if_pos hf, if_neg (by omega)]
    by_cases hlast : k + 1 = (sigL l size).length
    · rw [List.drop_eq_nil_of_le (by omega), Go.Sign.scanW]
    · rw [hn (by omega)]
      have := ih (k + 1) (by omega)
      rw [Nat.succ_mul] at this
      exact this
theorem fault_sig (l : List UInt8) (size : Nat) (h1 : 1 ≤ size) (h2 : size ≤ 64) (hl : l.length ≤ 4000) : Go.Sign.fault (sigL l size) size = (0, -1) := by
  have := scan_sig l size h1 hl _ 0 (Nat.zero_add _)
  simp only [List.drop_zero, Nat.zero_mul] at this
  unfold Go.Sign.fault
  rw [if_pos (by omega)]
  have h0 : ((0 : Nat) : Int) = 0 := rfl
  rw [h0] at this
  rw [this]

theorem find_le (b : Blk) : ∀ (l : List Blk) (i k : Nat), l[i]? = some b → (k : Int) ≤ findFrom b l k ∧ findFrom b l k ≤ ((k + i : Nat) : Int)
  | [], i, k, h => by simp at h
  | x :: r, i, k, h => by
    rw [findFrom]
    split
    · omega
    · rename_i hx
      cases i with
      | zero => simp at h; exact absurd h hx
      | succ i =>
        have := find_le b r i (k + 1) (by simpa using h)
        omega
theorem find_sig (l : List Blk) (i : Nat) (h : i < l.length) : 0 ≤ findOut l l[i] ∧ findOut l l[i] ≤ i := by
  have := find_le l[i] l i 0 (List.getElem?_eq_getElem h)
  unfold findOut
  omega
end Go.Proofs.YtcenohaadggdiacDoor

namespace Go.Proofs.YtcenohaadggdiacDoor
open Go.RowKit
open Go.Sign (Blk)
open Go.Delta (Opx addData addCopy addByte pd gd cost copyOp dataOp kCopy kData opFault)

/-- The block with which a file goes on. -/
def findW (L : List Blk) (l : List UInt8) : Int := findOut L (blk l)
/-- What a file comes to. -/
def dmake (L : List Blk) (size : Nat) (s : List UInt8) : List Opx := gd (findW L) size s []

theorem findFrom_lt (b : Blk) : ∀ (l : List Blk) (j : Nat), findFrom b l j < ((j + l.length : Nat) : Int)
  | [], j => by simp only [findFrom]; omega
  | x :: r, j => by
    rw [findFrom]
    split
    · simp; omega
    · have := findFrom_lt b r (j + 1)
      simp at this ⊢; omega
theorem findFrom_neg (b : Blk) : ∀ (l : List Blk) (j : Nat), findFrom b l j < 0 → findFrom b l j = -1
  | [], j, _ => rfl
  | x :: r, j, h => by
    rw [findFrom] at h ⊢
    split
    · rename_i hx; rw [if_pos hx] at h; omega
    · rename_i hx; rw [if_neg hx] at h; exact findFrom_neg b r _ h
theorem findW_lt (L : List Blk) (l : List UInt8) : findW L l < L.length := by
  have := findFrom_lt (blk l) L 0
  unfold findW findOut
  omega


theorem cost_addCopy (out : List Opx) (k : Int) : cost (addCopy out k) = cost out := by
  rcases List.eq_nil_or_concat out with rfl | ⟨r, o, rfl⟩
  · rfl
  · rw [List.concat_eq_append, Go.Delta.addCopy_snoc]
    split
    · rw [Go.Delta.cost_snoc, Go.Delta.cost_snoc]
    · rw [Go.Delta.cost_snoc (r ++ [o])]; rfl
theorem cost_addByte (out : List Opx) (b : UInt8) : cost (addByte out b) = cost out + 1 := by
  rcases List.eq_nil_or_concat out with rfl | ⟨r, o, rfl⟩
  · rfl
  · rw [List.concat_eq_append, Go.Delta.addByte_snoc]
    split
    · rw [Go.Delta.cost_snoc, Go.Delta.cost_snoc]
      simp only [ByteArray.size_append, str_len, List.length_singleton]
      omega
    · rw [Go.Delta.cost_snoc (r ++ [o])]
      simp only [dataOp, str_len, List.length_singleton]
theorem len_addCopy (out : List Opx) (k : Int) : (addCopy out k).length ≤ out.length + 1 := by
  rcases List.eq_nil_or_concat out with rfl | ⟨r, o, rfl⟩
  · simp [Go.Delta.addCopy_nil]
  · rw [List.concat_eq_append, Go.Delta.addCopy_snoc]
    split <;> simp
theorem len_addByte (out : List Opx) (b : UInt8) : (addByte out b).length ≤ out.length + 1 := by
  rcases List.eq_nil_or_concat out with rfl | ⟨r, o, rfl⟩
  · simp [Go.Delta.addByte_nil]
  · rw [List.concat_eq_append, Go.Delta.addByte_snoc]
    split <;> simp

/-- A copy of blocks that are there, or data. -/
def GoodOp (N : Nat) (o : Opx) : Prop := (∃ a n : Nat, o = copyOp a n ∧ 1 ≤ n ∧ a + n ≤ N) ∨ (∃ l : List UInt8, o = dataOp l ∧ 1 ≤ l.length)
def Good (N : Nat) (l : List Opx) : Prop := ∀ o ∈ l, GoodOp N o
theorem good_snoc {N : Nat} {r : List Opx} {o : Opx} (h : Good N r) (ho : GoodOp N o) : Good N (r ++ [o]) := by
  intro x hx
  rcases List.mem_append.1 hx with hx | hx
  · exact h x hx
  · rw [List.mem_singleton.1 hx]; exact ho
theorem good_init {N : Nat} {r : List Opx} {o : Opx} (h : Good N (r ++ [o])) : Good N r ∧ GoodOp N o := ⟨fun x hx => h x (List.mem_append_left _ hx), h o (by simp)⟩
theorem good_copy {N : Nat} {out : List Opx} (h : Good N out) {k : Int} (h0 : 0 ≤ k) (h1 : k < N) : Good N (addCopy out k) := by
  have hnew : GoodOp N (copyOp k 1) := Or.inl ⟨k.toNat, 1, by rw [Int.toNat_of_nonneg h0]; rfl, by omega, by omega⟩
  rcases List.eq_nil_or_concat out with rfl | ⟨r, o, rfl⟩
  · rw [Go.Delta.addCopy_nil]; exact good_snoc (r := []) (fun x hx => by cases hx) hnew
  · rw [List.concat_eq_append] at h ⊢
    rw [Go.Delta.addCopy_snoc]
    obtain ⟨hr, ho⟩ := good_init h
    split
    · rename_i hc
      refine good_snoc hr ?_
      rcases ho with ⟨a, n, rfl, h2, h3⟩ | ⟨l, rfl, h2⟩
      · refine Or.inl ⟨a, n + 1, by simp [copyOp], by omega, ?_⟩
        have := hc.2
        simp only [copyOp] at this
        omega
      · exact absurd hc.1 (fun e => Go.Delta.kinds_ne e.symm)
    · exact good_snoc h hnew
theorem good_byte {N : Nat} {out : List Opx} (h : Good N out) (b : UInt8) : Good N (addByte out b) := by
  have hnew : GoodOp N (dataOp [b]) := Or.inr ⟨[b], rfl, by simp⟩
  rcases List.eq_nil_or_concat out with rfl | ⟨r, o, rfl⟩
  · rw [Go.Delta.addByte_nil]; exact good_snoc (r := []) (fun x hx => by cases hx) hnew
  · rw [List.concat_eq_append] at h ⊢
    rw [Go.Delta.addByte_snoc]
    obtain ⟨hr, ho⟩ := good_init h
    split
    · rename_i hc
      refine good_snoc hr ?_
      rcases ho with ⟨a, n, rfl, h2, h3⟩ | ⟨l, rfl, h2⟩
      · exact absurd hc Go.Delta.kinds_ne
      · exact Or.inr ⟨l ++ [b], by simp only [dataOp]; rw [str_app], by simp⟩
    · exact good_snoc h hnew

/-- All at once, from what is left. -/
theorem gd_all (f : List UInt8 → Int) (size N : Nat) (hf : ∀ l, f l < N) : ∀ (m : Nat) (rest : List UInt8) (out : List Opx), rest.length ≤ m → Good N out →
    cost (gd f size rest out) ≤ cost out + rest.length ∧ (gd f size rest out).length ≤ out.length + rest.length ∧ Good N (gd f size rest out) := by
  intro m
  induction m with
  | zero =>
    intro rest out hl h
    have : rest = [] := List.length_eq_zero_iff.1 (by omega)
    subst this
    rw [gd]
    exact ⟨by omega, by omega, h⟩
  | succ m ih =>
    intro rest out hl h
    cases rest with
    | nil => rw [gd]; exact ⟨by omega, by omega, h⟩
    | cons b r =>
      rw [List.length_cons] at hl
      rw [gd]
      split
      · rename_i hk
        obtain ⟨i1, i2, i3⟩ := ih (r.drop (size - 1)) (addCopy out (f ((b :: r).take size))) (by simp; omega) (good_copy h hk (hf _))
        rw [cost_addCopy] at i1
        have := len_addCopy out (f ((b :: r).take size))
        simp only [List.length_drop] at i1 i2
        rw [List.length_cons]
        exact ⟨by omega, by omega, i3⟩
      · obtain ⟨i1, i2, i3⟩ := ih r (addByte out b) (by omega) (good_byte h b)
        rw [cost_addByte] at i1
        have := len_addByte out b
        rw [List.length_cons]
        exact ⟨by omega, by omega, i3⟩
theorem mem_cost {o : Opx} : ∀ {l : List Opx}, o ∈ l → o.data.size ≤ cost l
  | x :: r, h => by
    rw [Go.Delta.cost]
    rcases List.mem_cons.1 h with rfl | h
    · omega
    · have := mem_cost h; omega
theorem good_right {N : Nat} {l : List Opx} (h : Good N l) (hN : N ≤ 4000) (hc : cost l ≤ 4000) : ∀ o ∈ l, opFault o = 0 := by
  intro o ho
  have hm := mem_cost ho
  rcases h o ho with ⟨a, n, rfl, h2, h3⟩ | ⟨d, rfl, h2⟩
  · exact Go.Delta.opFault_copy (by omega) h2 (by omega)
  · simp only [dataOp, str_len] at hm
    exact Go.Delta.opFault_data h2 (by omega)

theorem dmake_all (L : List Blk) (size : Nat) (s : List UInt8) : cost (dmake L size s) ≤ s.length ∧ (dmake L size s).length ≤ s.length ∧ Good L.length (dmake L size s) := by
  have h := gd_all (findW L) size L.length (findW_lt L) s.length s [] (Nat.le_refl _) (fun x hx => by cases hx)
  have e0 : cost [] = 0 := rfl
  rw [e0] at h
  unfold dmake
  simpa using h

/-- Where each block at its place is found, only what lies behind is data. -/
theorem cost_front (f : List UInt8 → Int) (size N n : Nat) (t : List UInt8) (hf : ∀ l, f l < N) (h1 : 1 ≤ size) (hn : n ≤ t.length) (h : ∀ i, i * size < n → 0 ≤ f ((t.drop (i * size)).take size)) :
    cost (gd f size t []) ≤ t.length - n := by
  have key : ∀ j, j ≤ many n size → ∃ out, gd f size t [] = gd f size (t.drop (j * size)) out ∧ cost out = 0 ∧ Good N out := by
    intro j
    induction j with
    | zero => intro _; exact ⟨[], by simp, rfl, fun x hx => by cases hx⟩
    | succ j ih =>
      intro hj
      obtain ⟨out, e, hc, hg⟩ := ih (by omega)
      have hjn : j * size < n := many_lt h1 (by omega)
      have hlt : j * size < t.length := by omega
      have hk := h j hjn
      have ed := List.drop_eq_getElem_cons hlt
      refine ⟨addCopy out (f ((t.drop (j * size)).take size)), ?_, by rw [cost_addCopy]; exact hc, good_copy hg hk (hf _)⟩
      rw [e]
      conv => lhs; rw [ed]
      rw [gd, ← ed, if_pos hk, List.drop_drop]
      congr 2
      rw [Nat.succ_mul]; omega
  obtain ⟨out, e, hc, hg⟩ := key (many n size) (Nat.le_refl _)
  rw [e]
  have := (gd_all f size N hf _ (t.drop (many n size * size)) out (Nat.le_refl _) hg).1
  have hm := many_ge (len := n) h1
  rw [hc, List.length_drop] at this
  omega
theorem cost_own (s more : List UInt8) (size : Nat) (h1 : 1 ≤ size) (hd : more = [] ∨ s.length % size = 0) : cost (dmake (sigL s size) size (s ++ more)) ≤ more.length := by
  unfold dmake
  have h := cost_front (findW (sigL s size)) size (sigL s size).length s.length (s ++ more) (findW_lt _) h1 (by simp) ?_
  · simpa using h
  · intro i hi
    have him : i < (sigL s size).length := by
      rw [sigL_length]
      have := many_ge (len := s.length) h1
      rcases Nat.lt_or_ge i (many s.length size) with h | h
      · exact h
      · have : many s.length size * size ≤ i * size := Nat.mul_le_mul_right _ h
        omega
    have e : ((s ++ more).drop (i * size)).take size = (s.drop (i * size)).take size := by
      rcases hd with rfl | hd
      · simp
      · have hle : i * size + size ≤ s.length := by
          obtain ⟨q, hq⟩ := Nat.dvd_of_mod_eq_zero hd
          rw [hq, Nat.mul_comm] at hi
          have : i < q := by
            rcases Nat.lt_or_ge i q with h | h
            · exact h
            · have := Nat.mul_le_mul_right size h
              rw [Nat.mul_comm q size] at this
              rw [Nat.mul_comm i size] at *
              omega
          have h2 := Nat.mul_le_mul_right size (show i + 1 ≤ q from this)
          rw [Nat.succ_mul] at h2
          rw [hq, Nat.mul_comm size q]
          omega
        rw [List.drop_append_of_le_length (by omega), List.take_append_of_le_length (by rw [List.length_drop]; omega)]
    have := (find_sig (sigL s size) i him).1
    rw [sigL_get] at this
    unfold findW
    rw [e]
    exact this

theorem findFrom_append (b : Blk) : ∀ (l m : List Blk) (j : Nat), findFrom b (l ++ m) j = if 0 ≤ findFrom b l j then findFrom b l j else findFrom b m (j + l.length)
  | [], m, j => by simp [findFrom]
  | x :: r, m, j => by
    rw [List.cons_append, findFrom, findFrom]
    split
    · rw [if_pos (by omega)]
    · rw [findFrom_append b r m (j + 1)]
      have e : j + 1 + r.length = j + (x :: r).length := by simp; omega
      rw [e]
theorem findFrom_none (b : Blk) : ∀ (l : List Blk) (j k : Nat), findFrom b l j < 0 → findFrom b l k = -1
  | [], _, _, _ => rfl
  | x :: r, j, k, h => by
    rw [findFrom] at h ⊢
    split
    · rename_i hx; rw [if_pos hx] at h; omega
    · rename_i hx; rw [if_neg hx] at h; exact findFrom_none b r _ _ h
theorem findOut_twice (l : List Blk) (b : Blk) : findOut (l ++ l) b = findOut l b := by
  unfold findOut
  rw [findFrom_append]
  split
  · rfl
  · rename_i h
    rw [findFrom_none b l 0 _ (by omega), findFrom_neg b l 0 (by omega)]
theorem dmake_twice (l : List Blk) (size : Nat) (s : List UInt8) : dmake (l ++ l) size s = dmake l size s := by
  unfold dmake
  have : findW (l ++ l) = findW l := by
    funext x
    exact findOut_twice l (blk x)
  rw [this]

theorem scan_full (size : Int) : ∀ (l : List Blk) (i : Nat) (all : Int), 1 ≤ size → (∀ b ∈ l, b.n = size ∧ 0 ≤ b.weak ∧ b.weak < 4294967296) → all + l.length * size ≤ 4000 → Go.Sign.scanW size l i all = none
  | [], _, _, _, _, _ => rfl
  | b :: r, i, all, h1, h, hs => by
    obtain ⟨e, w0, w1⟩ := h b (List.mem_cons_self ..)
    rw [Go.Sign.scanW]
    have hf : Go.Sign.fits size r.isEmpty b = true := by
      simp only [Go.Sign.fits, Bool.and_eq_true, Bool.or_eq_true, beq_iff_eq, decide_eq_true_eq]
      exact ⟨Or.inl e, w0, w1⟩
    have hl : ((b :: r).length : Int) * size = size + r.length * size := by
      rw [List.length_cons]
      simp only [Int.natCast_add, Int.cast_ofNat_Int, Int.add_mul, Int.one_mul]
      omega
    have hp : 0 ≤ (r.length : Int) * size := Int.mul_nonneg (by omega) (by omega)
    rw [if_pos hf, if_neg (by omega)]
    exact scan_full size r (i + 1) _ h1 (fun x hx => h x (List.mem_cons_of_mem _ hx)) (by omega)
theorem fault_twice (s : List UInt8) (size : Nat) (h1 : 1 ≤ size) (h2 : size ≤ 64) (hl : s.length ≤ 2000) (hd : s.length % size = 0) : Go.Sign.fault (sigL s size ++ sigL s size) size = (0, -1) := by
  have hw := (Go.Sign.scanW_none (size := (size : Int)) (by omega) _ _ _ (Go.Sign.fault_zero (l := sigL s size) (size := size) (by rw [fault_sig s size h1 h2 (by omega)])).2).1
  obtain ⟨q, hq⟩ := Nat.dvd_of_mod_eq_zero hd
  have hm : many s.length size = q := by
    rw [hq]
    exact (many_eq h1 (by rw [Nat.mul_comm]; exact Nat.le_refl _) (by rw [Nat.mul_comm]; omega)).symm
  have hall : ∀ b ∈ sigL s size, b.n = size ∧ 0 ≤ b.weak ∧ b.weak < 4294967296 := by
    intro b hb
    obtain ⟨i, hi, rfl⟩ := List.getElem_of_mem hb
    refine ⟨?_, (hw _ hb).2.2.1, (hw _ hb).2.2.2⟩
    rw [sigL_n]
    rw [sigL_length, hm] at hi
    have h3 := Nat.mul_le_mul_right size (show i + 1 ≤ q from hi)
    rw [Nat.succ_mul, Nat.mul_comm q size, ← hq] at h3
    congr 1
    omega
  unfold Go.Sign.fault
  rw [if_pos (by omega), scan_full (size : Int) _ 0 0 (by omega) (fun b hb => by rcases List.mem_append.1 hb with hb | hb <;> exact hall b hb)]
  rw [List.length_append, sigL_length, hm]
  have : ((q + q : Nat) : Int) * size = ((2 * (size * q) : Nat) : Int) := by
    rw [← Int.natCast_mul]; congr 1; rw [Nat.add_mul, Nat.mul_comm q size]; omega
  rw [this, ← hq]
  omega
end Go.Proofs.YtcenohaadggdiacDoor

namespace Go.Proofs.YtcenohaadggdiacDoor
open Go.Sign (Blk)
open Go.Delta (Opx addCopy addByte gd cost copyOp dataOp kCopy kData noBytes opFault)

/-! ### A delta comes to its file -/
/-- What an op adds where it may. -/
def pieceV (old : List UInt8) (size : Nat) (o : Opx) : List UInt8 := if o.kind = kCopy then (old.drop (o.at_.toNat * size)).take (o.n.toNat * size) else o.data.data.toList
def pv (old : List UInt8) (size : Nat) (l : List Opx) : List UInt8 := l.flatMap (pieceV old size)
theorem pv_snoc (old : List UInt8) (size : Nat) (l : List Opx) (o : Opx) : pv old size (l ++ [o]) = pv old size l ++ pieceV old size o := by simp [pv]
theorem patchL_pv (old : List UInt8) (size N : Nat) (h1 : 1 ≤ size) (hN : ∀ k, k < N → k * size < old.length) : ∀ (l : List Opx) (i : Nat) (out : List UInt8), Good N l → out.length + (pv old size l).length ≤ 4000 → patchL old size l i out = .ok (out ++ pv old size l)
  | [], i, out, _, _ => by simp [patchL, pv]
  | o :: r, i, out, hg, hl => by
    have e : pv old size (o :: r) = pieceV old size o ++ pv old size r := by simp [pv]
    rw [e, List.length_append] at hl
    have hp : pieceO old size o = some (pieceV old size o) := by
      rcases hg o (List.mem_cons_self ..) with ⟨a, n, rfl, h2, h3⟩ | ⟨d, rfl, _⟩
      · rw [pieceO_copy, if_pos (hN _ (by omega))]
        rfl
      · unfold pieceO pieceV
        have hk : ¬ (dataOp d).kind = kCopy := fun e => Go.Delta.kinds_ne e.symm
        rw [if_neg hk, if_neg hk]
    rw [patchL, hp]
    simp only
    rw [if_neg (by omega), patchL_pv old size N h1 hN r (i + 1) _ (fun x hx => hg x (List.mem_cons_of_mem _ hx)) (by rw [List.length_append]; omega), e, List.append_assoc]
theorem pv_addCopy (old : List UInt8) (size N k : Nat) (out : List Opx) (hg : Good N out) : pv old size (addCopy out (k : Int)) = pv old size out ++ (old.drop (k * size)).take size := by
  have hnew : ∀ r : List Opx, pv old size (r ++ [copyOp (k : Int) 1]) = pv old size r ++ (old.drop (k * size)).take size := by
    intro r
    rw [pv_snoc]
    congr 1
    unfold pieceV
    rw [if_pos (show (copyOp (k : Int) 1).kind = kCopy from rfl)]
    simp [copyOp]
  rcases List.eq_nil_or_concat out with rfl | ⟨r, o, rfl⟩
  · exact hnew []
  · rw [List.concat_eq_append] at hg ⊢
    rw [Go.Delta.addCopy_snoc]
    split
    · rename_i hc
      rcases (good_init hg).2 with ⟨a, n, rfl, h2, h3⟩ | ⟨d, rfl, _⟩
      · have hk : a + n = k := by have := hc.2; simp only [copyOp] at this; omega
        subst hk
        rw [pv_snoc, pv_snoc, List.append_assoc]
        congr 1
        unfold pieceV
        rw [if_pos (show (copyOp (a : Int) (n : Int)).kind = kCopy from rfl)]
        simp only [copyOp, if_true, Int.toNat_natCast]
        rw [show ((n : Int) + 1).toNat = n + 1 by omega, Nat.succ_mul, List.take_add, List.drop_drop]
        congr 3
        rw [Nat.add_mul]
      · exact absurd hc.1.symm Go.Delta.kinds_ne
    · exact hnew _
theorem pv_addByte (old : List UInt8) (size N : Nat) (b : UInt8) (out : List Opx) (hg : Good N out) : pv old size (addByte out b) = pv old size out ++ [b] := by
  have hd : ∀ d : List UInt8, pieceV old size (dataOp d) = d := by
    intro d
    unfold pieceV
    rw [if_neg (show ¬ (dataOp d).kind = kCopy from fun e => Go.Delta.kinds_ne e.symm)]
    exact strL d
  rcases List.eq_nil_or_concat out with rfl | ⟨r, o, rfl⟩
  · rw [Go.Delta.addByte_nil]
    simp [pv, hd]
  · rw [List.concat_eq_append] at hg ⊢
    rw [Go.Delta.addByte_snoc]
    split
    · rename_i hc
      rcases (good_init hg).2 with ⟨a, n, rfl, h2, h3⟩ | ⟨d, rfl, _⟩
      · exact absurd hc Go.Delta.kinds_ne
      · have e : (⟨(dataOp d).kind, (dataOp d).at_, (dataOp d).n, (dataOp d).data ++ str [b]⟩ : Opx) = dataOp (d ++ [b]) := by
          simp only [dataOp]; rw [str_app]
        rw [e, pv_snoc, pv_snoc, hd, hd, List.append_assoc]
    · rw [pv_snoc, hd]
/-- Where each block that is found in s is the one that is meant, the ops come to s. -/
theorem pv_gd (old : List UInt8) (f : List UInt8 → Int) (size N : Nat) (h1 : 1 ≤ size) (hf : ∀ l, f l < N) (s : List UInt8) (hb : ∀ m, 0 ≤ f ((s.drop m).take size) → (old.drop ((f ((s.drop m).take size)).toNat * size)).take size = (s.drop m).take size) :
    ∀ (d m : Nat) (out : List Opx), s.length - m ≤ d → Good N out → pv old size (gd f size (s.drop m) out) = pv old size out ++ s.drop m := by
  intro d
  induction d with
  | zero =>
    intro m out hd hg
    rw [List.drop_eq_nil_of_le (by omega), gd]
    simp
  | succ d ih =>
    intro m out hd hg
    by_cases hm : m < s.length
    · have hm' := hb m
      have e := List.drop_eq_getElem_cons hm
      rw [e] at hm' ⊢
      rw [gd]
      split
      · rename_i hk
        have hx := hm' hk
        obtain ⟨k, hk'⟩ := Int.eq_ofNat_of_zero_le hk
        have hfk := hf ((s[m] :: s.drop (m + 1)).take size)
        rw [hk'] at hx hfk ⊢
        rw [List.drop_drop, show m + 1 + (size - 1) = m + size by omega, ih (m + size) _ (by omega) (good_copy hg (by omega) hfk), pv_addCopy old size N k out hg, List.append_assoc]
        congr 1
        simp only [Int.toNat_natCast] at hx
        rw [hx, ← e]
        have h2 := List.take_append_drop size (s.drop m)
        rw [List.drop_drop] at h2
        exact h2
      · rw [ih (m + 1) _ (by omega) (good_byte hg _), pv_addByte old size N _ out hg, List.append_assoc]
        rfl
    · rw [List.drop_eq_nil_of_le (by omega), gd]
      simp
theorem pv_dmake (old : List UInt8) (L : List Blk) (size : Nat) (h1 : 1 ≤ size) (s : List UInt8) (hb : ∀ m, 0 ≤ findW L ((s.drop m).take size) → (old.drop ((findW L ((s.drop m).take size)).toNat * size)).take size = (s.drop m).take size) : pv old size (dmake L size s) = s := by
  have h := pv_gd old (findW L) size L.length h1 (findW_lt L) s hb s.length 0 [] (by omega) (fun x hx => by cases hx)
  simpa [pv, dmake] using h
theorem findFrom_get (b : Blk) : ∀ (l : List Blk) (j k : Nat), findFrom b l j = (k : Int) → ∃ (_ : j ≤ k) (_ : k - j < l.length), l[k - j] = b
  | [], j, k, h => by simp [findFrom] at h
  | x :: r, j, k, h => by
    rw [findFrom] at h
    split at h
    · rename_i hx
      obtain rfl : j = k := by omega
      exact ⟨Nat.le_refl _, by simp, by simpa using hx⟩
    · obtain ⟨h1, h2, h3⟩ := findFrom_get b r (j + 1) k h
      refine ⟨by omega, by simp; omega, ?_⟩
      have e : k - j = (k - (j + 1)) + 1 := by omega
      simp only [e, List.getElem_cons_succ]
      exact h3
/-- A block that is found has these sums. -/
theorem findW_sig {old c : List UInt8} {size k : Nat} (h : findW (sigL old size) c = (k : Int)) : k < many old.length size ∧ blk ((old.drop (k * size)).take size) = blk c := by
  obtain ⟨_, h2, h3⟩ := findFrom_get _ _ _ _ h
  simp only [Nat.sub_zero] at h2 h3
  rw [sigL_get] at h3
  rw [sigL_length] at h2
  exact ⟨h2, h3⟩
/-- Unlike parts with the same sums as a block of old. -/
def Clash (old s : List UInt8) (size : Nat) : Prop :=
  ∃ i m, i < many old.length size ∧ m + (min size (old.length - i * size)) ≤ s.length ∧ (s.drop m).take (min size (old.length - i * size)) ≠ (old.drop (i * size)).take size ∧ blk ((s.drop m).take (min size (old.length - i * size))) = blk ((old.drop (i * size)).take size)
/-- TRIDGELL and MACKERRAS: with no clash the delta to old's signature, over old, comes to s. -/
theorem patch_whole (old s : List UInt8) (size : Nat) (h1 : 1 ≤ size) (hs : s.length ≤ 4000) (hc : ¬ Clash old s size) : patchL old size (dmake (sigL old size) size s) 0 [] = .ok s := by
  have e := pv_dmake old (sigL old size) size h1 s (by
    intro m hm
    obtain ⟨k, hk⟩ := Int.eq_ofNat_of_zero_le hm
    rw [hk, Int.toNat_natCast]
    obtain ⟨h2, h3⟩ := findW_sig hk
    apply Classical.byContradiction
    intro hne
    have hn : ((s.drop m).take size).length = min size (old.length - k * size) := by
      have := congrArg Blk.n h3
      simp only [blk, List.length_take, List.length_drop] at this ⊢
      omega
    have hlen : min size (s.length - m) = min size (old.length - k * size) := by simpa using hn
    have hkl := many_lt h1 h2
    have et : (s.drop m).take (min size (old.length - k * size)) = (s.drop m).take size := by
      rw [← hlen]
      rw [show min size (s.length - m) = min size (s.drop m).length by simp, List.take_eq_take_min (i := size)]
    refine hc ⟨k, m, h2, by omega, ?_, ?_⟩
    · rw [et]; exact fun e => hne e.symm
    · rw [et]; exact h3.symm)
  have hg := (dmake_all (sigL old size) size s).2.2
  have h := patchL_pv old size (sigL old size).length h1 (fun k hk => many_lt h1 (by rw [sigL_length] at hk; exact hk)) (dmake (sigL old size) size s) 0 [] hg (by rw [e]; simpa using hs)
  rw [e] at h
  simpa using h
/-- Without a signature always, from nothing; and all of it is data. -/
theorem patch_none (s : List UInt8) (size : Nat) (h1 : 1 ≤ size) (hs : s.length ≤ 4000) : patchL [] size (dmake [] size s) 0 [] = .ok s ∧ cost (dmake [] size s) = s.length := by
  have hn : ∀ c : List UInt8, findW [] c = -1 := fun c => rfl
  have e := pv_dmake [] [] size h1 s (fun m hm => by rw [hn] at hm; omega)
  obtain ⟨hc, _, hg⟩ := dmake_all [] size s
  have h := patchL_pv [] size 0 h1 (fun k hk => by omega) (dmake [] size s) 0 [] hg (by rw [e]; simpa using hs)
  rw [e] at h
  refine ⟨by simpa using h, ?_⟩
  have hlen : ∀ l : List Opx, Good 0 l → (pv [] size l).length = cost l := by
    intro l
    induction l with
    | nil => intro _; rfl
    | cons o r ih =>
      intro hg
      have e : pv [] size (o :: r) = pieceV [] size o ++ pv [] size r := by simp [pv]
      rw [e, List.length_append, ih (fun x hx => hg x (List.mem_cons_of_mem _ hx)), cost]
      congr 1
      rcases hg o (List.mem_cons_self ..) with ⟨a, n, rfl, h2, h3⟩ | ⟨d, rfl, _⟩
      · omega
      · unfold pieceV
        rw [if_neg (show ¬ (dataOp d).kind = kCopy from fun e => Go.Delta.kinds_ne e.symm), lenL]
  have := hlen _ hg
  rw [e] at this
  exact this.symm
end Go.Proofs.YtcenohaadggdiacDoor

namespace Go.Proofs.YtcenohaadggdiacDoor
open Go.RowKit
open Go.Delta (Opx copyOp dataOp kCopy kData noBytes)

set_option maxHeartbeats 2000000 in
set_option maxRecDepth 100000 in
theorem patchOf_bound (old : ByteArray) (size : Int) (a : Option Addr) (n c : Nat) (w : World) (h : ¬ (1 ≤ size ∧ size ≤ 64 ∧ old.size ≤ 4000)) :
    Calls Tryd.prog 23 #[.string old, .int .i64 size, .slice a n c] w fun r w' => r = .returned (.tuple #[.string ⟨#[]⟩, .agg #[.int .i64 2, .int .i64 (-1)]]) ∧ Below w.heap.size w w' := by
  have HB := hide (fun W => bare_ok 2 W)
  have H := hide h
  clear h
  go_enter Tryd.func23, Tryd.ntmps23
  go_upto_region 1 with fail
  have Hq0 := hide (HvAt.fresh w 0 0 46)
  have Hb0 := hide ((Below.refl w.heap.size w).alloc (Nat.le_refl _) (.cells #[.int .i64 0, .int .i64 0] 46))
  go_cut [26] (fun v26 wc => v26 = .bool true ∧ wc = w.alloc (.cells #[.int .i64 0, .int .i64 0] 46))
  case first =>
    by_cases e1 : size < 1
    · have c1 : decide (size < 1) = true := by simp; omega
      go_wp2_with fail
      go_meet
      case rel => exact ⟨rfl, rfl⟩
    · have c1 : decide (size < 1) = false := by simp; omega
      by_cases e2 : 64 < size
      · have c2 : decide ((64 : Int) < size) = true := by simp; omega
        go_wp2_with fail
        go_meet
        case rel => exact ⟨rfl, rfl⟩
      · have c2 : decide ((64 : Int) < size) = false := by simp; omega
        have c3 : decide ((4000 : Int) < old.size) = true := by have := H.out; simp; omega
        go_wp2_with fail
        go_meet
        case rel => exact ⟨rfl, rfl⟩
  case rest =>
    obtain ⟨rfl, rfl⟩ := hcut
    go_wp2_with fail
    refine (HB.out _).mono ?_
    rintro r w3 ⟨rfl, hb3⟩
    have hq3 := Hq0.out.below hb3 Hq0.out.lt
    have Hq3 := hide hq3
    have Hb3 := hide (bthen Hb0.out hb3)
    clear hb3 Hq0 Hb0
    obtain ⟨q0, q1, p0, p1, qlt⟩ := hq3
    go_wp2_with fail
    (try simp only [Exit.inBlock, Exit.then])
    refine bodyPost_ret (v := .tuple #[.string ⟨#[]⟩, .agg #[.int .i64 2, .int .i64 (-1)]]) ?_ rfl ⟨rfl, (Hb3.out.setCell (by simp) _).setCell (by simp) _⟩
    obtain ⟨x0, x1, _, _, _⟩ := Hq3.out.set 2 (-1)
    simp only [results, show Tryd.f23.results = #[.tmp 6, .cell 7 46] from rfl]
    go_simp

set_option maxHeartbeats 2000000 in
set_option maxRecDepth 100000 in
theorem patchOf_fault (old : ByteArray) (size : Int) (v : Value) (ops : List Opx) (w : World) (h1 : 1 ≤ size) (h2 : size ≤ 64) (ho : old.size ≤ 4000) (hv : ORow w v ops) (hl : ops.length ≤ 1000000) (hs : ∀ o ∈ ops, o.data.size ≤ 1000000) (hf : (Go.Delta.faultO ops).1 ≠ 0) :
    Calls Tryd.prog 23 #[.string old, .int .i64 size, v] w fun r w' => r = .returned (.tuple #[.string ⟨#[]⟩, .agg #[.int .i64 (Go.Delta.faultO ops).1, .int .i64 (Go.Delta.faultO ops).2]]) ∧ Below w.heap.size w w' := by
  have HF := hide (fun W (k : ORow W v ops) => opsFault_ok v ops W k hl hs)
  rw [ofault_eq] at HF
  have HV := hide (hv.below ((Below.refl w.heap.size w).alloc (Nat.le_refl _) (.cells #[.int .i64 0, .int .i64 0] 46)))
  obtain ⟨a, c, rfl, _⟩ := hv
  generalize Go.Delta.faultO ops = f at *
  obtain ⟨fc, fa⟩ := f
  simp only at HF hf ⊢
  have hfc : 0 < (fc : Int) := by omega
  have ho' : (old.size : Int) ≤ 4000 := by omega
  clear hf hs
  go_enter Tryd.func23, Tryd.ntmps23
  go_wp2_with fail
  refine (HF.out _ HV.out).mono ?_
  rintro r w2 ⟨rfl, hb2⟩
  have hq2 := (HvAt.fresh w 0 0 46).below hb2 (by simp)
  have hba : Below (w.heap.size + 1) w2 (w2.alloc (.cells #[.int .i64 (fc : Int), .int .i64 fa] 46)) := (Below.refl _ _).alloc (by have := hb2.size; simp at this; omega) _
  have hq3 := hq2.below hba (by omega)
  have Hq3 := hide hq3
  have Hb3 := hide (((Below.refl w.heap.size w).alloc (Nat.le_refl _) (.cells #[.int .i64 0, .int .i64 0] 46)).trans ((hb2.mono (by simp)).trans (hba.mono (by omega))))
  have hne : w.heap.size < w2.heap.size := by have := hb2.size; simp at this; omega
  clear hb2 hba hq2 HF HV
  have hr3 := HvAt.fresh w2 fc fa 46
  obtain ⟨q0, q1, p0, p1, qlt⟩ := hq3
  obtain ⟨r0, r1, _, _, _⟩ := hr3
  go_wp2_with fail
  generalize w2.alloc (.cells #[.int .i64 (fc : Int), .int .i64 fa] 46) = w3 at *
  generalize w2.heap.size = m at *
  have k0 : (((w3.setCell ⟨w.heap.size, 0, none⟩ (.int .i64 (fc : Int))).setCell ⟨w.heap.size, 1, none⟩ (.int .i64 fa)).drew).cell? ⟨m, 0, none⟩ = some (.int .i64 (fc : Int)) := by
    show ((w3.setCell _ _).setCell _ _).cell? _ = _
    rw [World.cell?_setCell_other _ _ _ _ (by simp <;> omega), World.cell?_setCell_other _ _ _ _ (by simp <;> omega)]; exact r0
  have k1 : (((w3.setCell ⟨w.heap.size, 0, none⟩ (.int .i64 (fc : Int))).setCell ⟨w.heap.size, 1, none⟩ (.int .i64 fa)).drew).cell? ⟨m, 1, none⟩ = some (.int .i64 fa) := by
    show ((w3.setCell _ _).setCell _ _).cell? _ = _
    rw [World.cell?_setCell_other _ _ _ _ (by simp <;> omega), World.cell?_setCell_other _ _ _ _ (by simp <;> omega)]; exact r1
  have HK := hide (And.intro k0 k1)
  clear k0 k1
  go_region_held3 (fun w' => w'.cell? ⟨m, 0, none⟩ = some (.int .i64 (fc : Int)) ∧ w'.cell? ⟨m, 1, none⟩ = some (.int .i64 fa)) (first | exact ⟨r0, r1⟩ | exact HK.out) (fail)
  all_goals
    go_wp2_with fail
    (try simp only [Exit.inBlock, Exit.then])
    refine bodyPost_ret (v := .tuple #[.string ⟨#[]⟩, .agg #[.int .i64 fc, .int .i64 fa]]) ?_ rfl ⟨rfl, ((Hb3.out.setCell (by simp) _).setCell (by simp) _).drew⟩
    obtain ⟨x0, x1, _, _, _⟩ := (Hq3.out.set fc fa).drew
    simp only [results, show Tryd.f23.results = #[.tmp 6, .cell 7 46] from rfl]
    go_simp

/-- What PatchOf answers of right ops. -/
def PRes (R : Except (Nat × Nat) (List UInt8)) : ByteArray × Nat × Int := match R with | .ok all => (str all, 0, -1) | .error (c, i) => (⟨#[]⟩, c, (i : Int))
theorem piece_step (old : List UInt8) (a k size : Nat) : (old.drop (a * size)).take (k * size) ++ (old.drop ((a + k) * size)).take size = (old.drop (a * size)).take ((k + 1) * size) := by
  rw [Nat.succ_mul, List.take_add, List.drop_drop, ← Nat.add_mul]

set_option maxHeartbeats 4000000 in
set_option maxRecDepth 100000 in
theorem patchOf_main (old : ByteArray) (size : Nat) (v : Value) (ops : List Opx) (w : World) (h1 : 1 ≤ size) (h2 : size ≤ 64) (ho : old.size ≤ 4000) (hv : ORow w v ops) (hl : ops.length ≤ 1000000) (hs : ∀ o ∈ ops, o.data.size ≤ 1000000) (hf : (Go.Delta.faultO ops).1 = 0) :
    Calls Tryd.prog 23 #[.string old, .int .i64 size, v] w fun r w' => r = .returned (.tuple #[.string (PRes (patchL old.data.toList size ops 0 [])).1, .agg #[.int .i64 (PRes (patchL old.data.toList size ops 0 [])).2.1, .int .i64 (PRes (patchL old.data.toList size ops 0 [])).2.2]]) ∧ Below w.heap.size w w' := by
  have HF := hide (fun W (k : ORow W v ops) => opsFault_ok v ops W k hl hs)
  rw [ofault_eq] at HF
  have HFn := hide (fun W => fine_ok W)
  have HW := hide (Go.Delta.faultO_zero hf)
  have hv0 := hv.below ((Below.refl w.heap.size w).alloc (Nat.le_refl _) (.cells #[.int .i64 0, .int .i64 0] 46))
  have HV := hide hv0
  obtain ⟨a, c, rfl, hvc⟩ := hv
  have HVc := hide hvc
  generalize Go.Delta.faultO ops = f at *
  obtain ⟨fc, fa⟩ := f
  simp only at HF hf
  subst hf
  have ho' : (old.size : Int) ≤ 4000 := by omega
  have h1' : (1 : Int) ≤ size := by omega
  have h2' : (size : Int) ≤ 64 := by omega
  have hl' : (ops.length : Int) ≤ 1000000 := by omega
  have HR0 : Hid (patchL old.data.toList size (ops.drop 0) 0 [] = patchL old.data.toList size ops 0 []) := rfl
  generalize patchL old.data.toList size ops 0 [] = R at *
  clear hv0 hs hvc
  go_enter Tryd.func23, Tryd.ntmps23
  go_wp2_with fail
  refine (HF.out _ HV.out).mono ?_
  rintro r w2 ⟨rfl, hb2⟩
  have hq2 := (HvAt.fresh w 0 0 46).below hb2 (by simp)
  have hba : Below w2.heap.size w2 (w2.alloc (.cells #[.int .i64 0, .int .i64 fa] 46)) := (Below.refl _ _).alloc (Nat.le_refl _) _
  have Hq3 := hide (hq2.below hba (by have := hb2.size; simp at this; omega))
  have Hb3 := hide (((Below.refl w.heap.size w).alloc (Nat.le_refl _) (.cells #[.int .i64 0, .int .i64 0] 46)).trans ((hb2.mono (by simp)).trans (hba.mono (by have := hb2.size; simp at this; omega))))
  have Hne : Hid (w.heap.size < (w2.alloc (.cells #[.int .i64 0, .int .i64 fa] 46)).heap.size) := by have := hb2.size; simp at this; simp [Hid]; omega
  clear hb2 hba hq2 HF HV
  go_wp2_with fail
  generalize w2.alloc (.cells #[.int .i64 0, .int .i64 fa] 46) = w3 at *
  go_loopw [9, 10] (fun t9 t10 wr => ∃ (j : Nat) (out : List UInt8), t10 = .int .i64 j ∧ t9 = .string (str out) ∧ j ≤ ops.length ∧ Hid (out.length ≤ 4000) ∧ Hid (HvAt w.heap.size wr 0 0) ∧ Hid (Below w.heap.size w wr) ∧ Hid (patchL old.data.toList size (ops.drop j) j out = R)) (fun _ t10 _ => ops.length - (intOf t10).toNat)
  case atStart => exact ⟨0, [], rfl, rfl, by omega, by simp [Hid], Hq3.out, Hb3.out, HR0.out⟩
  case round =>
    clear HR0 Hq3 Hb3
    obtain ⟨j, out, rfl, rfl, hj, Hout, Hq, Hb, HI⟩ := hrel
    by_cases hlt : j < ops.length
    · have hlt' : (j : Int) < ops.length := by omega
      have hok := HW.out ops[j] (List.getElem_mem hlt)
      have HI' := hide (patchL_step old.data.toList size ops j out hlt)
      rw [HI.out] at HI'
      obtain ⟨b, o, rfl, hc⟩ := HVc.out (by omega)
      obtain ⟨c0, c1, c2, c3⟩ := hc j hlt
      have d0 := (Hb.out.cell (World.block_lt_of_cell? _ _ c0)).trans c0
      have d1 := (Hb.out.cell (World.block_lt_of_cell? _ _ c1)).trans c1
      have d2 := (Hb.out.cell (World.block_lt_of_cell? _ _ c2)).trans c2
      have d3 := (Hb.out.cell (World.block_lt_of_cell? _ _ c3)).trans c3
      have hos : (str out).size ≤ 4000 := by rw [str_len]; exact Hout.out
      clear hc c0 c1 c2 c3 HI HVc HW
      generalize ops[j] = bk at *
      rcases Go.Delta.op_right hok with ⟨at_, n, rfl, hat, hn1, hn2⟩ | ⟨d, rfl, hd1, hd2⟩
      · have hI := HI'.out
        rw [pieceO_copy] at hI
        have HI2 := hide hI
        have Hop := hide (OpAt.fresh wr (copyOp at_ n) 61)
        have Hqa := hide (Hq.out.below ((Below.refl _ _).alloc (Nat.le_refl _) (.cells #[.string (copyOp at_ n).kind, .int .i64 (copyOp at_ n).at_, .int .i64 (copyOp at_ n).n, .string (copyOp at_ n).data] 61)) Hq.out.lt)
        have Hba := hide (Hb.out.alloc Hb.out.size (.cells #[.string (copyOp at_ n).kind, .int .i64 (copyOp at_ n).at_, .int .i64 (copyOp at_ n).n, .string (copyOp at_ n).data] 61))
        have hat' : (at_ : Int) ≤ 4000 := by omega
        have hn' : (n : Int) ≤ 4000 := by omega
        have hn1' : (1 : Int) ≤ n := by omega
        simp only [copyOp] at d0 d1 d2 d3 Hop Hqa Hba
        unfold kCopy at d0 Hop Hqa Hba
        unfold noBytes at d3 Hop Hqa Hba
        clear hok HI' Hq Hb hI
        go_wp2_with fail
        generalize wr.alloc (.cells #[.string ⟨#[99, 111, 112, 121]⟩, .int .i64 (at_ : Int), .int .i64 (n : Int), .string ⟨#[]⟩] 61) = wo at *
        generalize wr.heap.size = p at *
        clear d0 d1 d2 d3
        obtain ⟨o0, o1, o2, o3, _, _, _, _, olt⟩ := Hop.out
        simp only at o0 o1 o2 o3
        have H0 : Hid (str ((old.data.toList.drop (at_ * size)).take (0 * size)) = ⟨#[]⟩) := by simp [Hid, str]
        have HOL := hide (lenL old)
        generalize hOB : str out = OB at *
        have HOB := hide hOB
        have Hj := hide (And.intro hj hlt)
        clear hOB
        go_loopw [12, 13] (fun t12 t13 wi => ∃ k : Nat, t13 = .int .i64 k ∧ t12 = .string (str ((old.data.toList.drop (at_ * size)).take (k * size))) ∧ k ≤ n ∧ Hid (k = 0 ∨ (at_ + k - 1) * size < old.size) ∧ wi = wo) (fun _ t13 _ => n - (intOf t13).toNat)
        case atStart => exact ⟨0, rfl, by rw [H0.out], by omega, Or.inl rfl, rfl⟩
        case round =>
          clear H0
          obtain ⟨k, rfl, rfl, hkn, Hex, rfl⟩ := hrel
          have hPl : (str ((old.data.toList.drop (at_ * size)).take (k * size))).size ≤ 4000 := by rw [str_len, List.length_take, List.length_drop, lenL]; omega
          by_cases hk : k < n
          · have hk' : (k : Int) < n := by omega
            obtain ⟨F, hF⟩ : ∃ F, F = (at_ + k) * size := ⟨_, rfl⟩
            have hFi : ((at_ : Int) + (k : Int)) * (size : Int) = (F : Int) := by rw [hF, Int.natCast_mul, Int.natCast_add]
            have hF4 : F ≤ 512000 := by rw [hF]; exact Nat.le_trans (Nat.mul_le_mul (show at_ + k ≤ 8000 by omega) h2) (by decide)
            have hF4' : (F : Int) ≤ 512000 := by omega
            have HF := hide hF
            by_cases hin : F < old.size
            · have hin' : (F : Int) < old.size := by omega
              obtain ⟨T, hT⟩ : ∃ T : Nat, (T = old.size ∧ old.size < F + size) ∨ (T = F + size ∧ F + size ≤ old.size) := by
                by_cases h : old.size < F + size
                · exact ⟨_, Or.inl ⟨rfl, h⟩⟩
                · exact ⟨_, Or.inr ⟨rfl, by omega⟩⟩
              have HT := hide hT
              have hTo : T ≤ old.size := by omega
              have hFT : F < T := by omega
              have ex : (old.extract F T).data.toList = (old.data.toList.drop F).take size := by
                rw [extractL]
                rcases hT with ⟨rfl, h⟩ | ⟨rfl, h⟩
                · rw [List.take_of_length_le (by rw [List.length_drop, lenL]; omega), List.take_of_length_le (by rw [List.length_drop, lenL]; omega)]
                · congr 1; omega
              have Hst : Hid (str ((old.data.toList.drop (at_ * size)).take (k * size)) ++ old.extract F T = str ((old.data.toList.drop (at_ * size)).take ((k + 1) * size))) := by
                apply ext_of_list
                rw [appendL, strL, strL, ex, hF, piece_step]
              have hes : (old.extract F T).size ≤ 4000 := by rw [ByteArray.size_extract]; omega
              have hnx : (at_ + (k + 1) - 1) * size < old.size := by rw [show at_ + (k + 1) - 1 = at_ + k by omega, ← hF]; exact hin
              have Hnx := hide hnx
              generalize str ((old.data.toList.drop (at_ * size)).take (k * size)) = PB at *
              clear hT ex hF hnx Hex
              go_upto_if 75 with fail
              go_cut [15] (fun v15 wc => v15 = .int .i64 T ∧ wc = wr)
              case first =>
                rcases HT.out with ⟨e, h⟩ | ⟨e, h⟩
                · subst e
                  have h' : (old.size : Int) < (F : Int) + size := by omega
                  go_wp2_with fail
                  go_meet
                  case rel => exact ⟨rfl, rfl⟩
                · have h' : (F : Int) + size ≤ old.size := by omega
                  have e' : ((F : Int) + size) = (T : Int) := by omega
                  have E' := hide e'
                  clear e' e
                  go_wp2_with fail
                  go_meet
                  case rel => exact ⟨by rw [E'.out], rfl⟩
              case rest =>
                obtain ⟨rfl, rfl⟩ := hcut
                have hFT' : (F : Int) < T := by omega
                have hTo' : (T : Int) ≤ old.size := by omega
                go_wp2_with fail
                go_roundw
                case rel => exact ⟨k + 1, by go_num, by rw [← Hst.out], by omega, Or.inr Hnx.out, trivial⟩
                case measure => simp [intOf]; omega
            · have hin' : (old.size : Int) ≤ F := by omega
              have hR := HI2.out
              rw [if_neg (by
                rw [lenL]
                have : F ≤ (at_ + n - 1) * size := by rw [hF]; exact Nat.mul_le_mul_right _ (by omega)
                omega)] at hR
              simp only at hR
              subst hR
              obtain ⟨q0, q1, p0, p1, qlt⟩ := Hqa.out
              clear hF HI2
              go_wp2_with fail
              (try simp only [Exit.inBlock, Exit.then])
              refine bodyPost_ret (v := .tuple #[.string ⟨#[]⟩, .agg #[.int .i64 6, .int .i64 j]]) ?_ rfl ⟨rfl, (Hba.out.setCell (by simp) _).setCell (by simp) _⟩
              obtain ⟨x0, x1, _, _, _⟩ := Hqa.out.set 6 j
              simp only [results, show Tryd.f23.results = #[.tmp 6, .cell 7 46] from rfl]
              go_simp
          · have hke : k = n := by omega
            subst hke
            have hle : (k : Int) ≤ (k : Int) := Int.le_refl _
            have hR := HI2.out
            rw [if_pos (by rw [lenL]; have := Hex.out; omega)] at hR
            simp only at hR
            have Hap := hide (str_app out ((old.data.toList.drop (at_ * size)).take (k * size)))
            rw [HOB.out] at Hap
            generalize (old.data.toList.drop (at_ * size)).take (k * size) = P at *
            have hcs : (OB ++ str P).size = out.length + P.length := by rw [ByteArray.size_append, ← HOB.out, str_len, str_len]
            have Hcs := hide hcs
            generalize str P = PB at *
            clear hcs HI2 Hex
            by_cases hfull : 4000 < out.length + P.length
            · have t1 : decide ((4000 : Int) < (OB.size : Int) + PB.size) = true := by have := Hcs.out; rw [ByteArray.size_append] at this; simp; omega
              rw [if_pos hfull] at hR
              subst hR
              obtain ⟨q0, q1, p0, p1, qlt⟩ := Hqa.out
              go_wp2_with fail
              (try simp only [Exit.inBlock, Exit.then])
              refine bodyPost_ret (v := .tuple #[.string ⟨#[]⟩, .agg #[.int .i64 8, .int .i64 j]]) ?_ rfl ⟨rfl, (Hba.out.setCell (by simp) _).setCell (by simp) _⟩
              obtain ⟨x0, x1, _, _, _⟩ := Hqa.out.set 8 j
              simp only [results, show Tryd.f23.results = #[.tmp 6, .cell 7 46] from rfl]
              go_simp
            · have t1 : decide ((4000 : Int) < (OB.size : Int) + PB.size) = false := by have := Hcs.out; rw [ByteArray.size_append] at this; simp; omega
              rw [if_neg hfull] at hR
              have HI := hide hR
              clear hR
              go_wp2_with fail
              go_roundw
              case rel => exact ⟨j + 1, out ++ P, by go_num, by rw [← Hap.out], by have := Hj.out; omega, by simp only [Hid, List.length_append]; omega, Hqa.out, Hba.out, HI.out.symm⟩
              case measure => have := Hj.out; simp [intOf]; omega
      · have hI := HI'.out
        rw [pieceO_data] at hI
        simp only at hI
        have Hop := hide (OpAt.fresh wr (dataOp d) 61)
        have Hqa := hide (Hq.out.below ((Below.refl _ _).alloc (Nat.le_refl _) (.cells #[.string (dataOp d).kind, .int .i64 (dataOp d).at_, .int .i64 (dataOp d).n, .string (dataOp d).data] 61)) Hq.out.lt)
        have Hba := hide (Hb.out.alloc Hb.out.size (.cells #[.string (dataOp d).kind, .int .i64 (dataOp d).at_, .int .i64 (dataOp d).n, .string (dataOp d).data] 61))
        have hkd : kData ≠ kCopy := fun e => Go.Delta.kinds_ne e.symm
        have ek := kind_copy hkd
        have hds : (str d).size ≤ 4000 := by rw [str_len]; exact hd2
        have Hap := hide (str_app out d)
        have Hlen : Hid ((str out ++ str d).size = out.length + d.length) := by rw [str_app, str_len, List.length_append]; exact rfl
        simp only [dataOp] at d0 d1 d2 d3 Hop Hqa Hba
        unfold kData at d0 ek Hop Hqa Hba
        clear hkd hok HI' Hq Hb
        go_wp2_with fail
        generalize wr.alloc (.cells #[.string ⟨#[100, 97, 116, 97]⟩, .int .i64 0, .int .i64 0, .string (str d)] 61) = wo at *
        generalize wr.heap.size = p at *
        clear d0 d1 d2 d3
        obtain ⟨o0, o1, o2, o3, _, _, _, _, olt⟩ := Hop.out
        simp only at o0 o1 o2 o3
        generalize hOB : str out = OB at *
        generalize hDB : str d = DB at *
        have hcs : (OB ++ DB).size = out.length + d.length := by rw [ByteArray.size_append, ← hOB, ← hDB, str_len, str_len]
        have Hcs := hide hcs
        have HOB := hide hOB
        have HDB := hide hDB
        have Hj := hide (And.intro hj hlt)
        clear hOB hDB hcs Hlen hd1 hd2
        go_loopw [12, 13] (fun t12 t13 wi => t12 = .string DB ∧ t13 = .int .i64 0 ∧ wi = wo) (fun _ _ _ => 0)
        case atStart => exact ⟨rfl, rfl, rfl⟩
        case round =>
          obtain ⟨rfl, rfl, rfl⟩ := hrel
          by_cases hfull : 4000 < out.length + d.length
          · have t1 : decide ((4000 : Int) < (OB.size : Int) + DB.size) = true := by have := Hcs.out; rw [ByteArray.size_append] at this; simp; omega
            rw [if_pos hfull] at hI
            subst hI
            obtain ⟨q0, q1, p0, p1, qlt⟩ := Hqa.out
            go_wp2_with fail
            (try simp only [Exit.inBlock, Exit.then])
            refine bodyPost_ret (v := .tuple #[.string ⟨#[]⟩, .agg #[.int .i64 8, .int .i64 j]]) ?_ rfl ⟨rfl, (Hba.out.setCell (by simp) _).setCell (by simp) _⟩
            obtain ⟨x0, x1, _, _, _⟩ := Hqa.out.set 8 j
            simp only [results, show Tryd.f23.results = #[.tmp 6, .cell 7 46] from rfl]
            go_simp
          · have t1 : decide ((4000 : Int) < (OB.size : Int) + DB.size) = false := by have := Hcs.out; rw [ByteArray.size_append] at this; simp; omega
            rw [if_neg hfull] at hI
            have HI := hide hI
            clear hI
            go_wp2_with fail
            go_roundw
            case rel => exact ⟨j + 1, out ++ d, by go_num, by rw [← Hap.out], by have := Hj.out; omega, by simp only [Hid, List.length_append]; omega, Hqa.out, Hba.out, HI.out.symm⟩
            case measure => have := Hj.out; simp [intOf]; omega
    · have hje : j = ops.length := by omega
      subst hje
      have hR : R = .ok out := by have := HI.out; rw [List.drop_eq_nil_of_le (Nat.le_refl _), patchL] at this; exact this.symm
      subst hR
      clear HI
      go_wp2_with fail
      refine (HFn.out _).mono ?_
      rintro r w4 ⟨rfl, hb4⟩
      have hq4 := Hq.out.below hb4 Hq.out.lt
      have Hq4 := hide hq4
      have Hb4 := hide (bthen Hb.out hb4)
      clear hb4 Hb Hq
      obtain ⟨q0, q1, p0, p1, qlt⟩ := hq4
      go_wp2_with fail
      (try simp only [Exit.inBlock, Exit.then])
      refine bodyPost_ret (v := .tuple #[.string (str out), .agg #[.int .i64 0, .int .i64 (-1)]]) ?_ rfl ⟨rfl, (Hb4.out.setCell (by simp) _).setCell (by simp) _⟩
      obtain ⟨x0, x1, _, _, _⟩ := Hq4.out.set 0 (-1)
      simp only [results, show Tryd.f23.results = #[.tmp 6, .cell 7 46] from rfl]
      go_simp
end Go.Proofs.YtcenohaadggdiacDoor

namespace Go.Proofs.YtcenohaadggdiacDoor
open Go.RowKit



set_option maxHeartbeats 1000000 in
theorem shift_ok (c : Nat) (w : World) (hc : c < 4294967296) : Calls Tryd.prog 68 #[.int .i64 c] w fun r w' => r = .returned (.int .i64 (Go.Crc.sh c : Nat)) ∧ w' = w := by
  rcases Nat.mod_two_eq_zero_or_one c with h | h
  · have h1 : ((c : Int) % 2 == 1) = false := by simp; omega
    have e : (c : Int) / 2 = (Go.Crc.sh c : Nat) := by unfold Go.Crc.sh; rw [h, Nat.mul_zero, Nat.xor_zero]; omega
    have E := hide e
    clear h e
    go_enter Tryd.func68, Tryd.ntmps68
    go_wp2_with fail
    go_ret
    exact ⟨ret_int E.out, rfl⟩
  · have h1 : ((c : Int) % 2 == 1) = true := by simp; omega
    have e : bits .xor .i64 ((c : Int) / 2) 3988292384 = (Go.Crc.sh c : Nat) := by
      rw [show (c : Int) / 2 = ((c / 2 : Nat) : Int) by omega, show (3988292384 : Int) = ((3988292384 : Nat) : Int) from rfl, i64_xor_nat _ _ (by omega) (by omega)]
      unfold Go.Crc.sh
      rw [h]
    have E := hide e
    clear h e
    go_enter Tryd.func68, Tryd.ntmps68
    go_wp2_with fail
    go_ret
    exact ⟨ret_int E.out, rfl⟩

theorem i64_not (c : Nat) (hc : c < 4294967296) : bits .xor .i64 (c : Int) 4294967295 = ((c ^^^ Go.Crc.ones : Nat) : Int) :=
  i64_xor_nat c Go.Crc.ones (by omega) (by decide)

set_option maxHeartbeats 1000000 in
set_option maxRecDepth 100000 in
theorem moreOf_ok (c : Nat) (s : ByteArray) (w : World) (hc : c < 4294967296) (hs : s.size ≤ 1000000) : Calls Tryd.prog 44 #[.int .i64 c, .string s] w fun r w' => r = .returned (.int .i64 (Go.Crc.crc c s.data.toList : Nat)) ∧ w' = w := by
  have hs' : (s.size : Int) ≤ 1000000 := by omega
  have hnot := i64_not c hc
  have hc1 : c ^^^ Go.Crc.ones < 2 ^ 32 := Nat.xor_lt_two_pow hc Go.Crc.ones_lt
  have Hc : Hid (Go.Crc.crc c s.data.toList = Go.Crc.run (c ^^^ Go.Crc.ones) s.data.toList ^^^ Go.Crc.ones) := rfl
  generalize c ^^^ Go.Crc.ones = d at *
  go_enter Tryd.func44, Tryd.ntmps44
  go_wp2_with fail
  go_loop [0, 5] (fun t0 t5 => ∃ i : Nat, t5 = .int .i64 i ∧ i ≤ s.size ∧ t0 = .int .i64 (Go.Crc.run d (s.data.toList.take i) : Nat)) (fun _ t5 => s.size - (intOf t5).toNat)
  case atStart => exact ⟨0, rfl, by omega, rfl⟩
  case round =>
    obtain ⟨i, rfl, hi, rfl⟩ := hrel
    have hx : Go.Crc.run d (s.data.toList.take i) < 2 ^ 32 := Go.Crc.run_lt _ _ hc1
    by_cases hlt : i < s.size
    · have hlt' : (i : Int) < s.size := by omega
      have hb := byte_lt s[i]
      have hn := Go.Crc.run_snoc d (s.data.toList.take i) s[i]
      rw [← takeL s i hlt] at hn
      have He := hide hn
      clear hn
      generalize Go.Crc.run d (s.data.toList.take i) = x at *
      have hxb : x ^^^ s[i].toNat < 2 ^ 32 := Nat.xor_lt_two_pow hx (by omega)
      have hxe : bits .xor .i64 (x : Int) (s[i].toNat : Int) = ((x ^^^ s[i].toNat : Nat) : Int) := i64_xor_nat _ _ (by omega) (by omega)
      generalize x ^^^ s[i].toNat = y at *
      go_wp2_with fail
      go_loop [0, 6] (fun t0 t6 => ∃ j : Nat, t6 = .int .i64 j ∧ j ≤ 8 ∧ t0 = .int .i64 (Go.Crc.shs j y : Nat)) (fun _ t6 => 8 - (intOf t6).toNat)
      case atStart => exact ⟨0, rfl, by omega, rfl⟩
      case round =>
        obtain ⟨j, rfl, hj, rfl⟩ := hrel
        have hz := Go.Crc.shs_lt j y hxb
        by_cases hlj : j < 8
        · have hlj' : (j : Int) < 8 := by omega
          have HS := hide (fun W => shift_ok (Go.Crc.shs j y) W hz)
          have Hn : Hid (Go.Crc.sh (Go.Crc.shs j y) = Go.Crc.shs (j + 1) y) := rfl
          generalize Go.Crc.shs j y = z at *
          go_wp2_with fail
          refine (HS.out _).mono ?_
          rintro e w1 ⟨rfl, rfl⟩
          go_wp2_with fail
          go_round
          case rel => exact ⟨j + 1, by go_num, by omega, by rw [Hn.out]⟩
          case measure => simp [intOf]; omega
        · have hlj' : (8 : Int) ≤ j := by omega
          obtain rfl : j = 8 := by omega
          go_wp2_with fail
          go_round
          case rel => exact ⟨i + 1, by go_num, by omega, by rw [He.out]⟩
          case measure => simp [intOf]; omega
    · have hle : (s.size : Int) ≤ i := by omega
      obtain rfl : i = s.size := by omega
      have ht : s.data.toList.take s.size = s.data.toList := by rw [← lenL s, List.take_length]
      rw [ht] at hx ⊢
      have hn2 := i64_not _ hx
      rw [← Hc.out] at hn2
      clear ht Hc
      generalize Go.Crc.run d s.data.toList = x at *
      go_wp2_with fail
      go_ret
      exact ⟨rfl, rfl⟩

set_option maxHeartbeats 1000000 in
theorem sumOf_ok (s : ByteArray) (w : World) (hs : s.size ≤ 1000000) : Calls Tryd.prog 26 #[.string s] w fun r w' => r = .returned (.int .i64 (Go.Crc.crc 0 s.data.toList : Nat)) ∧ w' = w := by
  have H := hide (fun W => moreOf_ok 0 s W (by omega) hs)
  generalize Go.Crc.crc 0 s.data.toList = x at *
  go_enter Tryd.func26, Tryd.ntmps26
  go_wp2_with fail
  refine (H.out _).mono ?_
  rintro e w1 ⟨rfl, rfl⟩
  go_wp2_with fail
  go_ret
  exact ⟨rfl, rfl⟩
end Go.Proofs.YtcenohaadggdiacDoor
