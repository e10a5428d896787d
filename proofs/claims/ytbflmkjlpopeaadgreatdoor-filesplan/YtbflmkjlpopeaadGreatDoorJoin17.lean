/-
  Plain mathematics of files, as package files does it: one that is wrong behind another one (its name may be none yet), where a file is put, where it is found. No program, no walk.
  Contracts of strings.Compare, slices.BinarySearchFunc (at files that rise, by a name) over this dump.
  Contracts of files.isNameByte, Name over this dump.
-/
import Derived.Test.YtbflmkjlpopeaadGreatDoorJoin02
import Derived.Test.YtbflmkjlpopeaadGreatDoorJoin03
import Derived.Shelf.Abstract
import Derived.Lib.Bytealg
import Derived.Laws.Externs
import Derived.Deep.DeepCutAuto
namespace Go.Files
open Go.Proofs.YtbflmkjlpopeaadGreatDoor (lenL bytes_ext)

/-- What is wrong with one, behind a name (none yet: the empty one). -/
def wrongS (last name : ByteArray) (n : Int) : Nat := if isNm name = false then 5 else if n < 0 ∨ 4000 < n then 2 else if lt last name then 0 else 9
theorem nm_ne {a : ByteArray} (h : isNm a = true) : lt ⟨#[]⟩ a = true := by
  unfold isNm at h
  simp only [Bool.and_eq_true, decide_eq_true_eq] at h
  have h1 := h.2.1
  cases a with
  | mk d =>
    obtain ⟨l⟩ := d
    cases l with
    | nil => simp [ByteArray.size] at h1
    | cons b r =>
      unfold lt
      rw [ByteArray.toList_eq, ByteArray.toList_eq]
      rfl
/-- The name behind which the j-th one stands. -/
def lastOf (l : List (ByteArray × Int)) (j : Nat) : ByteArray := (prevOf l j).getD ⟨#[]⟩
theorem wrongS_bad (p : Option ByteArray) (a : ByteArray) (n : Int) : wrongS (p.getD ⟨#[]⟩) a n = bad p a n := by
  unfold wrongS bad
  cases p with
  | some q => rfl
  | none =>
    cases hn : isNm a with
    | false => simp
    | true =>
      simp only [Bool.true_eq_false, if_false, Option.getD_none]
      simp only [nm_ne hn, if_true]
theorem scanF_stepS (l : List (ByteArray × Int)) (j : Nat) (h : j < l.length) :
    scanF (l.drop j) (prevOf l j) j = if wrongS (lastOf l j) l[j].1 l[j].2 = 0 then scanF (l.drop (j + 1)) (prevOf l (j + 1)) (j + 1) else some (j, wrongS (lastOf l j) l[j].1 l[j].2) := by
  unfold lastOf
  rw [wrongS_bad]
  exact scanF_step l j h
theorem lastOf_zero (l : List (ByteArray × Int)) : lastOf l 0 = ⟨#[]⟩ := rfl
theorem lastOf_succ (l : List (ByteArray × Int)) (j : Nat) (h : j < l.length) : lastOf l (j + 1) = l[j].1 := by simp [lastOf, prevOf, h]
theorem wrongS_code (p : ByteArray) (a : ByteArray) (n : Int) : wrongS p a n = 0 ∨ wrongS p a n = 5 ∨ wrongS p a n = 2 ∨ wrongS p a n = 9 := by
  unfold wrongS
  split
  · simp
  · split
    · simp
    · split <;> simp

/-! ### Where a file is found -/
theorem getF_at : ∀ {l : List Fl} {a : ByteArray} (k : Nat) (hk : k < l.length), l[k].name = a → (∀ j (hj : j < l.length), j < k → l[j].name ≠ a) → getF l a = some l[k].data
  | f :: r, a, 0, _, he, _ => by simp only [List.getElem_cons_zero] at he ⊢; rw [getF, if_pos he]
  | f :: r, a, k + 1, hk, he, hn => by
    have h0 := hn 0 (by simp) (by omega)
    simp only [List.getElem_cons_zero] at h0
    rw [getF, if_neg h0]
    simp only [List.getElem_cons_succ] at he ⊢
    exact getF_at k (by simpa using hk) he fun j hj hjk => by
      have := hn (j + 1) (by simpa using hj) (by omega)
      simpa using this

/-! ### Where a file is put -/
/-- The place: all ahead of it come ahead of the name, none from it on does. -/
structure PutAt (l : List Fl) (a : ByteArray) (k : Nat) : Prop where
  le : k ≤ l.length
  ahead : ∀ j (hj : j < l.length), j < k → lt l[j].name a = true
  behind : ∀ j (hj : j < l.length), k ≤ j → lt l[j].name a = false
theorem ins_place (a d : ByteArray) : ∀ (l : List Fl) (k : Nat), PutAt l a k → insF a d l = l.take k ++ ⟨a, d⟩ :: (if h : k < l.length then (if l[k].name = a then l.drop (k + 1) else l.drop k) else [])
  | [], k, hp => by
    have := hp.le
    simp at this
    subst this
    rfl
  | f :: r, 0, hp => by
    have := hp.behind 0 (by simp) (by omega)
    simp only [List.getElem_cons_zero] at this
    rw [insF, this]
    simp
  | f :: r, k + 1, hp => by
    have h0 := hp.ahead 0 (by simp) (by omega)
    simp only [List.getElem_cons_zero] at h0
    rw [insF, if_pos h0]
    have hp' : PutAt r a k := ⟨by have := hp.le; simpa using this, fun j hj hjk => by have := hp.ahead (j + 1) (by simpa using hj) (by omega); simpa using this, fun j hj hjk => by have := hp.behind (j + 1) (by simpa using hj) (by omega); simpa using this⟩
    rw [ins_place a d r k hp']
    simp [List.getElem_cons_succ]
theorem ins_there {a d : ByteArray} {l : List Fl} {k : Nat} (hp : PutAt l a k) (hk : k < l.length) (he : l[k].name = a) : insF a d l = l.set k ⟨a, d⟩ := by
  rw [ins_place a d l k hp, dif_pos hk, if_pos he, List.set_eq_take_append_cons_drop, if_pos hk]
theorem ins_new {a d : ByteArray} {l : List Fl} {k : Nat} (hp : PutAt l a k) (hn : ∀ h : k < l.length, l[k].name ≠ a) : insF a d l = l.take k ++ ⟨a, d⟩ :: l.drop k := by
  rw [ins_place a d l k hp]
  by_cases hk : k < l.length
  · rw [dif_pos hk, if_neg (hn hk)]
  · rw [dif_neg hk, List.drop_eq_nil_of_le (by omega)]
/-- Names rise: one place parts them. -/
theorem rise_lt {l : List Fl} (h : RiseF l) {i j : Nat} (hj : j < l.length) (hij : i < j) : lt (l[i]'(by omega)).name l[j].name = true := by
  have := List.pairwise_iff_getElem.1 h i j (by simpa using (by omega : i < l.length)) (by simpa using hj) hij
  simpa using this
theorem place_ahead {l : List Fl} (h : RiseF l) {a : ByteArray} {m : Nat} (hm : m < l.length) (hl : lt l[m].name a = true) : ∀ j (hj : j < l.length), j ≤ m → lt l[j].name a = true := fun j hj hjm => by
  rcases Nat.lt_or_ge j m with h1 | h1
  · exact lt_trans (rise_lt h hm h1) hl
  · obtain rfl : j = m := by omega
    exact hl
theorem place_behind {l : List Fl} (h : RiseF l) {a : ByteArray} {m : Nat} (hm : m < l.length) (hl : lt l[m].name a = false) : ∀ j (hj : j < l.length), m ≤ j → lt l[j].name a = false := fun j hj hjm => by
  rcases Nat.lt_or_ge m j with h1 | h1
  · cases hx : lt l[j].name a with
    | false => rfl
    | true =>
      have := lt_trans (rise_lt h hj h1) hx
      rw [hl] at this
      cases this
  · obtain rfl : j = m := by omega
    exact hl

/-! ### Dropped -/
theorem dropF_none {l : List Fl} {a : ByteArray} (h : ∀ j (hj : j < l.length), l[j].name ≠ a) : dropF l a = l := by
  unfold dropF
  rw [List.filter_eq_self]
  intro x hx
  obtain ⟨j, hj, rfl⟩ := List.getElem_of_mem hx
  simpa using h j hj

/-! ### Plans, as both lists are gone through -/
theorem planM_send {f : Ln} {r T : List Ln} (h : ∀ x ∈ T.head?, lt f.name x.name = true) : planM (f :: r) T = ⟨kSend, f.name⟩ :: planM r T := by
  cases T with
  | nil => rw [planM]
  | cons x q =>
    have hx := h x (by simp)
    rw [planM, if_neg (by rw [lt_asymm hx]; simp), if_neg (lt_ne hx).symm]
theorem planM_drop {x : Ln} {q F : List Ln} (h : ∀ f ∈ F.head?, lt x.name f.name = true) : planM F (x :: q) = ⟨kDrop, x.name⟩ :: planM F q := by
  cases F with
  | nil => rw [planM, planM]; rfl
  | cons f r =>
    have hf := h f (by simp)
    rw [planM, if_pos hf]
theorem planM_both {f x : Ln} {r q : List Ln} (h1 : lt f.name x.name = false) (h2 : lt x.name f.name = false) : planM (f :: r) (x :: q) = ⟨if f.n = x.n ∧ f.sum = x.sum then kKeep else kSend, f.name⟩ :: planM r q := by
  rw [planM, if_neg (by rw [h2]; simp), if_pos (lt_total h2 h1)]
  congr 2
  simp only [eq_comm]
end Go.Files

namespace Go.Proofs.YtbflmkjlpopeaadGreatDoor
open Go.RowKit
open Go.Files (Fl lt PutAt RiseF)

/-- How two names compare. -/
def cmpN (a b : ByteArray) : Int := Lib.compareBytes a.data.toList b.data.toList
theorem cmp_lt : ∀ x y : List UInt8, (decide (Lib.compareBytes x y < 0)) = Op.bytesLess x y
  | [], [] => rfl
  | [], _ :: _ => rfl
  | _ :: _, [] => rfl
  | a :: x, b :: y => by
    rw [Lib.compareBytes, Op.bytesLess]
    by_cases h : a < b
    · simp [h]
    · rw [if_neg h]
      by_cases h2 : b < a
      · have hne : (a == b) = false := by
          rw [beq_eq_false_iff_ne]
          intro e
          rw [e] at h2
          exact h (e ▸ h2)
        simp [h, h2, hne]
      · have he : a = b := UInt8.le_antisymm (UInt8.not_lt.1 h2) (UInt8.not_lt.1 h)
        subst he
        simp [cmp_lt x y]
theorem cmp_eq : ∀ x y : List UInt8, (Lib.compareBytes x y == 0) = (x == y)
  | [], [] => rfl
  | [], _ :: _ => rfl
  | _ :: _, [] => rfl
  | a :: x, b :: y => by
    rw [Lib.compareBytes]
    by_cases h : a < b
    · have hne : (a == b) = false := by
        rw [beq_eq_false_iff_ne]
        intro e
        rw [e] at h
        exact UInt8.lt_irrefl _ h
      simp [h, hne]
    · rw [if_neg h]
      by_cases h2 : b < a
      · have hne : (a == b) = false := by
          rw [beq_eq_false_iff_ne]
          intro e
          rw [e] at h2
          exact UInt8.lt_irrefl _ h2
        simp [h2, hne]
      · have he : a = b := UInt8.le_antisymm (UInt8.not_lt.1 h2) (UInt8.not_lt.1 h)
        subst he
        simp [cmp_eq x y]
theorem cmpN_lt (a b : ByteArray) : decide (cmpN a b < 0) = lt a b := by
  unfold cmpN lt
  rw [cmp_lt, ByteArray.toList_eq, ByteArray.toList_eq]
theorem cmpN_eq (a b : ByteArray) : (cmpN a b == 0) = decide (a = b) := by
  unfold cmpN
  rw [cmp_eq, Bool.eq_iff_iff]
  simp only [beq_iff_eq, decide_eq_true_eq]
  exact ⟨fun h => bytes_ext (by rw [ByteArray.toList_eq, ByteArray.toList_eq]; exact h), fun h => by rw [h]⟩

set_option maxHeartbeats 1000000 in
set_option maxRecDepth 100000 in
theorem compareString_ok (a b : ByteArray) (w : World) : Calls Tryz.prog 77 #[.string a, .string b] w fun r w' => r = .returned (.int .i64 (cmpN a b)) ∧ w' = w := by
  go_enter Tryz.func77, Tryz.ntmps77
  go_wp2
  rw [run_callFunc_extern Tryz.func84 (by kernel_rfl) (by kernel_rfl) (by kernel_rfl) (e := Extern.BytealgCompare.compare) (by kernel_rfl), Lib.run_compareString]
  simp only [Result.andThen]
  rw [Oper.upon_value]
  go_wp2
  go_ret
  exact ⟨rfl, rfl⟩
set_option maxHeartbeats 1000000 in
theorem compare_ok (a b : ByteArray) (w : World) : Calls Tryz.prog 60 #[.string a, .string b] w fun r w' => r = .returned (.int .i64 (cmpN a b)) ∧ w' = w := by
  have H := hide (compareString_ok a b w)
  go_enter Tryz.func60, Tryz.ntmps60
  go_wp2_with fail
  refine H.out.mono ?_
  rintro r w1 ⟨rfl, rfl⟩
  go_wp2
  go_ret
  exact ⟨rfl, rfl⟩
set_option maxHeartbeats 1000000 in
theorem with1_ok (x : Fl) (a : ByteArray) (w : World) : Calls Tryz.prog 59 #[.agg #[.string x.name, .string x.data], .string a] w fun r w' => r = .returned (.int .i64 (cmpN x.name a)) ∧ Below w.heap.size w w' := by
  have H := hide (fun W => compare_ok x.name a W)
  obtain ⟨n, d⟩ := x
  simp only at H ⊢
  go_enter Tryz.func59, Tryz.ntmps59
  go_wp2_with fail
  refine (H.out _).mono ?_
  rintro r w1 ⟨rfl, rfl⟩
  go_wp2
  go_ret
  exact ⟨rfl, (Below.refl _ _).alloc (Nat.le_refl _) _⟩

/-- The search: all ahead of i come ahead, none from j on does. -/
structure Seek (l : List Fl) (a : ByteArray) (i j : Nat) : Prop where
  ahead : ∀ t (h : t < l.length), t < i → lt l[t].name a = true
  behind : ∀ t (h : t < l.length), j ≤ t → lt l[t].name a = false

set_option maxHeartbeats 2000000 in
set_option maxRecDepth 100000 in
theorem search_ok (v : Value) (l : List Fl) (a : ByteArray) (w : World) (hv : FRow w v l) (hl : l.length ≤ 1000000) (hr : RiseF l) :
    Calls Tryz.prog 58 #[v, .string a, .func (.func 59) #[] #[]] w fun r w' => (∃ (k : Nat) (t : Bool), r = .returned (.tuple #[.int .i64 k, .bool t]) ∧ PutAt l a k ∧ (t = true ↔ ∃ h : k < l.length, l[k].name = a)) ∧ Below w.heap.size w w' := by
  obtain ⟨s, c, rfl, hv⟩ := hv
  have HV := hide hv
  have hl' : (l.length : Int) ≤ 1000000 := by omega
  have HR := hide hr
  clear hv hr
  go_enter Tryz.func58, Tryz.ntmps58
  go_wp2_with fail
  go_loopw [9, 10] (fun t9 t10 wr => ∃ i j : Nat, t9 = .int .i64 i ∧ t10 = .int .i64 j ∧ i ≤ j ∧ j ≤ l.length ∧ Hid (Seek l a i j) ∧ Hid (Below w.heap.size w wr)) (fun t9 t10 _ => (intOf t10).toNat - (intOf t9).toNat)
  case atStart => exact ⟨0, l.length, rfl, rfl, by omega, by omega, ⟨fun t h h0 => by omega, fun t h h0 => by omega⟩, Below.refl _ _⟩
  case round =>
    obtain ⟨i, j, rfl, rfl, hij, hj, Hs, Hb⟩ := hrel
    by_cases hlt : i < j
    · have hlt' : (i : Int) < j := by omega
      obtain ⟨m, hm⟩ : ∃ m : Nat, m = (i + j) / 2 := ⟨_, rfl⟩
      have hml : m < l.length := by omega
      have hml' : (m : Int) < l.length := by omega
      obtain ⟨b, o, rfl, hc⟩ := HV.out (by omega)
      obtain ⟨c0, c1⟩ := hc m hml
      have d0 := (Hb.out.cell (World.block_lt_of_cell? _ _ c0)).trans c0
      have d1 := (Hb.out.cell (World.block_lt_of_cell? _ _ c1)).trans c1
      have HN := hide (fun W => with1_ok l[m] a W)
      have HA := hide (fun h => Go.Files.place_ahead HR.out (a := a) hml h)
      have HB := hide (fun h => Go.Files.place_behind HR.out (a := a) hml h)
      have Hc := hide (cmpN_lt l[m].name a)
      have Hz : Hid ((0 : Nat) ≤ m ∧ m < j ∧ i ≤ m) := ⟨by omega, by omega, by omega⟩
      clear hc c0 c1 HV
      generalize l[m] = x at *
      have hw : (((i : Int) + (j : Int)) / 2) = (m : Int) := by omega
      have Hw := hide hw
      clear hw hml'
      subst hm
      cases hx : lt x.name a with
      | true =>
        have hcl : decide (cmpN x.name a < 0) = true := by rw [Hc.out]; exact hx
        have hcl' : cmpN x.name a < 0 := by simpa using hcl
        have HA' := hide (HA.out hx)
        clear HA HB hx hcl Hc
        generalize cmpN x.name a = cc at *
        go_wp2_with fail
        refine (HN.out _).mono ?_
        rintro r w1 ⟨rfl, hb1⟩
        have Hb1 := hide (bthen Hb.out hb1)
        clear hb1 HN d0 d1
        go_wp2_with fail
        go_roundw
        case rel => exact ⟨(i + j) / 2 + 1, j, by go_num, rfl, by omega, hj, ⟨fun t h h0 => HA'.out t h (by omega), Hs.out.behind⟩, Hb1.out⟩
        case measure => simp [intOf]; omega
      | false =>
        have hcl : decide (cmpN x.name a < 0) = false := by rw [Hc.out]; exact hx
        have hcl' : 0 ≤ cmpN x.name a := by simpa using hcl
        have HB' := hide (HB.out hx)
        clear HA HB hx hcl Hc
        generalize cmpN x.name a = cc at *
        go_wp2_with fail
        refine (HN.out _).mono ?_
        rintro r w1 ⟨rfl, hb1⟩
        have Hb1 := hide (bthen Hb.out hb1)
        clear hb1 HN d0 d1
        go_wp2_with fail
        go_roundw
        case rel => exact ⟨i, (i + j) / 2, rfl, by go_num, by omega, by omega, ⟨Hs.out.ahead, fun t h h0 => HB'.out t h h0⟩, Hb1.out⟩
        case measure => simp [intOf]; omega
    · obtain rfl : i = j := by omega
      have HP : Hid (PutAt l a i) := ⟨hj, fun t h h0 => Hs.out.ahead t h h0, fun t h h0 => Hs.out.behind t h h0⟩
      have hii : ¬ ((i : Int) < (i : Int)) := by omega
      clear Hs hlt
      by_cases hil : i < l.length
      · have hil' : (i : Int) < l.length := by omega
        obtain ⟨b, o, rfl, hc⟩ := HV.out (by omega)
        obtain ⟨c0, c1⟩ := hc i hil
        have d0 := (Hb.out.cell (World.block_lt_of_cell? _ _ c0)).trans c0
        have d1 := (Hb.out.cell (World.block_lt_of_cell? _ _ c1)).trans c1
        have HN := hide (fun W => with1_ok l[i] a W)
        have He := hide (cmpN_eq l[i].name a)
        have Hx : Hid ((l[i].name = a) ↔ ∃ h : i < l.length, l[i].name = a) := ⟨fun h => ⟨hil, h⟩, fun ⟨_, h⟩ => h⟩
        clear hc c0 c1 HV
        generalize l[i] = x at *
        generalize cmpN x.name a = cc at *
        go_wp2_with fail
        refine (HN.out _).mono ?_
        rintro r w1 ⟨rfl, hb1⟩
        have Hb1 := hide (bthen Hb.out hb1)
        clear hb1 HN d0 d1
        go_wp2_with fail
        go_ret2
        exact ⟨⟨i, decide (x.name = a), by rw [← He.out]; rfl, HP.out, by rw [← Hx.out]; simp⟩, Hb1.out⟩
      · have hil' : (l.length : Int) ≤ (i : Int) := by omega
        go_wp2_with fail
        go_ret2
        exact ⟨⟨i, Or.inl ⟨rfl, HP.out, fun h => by omega⟩⟩, Hb.out⟩
end Go.Proofs.YtbflmkjlpopeaadGreatDoor

namespace Go.Proofs.YtbflmkjlpopeaadGreatDoor
open Go.RowKit
open Go.Files (okc isNm)

theorem nmb_take (s : ByteArray) (j : Nat) (h : j < s.size) : (s.data.toList.take (j + 1)).all okc = ((s.data.toList.take j).all okc && okc s[j]) := by
  rw [takeL s j h, List.all_append]
  simp
theorem nmb_false {s : ByteArray} {j : Nat} (h : j < s.size) (hc : okc s[j] = false) : isNm s = false := by
  have : s.data.toList.all okc = false := by
    rw [List.all_eq_false]
    exact ⟨s[j], by rw [← atL s j h]; exact List.getElem_mem _, by simp [hc]⟩
  unfold isNm
  rw [this]
  rfl
theorem nmb_true {s : ByteArray} (h : (s.data.toList.take s.size).all okc = true) (h1 : 1 ≤ s.size) (h2 : s.size ≤ 12) : isNm s = true := by
  rw [← lenL s, List.take_length] at h
  unfold isNm
  rw [h, decide_eq_true h1, decide_eq_true h2]
  rfl
theorem nmb_long {s : ByteArray} (h : 12 < s.size) : isNm s = false := by
  unfold isNm
  rw [decide_eq_false (by omega : ¬ s.size ≤ 12), Bool.and_false, Bool.and_false]

set_option maxHeartbeats 1000000 in
set_option maxRecDepth 100000 in
theorem nameByte_ok (n : Nat) (c : Bool) (hn : n < 256) (w : World) (hc : c = ((decide (97 ≤ n) && decide (n ≤ 122)) || (decide (48 ≤ n) && decide (n ≤ 57)) || decide (n = 46) || decide (n = 45))) :
    Calls Tryz.prog 83 #[.int .u8 n] w fun r w' => r = .returned (.bool c) ∧ w' = w := by
  have Hc := hide hc
  clear hc
  by_cases a1 : 97 ≤ n
  · have a1' : (97 : Int) ≤ n := by omega
    by_cases a2 : n ≤ 122
    · have a2' : (n : Int) ≤ 122 := by omega
      go_enter Tryz.func83, Tryz.ntmps83
      go_wp2
      go_ret
      exact ⟨ret_bool (by rw [Hc.out]; simp [a1, a2]), rfl⟩
    · have a2' : (122 : Int) < n := by omega
      have a3' : (48 : Int) ≤ n := by omega
      have a4' : (57 : Int) < n := by omega
      have e1 : ((n : Int) == 46) = false := by simp; omega
      have e2 : ((n : Int) == 45) = false := by simp; omega
      go_enter Tryz.func83, Tryz.ntmps83
      go_wp2
      go_ret
      exact ⟨ret_bool (by rw [Hc.out, Bool.eq_iff_iff]; simp; omega), rfl⟩
  · have a1' : (n : Int) < 97 := by omega
    by_cases a3 : 48 ≤ n
    · have a3' : (48 : Int) ≤ n := by omega
      by_cases a4 : n ≤ 57
      · have a4' : (n : Int) ≤ 57 := by omega
        go_enter Tryz.func83, Tryz.ntmps83
        go_wp2
        go_ret
        exact ⟨ret_bool (by rw [Hc.out, Bool.eq_iff_iff]; simp; omega), rfl⟩
      · have a4' : (57 : Int) < n := by omega
        have e1 : ((n : Int) == 46) = false := by simp; omega
        have e2 : ((n : Int) == 45) = false := by simp; omega
        go_enter Tryz.func83, Tryz.ntmps83
        go_wp2
        go_ret
        exact ⟨ret_bool (by rw [Hc.out, Bool.eq_iff_iff]; simp; omega), rfl⟩
    · have a3' : (n : Int) < 48 := by omega
      by_cases e : n = 46
      · subst e
        go_enter Tryz.func83, Tryz.ntmps83
        go_wp2
        go_ret
        exact ⟨ret_bool (by rw [Hc.out]; rfl), rfl⟩
      · have e1 : ((n : Int) == 46) = false := by simp; omega
        go_enter Tryz.func83, Tryz.ntmps83
        go_wp2
        go_ret
        exact ⟨ret_bool (by rw [Hc.out, Bool.eq_iff_iff]; simp; omega), rfl⟩

set_option maxHeartbeats 2000000 in
set_option maxRecDepth 100000 in
theorem name_ok (s : ByteArray) (w : World) (hs : s.size ≤ 1000000) : Calls Tryz.prog 75 #[.string s] w fun r w' => r = .returned (.bool (isNm s)) ∧ w' = w := by
  by_cases h0 : s.size = 0
  · obtain rfl : s = ⟨#[]⟩ := by
      cases s with
      | mk d => simp only [ByteArray.size] at h0; rw [Array.size_eq_zero_iff.1 h0]
    go_enter Tryz.func75, Tryz.ntmps75
    go_wp2
    go_ret
    exact ⟨rfl, rfl⟩
  · have hne : s.toList.isEmpty = false := by
      rw [ByteArray.toList_eq, List.isEmpty_eq_false_iff]
      intro e
      have := lenL s
      rw [e] at this
      simp at this
      omega
    by_cases h12 : 12 < s.size
    · have h12' : (12 : Int) < s.size := by omega
      have HL := hide (nmb_long h12)
      clear h0 h12
      go_enter Tryz.func75, Tryz.ntmps75
      go_wp2
      go_ret
      exact ⟨ret_bool HL.out.symm, rfl⟩
    · have h12' : (s.size : Int) ≤ 12 := by omega
      have HF := hide (fun j h hc => nmb_false (s := s) (j := j) h hc)
      have HT := hide (nmb_take s)
      have HA : Hid ((s.data.toList.take s.size).all okc = true → isNm s = true) := fun h => nmb_true h (by omega) (by omega)
      clear h12
      go_enter Tryz.func75, Tryz.ntmps75
      go_wp2_with fail
      go_loop [13] (fun t => ∃ j : Nat, t = .int .i64 j ∧ j ≤ s.size ∧ Hid ((s.data.toList.take j).all okc = true)) (fun t => s.size - (intOf t).toNat)
      case atStart => exact ⟨0, rfl, by omega, by simp [Hid]⟩
      case round =>
        obtain ⟨j, rfl, hj, Hj⟩ := hrel
        by_cases hlt : j < s.size
        · have hlt' : (j : Int) < s.size := by omega
          have hF := HF.out j hlt
          have hT := HT.out j hlt
          rw [Hj.out, Bool.true_and] at hT
          have HB := hide (fun W => nameByte_ok s[j].toNat (okc s[j]) (byte_lt s[j]) W rfl)
          have HT' := hide hT
          have HF' := hide hF
          clear hF hT HF HT HA
          cases hok : okc s[j] with
          | true =>
            rw [hok] at HB
            have HT2 := hide (HT'.out.trans hok)
            clear HT' HF' hok
            go_wp2_with fail
            refine (HB.out _).mono ?_
            rintro r w1 ⟨rfl, rfl⟩
            go_wp2_with fail
            go_round
            case rel => exact ⟨j + 1, by go_num, by omega, HT2.out⟩
            case measure => simp [intOf]; omega
          | false =>
            rw [hok] at HB
            have HF2 := hide (HF'.out hok)
            clear HT' HF' hok
            go_wp2_with fail
            refine (HB.out _).mono ?_
            rintro r w1 ⟨rfl, rfl⟩
            go_wp2
            go_ret
            exact ⟨ret_bool HF2.out.symm, rfl⟩
        · have hle : (s.size : Int) ≤ j := by omega
          obtain rfl : j = s.size := by omega
          have HA' := hide (HA.out Hj.out)
          clear Hj HA HF HT
          go_wp2
          go_ret
          exact ⟨ret_bool HA'.out.symm, rfl⟩
end Go.Proofs.YtbflmkjlpopeaadGreatDoor
