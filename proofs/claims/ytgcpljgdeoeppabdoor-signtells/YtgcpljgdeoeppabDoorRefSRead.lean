/-
  Contract of the document's ReadSign over this dump: every text.
-/
import Derived.Test.YtgcpljgdeoeppabDoorRefFault
import Derived.Test.YtgcpljgdeoeppabDoorRefRead
import Derived.Test.YtgcpljgdeoeppabDoorSignRead
namespace Go.Proofs.YtgcpljgdeoeppabDoor
open Go.RowKit
open Go.Sign (Blk)

/-- Three numbers at block p. -/
structure TrAt (p : Nat) (w : World) (a b c : Nat) : Prop where
  c0 : w.cell? ⟨p, 0, none⟩ = some (.int .i64 a)
  c1 : w.cell? ⟨p, 1, none⟩ = some (.int .i64 b)
  c2 : w.cell? ⟨p, 2, none⟩ = some (.int .i64 c)
  f0 : w.frozen? ⟨p, 0, none⟩ = false
  f1 : w.frozen? ⟨p, 1, none⟩ = false
  f2 : w.frozen? ⟨p, 2, none⟩ = false
  lt : p < w.heap.size
theorem TrAt.fresh (w : World) (t : TypeId) : TrAt w.heap.size (w.alloc (.cells #[.int .i64 0, .int .i64 0, .int .i64 0] t)) 0 0 0 :=
  ⟨by simp, by simp, by simp, by simp, by simp, by simp, by simp⟩
theorem TrAt.set0 {p : Nat} {w : World} {a b c : Nat} (h : TrAt p w a b c) (n : Nat) : TrAt p (w.setCell ⟨p, 0, none⟩ (.int .i64 n)) n b c := by
  obtain ⟨c0, c1, c2, f0, f1, f2, lt⟩ := h
  refine ⟨World.cell?_setCell_same _ _ _ c0, ?_, ?_, by simpa using f0, by simpa using f1, by simpa using f2, by simpa using lt⟩
  · rw [World.cell?_setCell_other _ _ _ _ (by simp)]; exact c1
  · rw [World.cell?_setCell_other _ _ _ _ (by simp)]; exact c2
theorem TrAt.set1 {p : Nat} {w : World} {a b c : Nat} (h : TrAt p w a b c) (n : Nat) : TrAt p (w.setCell ⟨p, 1, none⟩ (.int .i64 n)) a n c := by
  obtain ⟨c0, c1, c2, f0, f1, f2, lt⟩ := h
  refine ⟨?_, World.cell?_setCell_same _ _ _ c1, ?_, by simpa using f0, by simpa using f1, by simpa using f2, by simpa using lt⟩
  · rw [World.cell?_setCell_other _ _ _ _ (by simp)]; exact c0
  · rw [World.cell?_setCell_other _ _ _ _ (by simp)]; exact c2
theorem TrAt.set2 {p : Nat} {w : World} {a b c : Nat} (h : TrAt p w a b c) (n : Nat) : TrAt p (w.setCell ⟨p, 2, none⟩ (.int .i64 n)) a b n := by
  obtain ⟨c0, c1, c2, f0, f1, f2, lt⟩ := h
  refine ⟨?_, ?_, World.cell?_setCell_same _ _ _ c2, by simpa using f0, by simpa using f1, by simpa using f2, by simpa using lt⟩
  · rw [World.cell?_setCell_other _ _ _ _ (by simp)]; exact c0
  · rw [World.cell?_setCell_other _ _ _ _ (by simp)]; exact c1
theorem own_setOther {w : World} {base q i : Nat} {e : TypeId} {size : Nat} {v u : Value} {n : Nat} {xs : List Value} (h : w.ownsRow base e size v n xs) (hq : ∀ g, v.ownBlock = some g → g < q) : (w.setCell ⟨q, i, none⟩ u).ownsRow base e size v n xs := by
  rcases h with ⟨h1, h2 | ⟨g, c, cur, e1, e2, e3, e4⟩⟩
  · exact ⟨h1, Or.inl h2⟩
  · refine ⟨h1, Or.inr ⟨g, c, cur, e1, e2, (Below.heap_setCell _ _ _ _ ?_).trans e3, e4⟩⟩
    have := hq g (by rw [e1]; rfl)
    simp
    omega

/-- How far a block has been read, at its front s: so many numbers, what they are, what is left. -/
def Part (s : List UInt8) (k : Nat) (r : List UInt8) (a b c : Nat) : Prop :=
  match k with
  | 0 => r = s
  | 1 => Go.Sign.num s = .ok (a, r)
  | 2 => ∃ s1, Go.Sign.num s = .ok (a, s1) ∧ Go.Sign.num s1 = .ok (b, r)
  | _ => ∃ s1 s2, Go.Sign.num s = .ok (a, s1) ∧ Go.Sign.num s1 = .ok (b, s2) ∧ Go.Sign.num s2 = .ok (c, r)
theorem Part.error {s r : List UInt8} {k a b c e : Nat} (h : Part s k r a b c) (hk : k < 3) (he : Go.Sign.num r = .error e) : Go.Sign.rdB s = .error e := by
  match k, hk with
  | 0, _ =>
    have h' : r = s := h
    subst h'
    rw [Go.Sign.rdB, he]
  | 1, _ =>
    have h' : Go.Sign.num s = .ok (a, r) := h
    rw [Go.Sign.rdB, h']
    simp only []
    rw [he]
  | 2, _ =>
    obtain ⟨s1, h1, h2⟩ : ∃ s1, Go.Sign.num s = .ok (a, s1) ∧ Go.Sign.num s1 = .ok (b, r) := h
    rw [Go.Sign.rdB, h1]
    simp only []
    rw [h2]
    simp only []
    rw [he]
theorem Part.done {s r : List UInt8} {a b c : Nat} (h : Part s 3 r a b c) : Go.Sign.rdB s = if 4294967295 < c then .error 1 else .ok (⟨a, b, c⟩, r) := by
  obtain ⟨s1, s2, h1, h2, h3⟩ : ∃ s1 s2, Go.Sign.num s = .ok (a, s1) ∧ Go.Sign.num s1 = .ok (b, s2) ∧ Go.Sign.num s2 = .ok (c, r) := h
  rw [Go.Sign.rdB, h1]
  simp only []
  rw [h2]
  simp only []
  rw [h3]
theorem num_drop {L : List UInt8} {x n k : Nat} (h : Go.Num.dec (L.drop x) = .ok (n, k)) : Go.Sign.num (L.drop x) = .ok (n, L.drop (x + k)) := by
  rw [Go.Sign.num, h]
  simp [List.drop_drop]
theorem num_dropE {L : List UInt8} {x c : Nat} (h : Go.Num.dec (L.drop x) = .error c) : Go.Sign.num (L.drop x) = .error c := by
  rw [Go.Sign.num, h]

theorem numOf_err (s : ByteArray) (x c : Nat) (w : World) (hs : s.size ≤ 1000000) (hx : x ≤ s.size) (h : Go.Num.dec (s.data.toList.drop x) = .error c) :
    Calls Tryd.prog 46 #[.string s, .int .i64 x] w fun r w' => r = .returned (.tuple #[.int .i64 0, .int .i64 x, .int .i64 c]) ∧ w' = w := by
  have := numOf_ok s x w hs hx
  rw [numOfOut, h] at this
  exact this
theorem numOf_num (s : ByteArray) (x n k : Nat) (w : World) (hs : s.size ≤ 1000000) (hx : x ≤ s.size) (h : Go.Num.dec (s.data.toList.drop x) = .ok (n, k)) :
    Calls Tryd.prog 46 #[.string s, .int .i64 x] w fun r w' => r = .returned (.tuple #[.int .i64 n, .int .i64 ((x + k : Nat) : Int), .int .i64 0]) ∧ w' = w := by
  have := numOf_ok s x w hs hx
  rw [numOfOut, h] at this
  exact this

/-- What ReadSign answers. -/
def RSRes (base : Nat) (w' : World) (r : Ending) : Except Nat (List Blk × Nat) → Prop
  | .ok (l, size) => ∃ v, r = .returned (.tuple #[v, .int .i64 size, .int .i64 0]) ∧ w'.ownsRow base 60 3 v l.length (bcs l)
  | .error c => r = .returned (.tuple #[.slice none 0 0, .int .i64 0, .int .i64 c])
/-- All behind the two first numbers. -/
def behind (size : Nat) (R : Except Nat (List Blk × List UInt8)) : Except Nat (List Blk × Nat) :=
  match fin size R with
  | .error c => .error c
  | .ok (l, size) => if (Go.Sign.fault l size).1 = 0 then .ok (l, size) else .error (Go.Sign.fault l size).1
theorem rdS_behind {L : List UInt8} {size k1 m k2 : Nat} (h1 : Go.Num.dec (L.drop 0) = .ok (size, k1)) (h2 : Go.Num.dec (L.drop k1) = .ok (m, k2)) : Go.Sign.rdS L = behind size (Go.Sign.rdBs m (L.drop (k1 + k2))) := by
  have e1 := num_drop h1
  rw [List.drop_zero, Nat.zero_add] at e1
  have e2 := num_drop h2
  unfold Go.Sign.rdS Go.Sign.rdAll behind
  rw [e1]
  simp only []
  rw [e2]
  simp only []
  cases Go.Sign.rdBs m (L.drop (k1 + k2)) with
  | error c => rfl
  | ok x => rfl
theorem rdS_err1 {L : List UInt8} {c : Nat} (h1 : Go.Num.dec (L.drop 0) = .error c) : Go.Sign.rdS L = .error c := by
  have e1 := num_dropE h1
  rw [List.drop_zero] at e1
  rw [Go.Sign.rdS, Go.Sign.rdAll, e1]
theorem rdS_err2 {L : List UInt8} {size k1 c : Nat} (h1 : Go.Num.dec (L.drop 0) = .ok (size, k1)) (h2 : Go.Num.dec (L.drop k1) = .error c) : Go.Sign.rdS L = .error c := by
  have e1 := num_drop h1
  rw [List.drop_zero, Nat.zero_add] at e1
  have e2 := num_dropE h2
  rw [Go.Sign.rdS, Go.Sign.rdAll, e1]
  simp only []
  rw [e2]

set_option maxHeartbeats 1000000 in
set_option maxRecDepth 100000 in
theorem rsign_err1 (s : ByteArray) (c : Nat) (w : World) (hs : s.size ≤ 100000) (h1 : Go.Num.dec (s.data.toList.drop 0) = .error c) :
    Calls Tryd.prog 27 #[.string s] w fun r w' => r = .returned (.tuple #[.slice none 0 0, .int .i64 0, .int .i64 c]) ∧ Below w.heap.size w w' := by
  have hc := dec_code h1
  have H1 := hide (fun W => numOf_err s 0 c W (by omega) (by omega) h1)
  have hc' : 0 < c := by omega
  clear h1 hc
  go_enter Tryd.func27, Tryd.ntmps27
  go_wp2_with fail
  refine (H1.out _).mono ?_
  rintro r w1 ⟨rfl, rfl⟩
  go_wp2_with fail
  go_ret3
  exact ⟨rfl, Below.refl _ _⟩

set_option maxHeartbeats 1000000 in
set_option maxRecDepth 100000 in
theorem rsign_err2 (s : ByteArray) (size k1 c : Nat) (w : World) (hs : s.size ≤ 100000) (h1 : Go.Num.dec (s.data.toList.drop 0) = .ok (size, k1)) (h2 : Go.Num.dec (s.data.toList.drop k1) = .error c) :
    Calls Tryd.prog 27 #[.string s] w fun r w' => r = .returned (.tuple #[.slice none 0 0, .int .i64 0, .int .i64 c]) ∧ Below w.heap.size w w' := by
  have hc := dec_code h2
  have hd := dec_num h1
  rw [List.drop_zero, lenL] at hd
  have H1 := hide (fun W => numOf_num s 0 size k1 W (by omega) (by omega) h1)
  rw [Nat.zero_add] at H1
  have H2 := hide (fun W => numOf_err s k1 c W (by omega) (by omega) h2)
  have hc' : 0 < c := by omega
  clear h1 h2 hc
  go_enter Tryd.func27, Tryd.ntmps27
  go_wp2_with fail
  refine (H1.out _).mono ?_
  rintro r w1 ⟨rfl, rfl⟩
  go_wp2_with fail
  refine (H2.out _).mono ?_
  rintro r w2 ⟨rfl, rfl⟩
  go_wp2_with fail
  go_ret3
  exact ⟨rfl, Below.refl _ _⟩

set_option maxHeartbeats 2000000 in
set_option maxRecDepth 100000 in
theorem rsign_main (s : ByteArray) (size k1 m k2 : Nat) (w : World) (hs : s.size ≤ 100000) (h1 : Go.Num.dec (s.data.toList.drop 0) = .ok (size, k1)) (h2 : Go.Num.dec (s.data.toList.drop k1) = .ok (m, k2)) :
    Calls Tryd.prog 27 #[.string s] w fun r w' => RSRes w.heap.size w' r (behind size (Go.Sign.rdBs m (s.data.toList.drop (k1 + k2)))) ∧ Below w.heap.size w w' := by
  obtain ⟨i0, hi, hz0, hz1, hz2⟩ := info_parts Tryd.info60
  have hd1 := dec_num h1
  rw [List.drop_zero, lenL] at hd1
  have hd2 := dec_num h2
  rw [List.length_drop, lenL] at hd2
  have H1 := hide (fun W => numOf_num s 0 size k1 W (by omega) (by omega) h1)
  rw [Nat.zero_add] at H1
  have H2 := hide (fun W => numOf_num s k1 m k2 W (by omega) (by omega) h2)
  have hm : (m : Int) ≤ 1099511627776 := by omega
  have hsz : (size : Int) ≤ 1099511627776 := by omega
  have hs' : (s.size : Int) ≤ 100000 := by omega
  have hk : k1 + k2 ≤ s.size := by omega
  generalize hR : behind size (Go.Sign.rdBs m (s.data.toList.drop (k1 + k2))) = R
  have HR := hide hR
  clear h1 h2 hR hd1 hd2
  generalize k1 + k2 = x0 at *
  have hk' : (x0 : Int) ≤ s.size := by omega
  go_enter Tryd.func27, Tryd.ntmps27
  go_wp2_with fail
  refine (H1.out _).mono ?_
  rintro r w1 ⟨rfl, rfl⟩
  go_wp2_with fail
  refine (H2.out _).mono ?_
  rintro r w2 ⟨rfl, rfl⟩
  go_wp2_with fail
  clear H1 H2
  go_loopw [6, 9, 10] (fun t6 t9 t10 wr => ∃ (x i : Nat) (l : List Blk), t6 = .int .i64 x ∧ t10 = .int .i64 i ∧ x ≤ s.size ∧ i ≤ m ∧ Hid (i = l.length) ∧ 3 * i ≤ x ∧ Hid (wr.ownsRow w2.heap.size 60 3 t9 l.length (bcs l)) ∧ Hid (Below w2.heap.size w2 wr) ∧ Hid (behind size (Go.Sign.ahead l (Go.Sign.rdBs (m - i) (s.data.toList.drop x))) = R)) (fun _ _ t10 _ => m - (intOf t10).toNat)
  case atStart => exact ⟨x0, 0, [], rfl, rfl, hk, by omega, rfl, by omega, World.ownsRow_nil _ _ _ _, Below.refl _ _, by rw [Go.Sign.ahead_nil, Nat.sub_zero]; exact HR.out⟩
  case round =>
    clear HR
    obtain ⟨x, i, l, rfl, rfl, hx, hin, Hil, h3, Hown, Hb, HI⟩ := hrel
    by_cases hlt : i < m
    · have hlt' : (i : Int) < m := by omega
      have Ht0 := hide (TrAt.fresh wr 77)
      have Hlt : Hid (∀ g, u9.ownBlock = some g → g < wr.heap.size) := fun g hg => (Hown.out.lt g hg).2
      have Hown0 := hide (Hown.out.alloc (.cells #[.int .i64 0, .int .i64 0, .int .i64 0] 77))
      have Hb0 := hide (Hb.out.alloc Hb.out.size (.cells #[.int .i64 0, .int .i64 0, .int .i64 0] 77))
      have HQ := hide Hb.out.size
      clear Hown Hb
      go_wp2_with fail
      generalize wr.heap.size = q at *
      go_loopw [6, 12] (fun t6 t12 wi => ∃ (k y a b c : Nat), t12 = .int .i64 k ∧ t6 = .int .i64 y ∧ k ≤ 3 ∧ x + k ≤ y ∧ y ≤ s.size ∧ Hid (TrAt q wi a b c) ∧ Hid (wi.ownsRow w2.heap.size 60 3 u9 l.length (bcs l)) ∧ Hid (Below w2.heap.size w2 wi) ∧ Hid (Part (s.data.toList.drop x) k (s.data.toList.drop y) a b c)) (fun _ t12 _ => 3 - (intOf t12).toNat)
      case atStart => exact ⟨0, x, 0, 0, 0, rfl, rfl, by omega, by omega, hx, Ht0.out, Hown0.out, Hb0.out, rfl⟩
      case round =>
        clear Ht0 Hown0 Hb0
        obtain ⟨k, y, a, b, c, rfl, rfl, hk3, hxy, hy, HT, Hown, Hb, HP⟩ := hrel
        have tr := HT.out
        obtain ⟨t0, t1, t2, g0, g1, g2, tlt⟩ := HT.out
        by_cases hk3' : k < 3
        · cases hd : Go.Num.dec (s.data.toList.drop y) with
          | error e =>
            have HN := hide (fun W => numOf_err s y e W (by omega) hy hd)
            have he := dec_code hd
            have hrd := HP.out.error hk3' (num_dropE hd)
            have hA := HI.out
            rw [show m - i = (m - i - 1) + 1 by omega, Go.Sign.ahead_error hrd] at hA
            have hA' : R = .error e := hA.symm
            subst hA'
            have he' : 0 < e := by omega
            have hk3'' : (k : Int) < 3 := by omega
            clear hd he hrd hA HI HP tr
            go_wp2_with fail
            refine (HN.out _).mono ?_
            rintro r w4 ⟨rfl, rfl⟩
            go_wp2_with fail
            go_ret3
            exact ⟨rfl, Hb.out⟩
          | ok pr =>
            obtain ⟨n, j⟩ := pr
            have hnj := dec_num hd
            rw [List.length_drop, lenL] at hnj
            have HN := hide (fun W => numOf_num s y n j W (by omega) hy hd)
            have Hd := hide hd
            have hyj : ((y + j : Nat) : Int) = (y : Int) + (j : Int) := by omega
            clear hd
            rcases (show k = 0 ∨ k = 1 ∨ k = 2 by omega) with rfl | rfl | rfl
            · have e0 := tr.c0
              go_wp2_with fail
              refine (HN.out _).mono ?_
              rintro r w4 ⟨rfl, rfl⟩
              go_wp2_with fail
              go_roundw
              case rel => exact ⟨1, y + j, n, b, c, rfl, by go_num, by omega, by omega, by omega, HT.out.set0 n, own_setOther Hown.out Hlt.out, Hb.out.setCell (p := ⟨q, 0, none⟩) HQ.out _, by have hp : s.data.toList.drop y = s.data.toList.drop x := HP.out; have h := num_drop Hd.out; rw [hp] at h; exact h⟩
              case measure => simp [intOf]
            · have e0 := tr.c1
              go_wp2_with fail
              refine (HN.out _).mono ?_
              rintro r w4 ⟨rfl, rfl⟩
              go_wp2_with fail
              go_roundw
              case rel => exact ⟨2, y + j, a, n, c, rfl, by go_num, by omega, by omega, by omega, HT.out.set1 n, own_setOther Hown.out Hlt.out, Hb.out.setCell (p := ⟨q, 1, none⟩) HQ.out _, ⟨_, HP.out, num_drop Hd.out⟩⟩
              case measure => simp [intOf]
            · have e0 := tr.c2
              go_wp2_with fail
              refine (HN.out _).mono ?_
              rintro r w4 ⟨rfl, rfl⟩
              go_wp2_with fail
              go_roundw
              case rel => exact ⟨3, y + j, a, b, n, rfl, by go_num, by omega, by omega, by omega, HT.out.set2 n, own_setOther Hown.out Hlt.out, Hb.out.setCell (p := ⟨q, 2, none⟩) HQ.out _, by obtain ⟨z1, g1, g2⟩ : ∃ s1, Go.Sign.num (s.data.toList.drop x) = .ok (a, s1) ∧ Go.Sign.num s1 = .ok (b, s.data.toList.drop y) := HP.out; exact ⟨z1, _, g1, g2, num_drop Hd.out⟩⟩
              case measure => simp [intOf]
        · have hk33 : k = 3 := by omega
          subst hk33
          have Hdn := hide HP.out.done
          have hA := HI.out
          rw [show m - i = (m - i - 1) + 1 by omega] at hA
          by_cases hc : 4294967295 < c
          · have hrd := Hdn.out
            rw [if_pos hc] at hrd
            rw [Go.Sign.ahead_error hrd] at hA
            have hA' : R = .error 1 := hA.symm
            subst hA'
            have hc' : (4294967295 : Int) < c := by omega
            clear hrd hA HI HP tr Hdn hc
            go_wp2_with fail
            go_ret3
            exact ⟨rfl, Hb.out⟩
          · have hrd := Hdn.out
            rw [if_neg hc] at hrd
            rw [Go.Sign.ahead_ok hrd, show m - i - 1 = m - (i + 1) by omega] at hA
            have HA := hide hA
            have hc' : (c : Int) ≤ 4294967295 := by omega
            have hcm : (c : Int) % 4294967296 = (c : Int) := by omega
            have hll : l.length ≤ 100000 := by have := Hil.out; omega
            clear hrd hA HI HP tr Hdn hc
            go_wp2_with (first | (at_builtin; refine wpList_append_own _ rfl (.tmp 62) (.tmp 71) 35 rfl w2.heap.size 60 i0 (.agg #[.int .i64 0, .int .i64 0, .int .u32 0]) 3 24 Tryd.underlying35 hi hz0 hz1 hz2 rfl (by decide) u9 l.length (bcs l) rfl ?own ⟨wr.heap.size, 0, none⟩ 1 1 [.int .i64 a, .int .i64 b, .int .u32 c] rfl rfl ?c1 ?c2 ?b1 ?b2 ?b3 ?next))
            case own => exact Hown.out.alloc _
            case c1 => intro j u hj; match j, hj with | 0, hj | 1, hj | 2, hj => simp at hj; subst hj; simp [Addr.add]
            case c2 => intro u hu; simp at hu; rcases hu with rfl | rfl | rfl <;> rfl
            case b1 => unfold maxLen; omega
            case b2 => omega
            case b3 => have := Hb.out.size; simp; omega
            case next =>
              intro v5 w5 hown5 hgrow5 _
              have hb5 : Below w2.heap.size wr w5 := ((Below.refl _ _).alloc Hb.out.size _).grown hgrow5 (by have := Hb.out.size; simp; omega) (fun k hk => (Hown.out.lt k hk).1)
              have Hb5 := hide (Hb.out.trans hb5)
              have Hown5 := hide hown5
              clear hb5 hown5 hgrow5 Hown Hb
              go_wp2_with fail
              go_roundw
              case rel =>
                refine ⟨y, i + 1, l ++ [(⟨a, b, c⟩ : Blk)], rfl, by go_num, hy, by omega, by have := Hil.out; simp [Hid]; omega, by omega, ?_, Hb5.out, HA⟩
                have h := Hown5.out
                rw [show [Value.int .i64 (a : Int), .int .i64 (b : Int), .int .u32 (c : Int)] = bcells ⟨a, b, c⟩ from rfl, ← bcs_snoc] at h
                simpa [Hid] using h
              case measure => simp [intOf]; omega
    · have hle : (m : Int) ≤ (i : Int) := by omega
      have hA := HI.out
      rw [show m - i = 0 by omega, Go.Sign.rdBs, Go.Sign.ahead, List.append_nil, behind, fin] at hA
      by_cases hxe : x = s.size
      · rw [if_pos (by rw [List.drop_eq_nil_iff, lenL]; omega)] at hA
        simp only at hA
        have HA := hide hA
        subst hxe
        have hrow := RowIn.of_own Hown.out
        have HF := hide (sfault_ok u9 l size wr hrow (by have := Hil.out; omega))
        have hf9 : ∃ a cap, u9 = .slice a l.length cap := by
          rcases Hown.out.2 with ⟨e, h⟩ | ⟨g, c, cur, e, _⟩
          · exact ⟨none, 0, by rw [e, h]⟩
          · exact ⟨_, _, e⟩
        obtain ⟨a9, cap9, rfl⟩ := hf9
        unfold fval at HF
        generalize Go.Sign.fault l size = f at *
        obtain ⟨fc, fa⟩ := f
        simp only at HA HF
        clear hA HI hrow
        by_cases hfc : fc = 0
        · subst hfc
          have hR := HA.out
          rw [if_pos rfl] at hR
          subst hR
          clear HA
          go_wp2_with fail
          refine HF.out.mono ?_
          rintro r w4 ⟨rfl, hb4⟩
          have Hown4 := hide (own_below Hown.out hb4)
          have Hb4 := hide (bthen Hb.out hb4)
          clear hb4 HF Hown Hb
          go_wp2_with fail
          go_ret3
          exact ⟨⟨_, rfl, Hown4.out.alloc _⟩, Hb4.out.alloc Hb4.out.size _⟩
        · have hR := HA.out
          rw [if_neg hfc] at hR
          subst hR
          have hfc' : 0 < fc := by omega
          clear HA hfc
          go_wp2_with fail
          refine HF.out.mono ?_
          rintro r w4 ⟨rfl, hb4⟩
          have Hb4 := hide (bthen Hb.out hb4)
          clear hb4 HF Hown Hb
          go_wp2_with fail
          go_quiet (fail)
          go_wp2
          go_ret3
          exact ⟨rfl, (Hb4.out.alloc Hb4.out.size _).trans ⟨rfl, rfl, rfl, Nat.le_refl _, fun _ _ => rfl⟩⟩
      · rw [if_neg (by rw [List.drop_eq_nil_iff, lenL]; omega)] at hA
        have hA' : R = .error 1 := hA.symm
        subst hA'
        have hxe' : ((x : Int) == (s.size : Int)) = false := by simp; omega
        have hxn : (x : Int) < s.size := by omega
        clear hA HI hxe
        go_wp2_with fail
        go_ret3
        exact ⟨rfl, Hb.out⟩

theorem rsign_ok (s : ByteArray) (w : World) (hs : s.size ≤ 100000) :
    Calls Tryd.prog 27 #[.string s] w fun r w' => RSRes w.heap.size w' r (Go.Sign.rdS s.data.toList) ∧ Below w.heap.size w w' := by
  cases h1 : Go.Num.dec (s.data.toList.drop 0) with
  | error c =>
    rw [rdS_err1 h1]
    exact rsign_err1 s c w hs h1
  | ok p =>
    obtain ⟨size, k1⟩ := p
    cases h2 : Go.Num.dec (s.data.toList.drop k1) with
    | error c =>
      rw [rdS_err2 h1 h2]
      exact rsign_err2 s size k1 c w hs h1 h2
    | ok p2 =>
      obtain ⟨m, k2⟩ := p2
      rw [rdS_behind h1 h2]
      exact rsign_main s size k1 m k2 w hs h1 h2
end Go.Proofs.YtgcpljgdeoeppabDoor
