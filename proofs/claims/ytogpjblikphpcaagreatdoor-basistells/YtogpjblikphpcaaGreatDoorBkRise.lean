/-
  Contract of package basis's rising.
-/
import Derived.Test.YtogpjblikphpcaaGreatDoorBkSort
import Derived.Test.YtogpjblikphpcaaGreatDoorFarMath
import Derived.Test.YtogpjblikphpcaaGreatDoorSameB
import Derived.Deep.AppendLies
import Derived.Deep.DeepCutAuto
namespace Go.Proofs.YtogpjblikphpcaaGreatDoor
open Go.RowKit
open Go.Basis

theorem Tryz.infoMk' : (Tryz.prog.info? 60).map (fun i => (i.zero, i.size, i.bytes)) = some (some (.agg #[.string ⟨#[]⟩, .int .i64 0, .int .u32 0]), 3, 32) := by kernel_rfl
theorem newsM (w : World) (x y z : Value) (T : TypeId) (H : Nat) (hH : w.heap.size = H) : ∀ j u, [x, y, z][j]? = some u → (w.alloc (.cells #[x, y, z] T)).cell? ((⟨H, 0, none⟩ : Addr).add j) = some u := by
  subst hH
  intro j u hu
  exact World.news_of_block (heap_alloc_new w (.cells #[x, y, z] T)) j u hu
theorem here_len (l : List Mk) (nm : ByteArray) (n : Nat) : (hereL l nm n).length ≤ l.length := List.length_filter_le _ _

/-- What was made since then lies there. -/
theorem own_above {w0 w : World} {e : TypeId} {size n : Nat} {v : Value} {xs : List Value} (h : Sep Foot.none w0 [OwnF e size v n xs] w) (ho : w.ownsRow 0 e size v n xs) : w.ownsRow w0.heap.size e size v n xs := by
  obtain ⟨M, h1, h2⟩ := h
  obtain ⟨M1, M2, _, ⟨_, k2⟩, _, _, hm⟩ := h1.cons_inv
  rcases ho with ⟨e1, e2 | ⟨g, c, cur, e3, e4, e5⟩⟩
  · exact ⟨e1, .inl e2⟩
  · refine ⟨e1, .inr ⟨g, c, cur, e3, ?_, e5⟩⟩
    subst e3
    have hg : M g := (hm g).2 (.inl ((k2 g).2 rfl))
    rcases h2.foot g hg with h | h
    · exact h.elim
    · exact h

theorem own_new {w : World} {base size n : Nat} {e : TypeId} {v : Value} {xs : List Value} (h : w.ownsRow base e size v n xs) : ∀ a n c, v = .slice (some a) n c → base ≤ a.block := by
  intro a n' c e'
  rcases h.2 with ⟨rfl, _⟩ | ⟨g, cap, cur, rfl, hg, _⟩
  · cases e'
  · cases e'; exact hg

set_option maxHeartbeats 4000000 in
set_option maxRecDepth 100000 in
theorem rising_ok (v : Value) (l : List Mk) (nm : ByteArray) (k : Nat) (w : World) (hv : MkRow w v l) (hl : l.length ≤ 1000) (hk : k ≤ 1000000) (hn : nm.size ≤ 1000000) :
    Calls Tryz.prog 56 #[v, .string nm, .int .i64 k] w fun r w' => ∃ u l', r = .returned u ∧ l'.Perm (hereL l nm k) ∧ Up l' ∧ MkRow w' u l' ∧ (∀ a n c, u = .slice (some a) n c → w.heap.size ≤ a.block) ∧ Below w.heap.size w w' := by
  obtain ⟨i0, hi0, hz0, hz1, hz2⟩ := info_parts Tryz.infoMk'
  have HV := hide (fun W (q : Below w.heap.size w W) => hv.below q)
  have HSo := hide (fun v' l' W (h1 : W.ownsRow w.heap.size 60 3 v' l'.length (kcs' l')) (h2 : w.heap.size ≤ W.heap.size) (h3 : l'.length ≤ 1000000) => sortMk_ok w.heap.size v' l' W h1 h2 h3)
  obtain ⟨va, vc, rfl, _⟩ := hv
  have hl' : (l.length : Int) ≤ 1000 := by omega
  have hk' : (k : Int) ≤ 1000000 := by omega
  have HS0 := hide ((Sep.start w).nil 60 3)
  go_enter Tryz.func56, Tryz.ntmps56
  go_wp2_with fail
  go_loopw [7, 12] (fun t7 t12 wr => ∃ i : Nat, t12 = .int .i64 i ∧ i ≤ l.length ∧ Hid (Sep Foot.none w [OwnF 60 3 t7 (hereL (l.take i) nm k).length (kcs' (hereL (l.take i) nm k))] wr)) (fun _ t12 _ => l.length - (intOf t12).toNat)
  case atStart => exact ⟨0, rfl, Nat.zero_le _, HS0.out⟩
  case round =>
    clear HS0
    obtain ⟨i, rfl, hi, Hs⟩ := hrel
    by_cases hil : i < l.length
    · have hil' : (i : Int) < l.length := by omega
      obtain ⟨_, _, hv, hrow⟩ := HV.out _ Hs.out.below
      cases hv
      obtain ⟨b, o, rfl, hcell⟩ := hrow (by omega)
      obtain ⟨m0, m1, m2⟩ := hcell i hil
      have Hst : Hid (hereL (l.take (i + 1)) nm k = hereL (l.take i) nm k ++ (if isHere nm k l[i] = true then [l[i]] else [])) := here_snoc hil
      have hxl := here_len (l.take i) nm k
      rw [List.length_take, Nat.min_eq_left hi] at hxl
      clear hcell hrow HSo
      generalize hereL (l.take i) nm k = L1 at *
      generalize l[i] = m at *
      obtain ⟨mn, mk, mc⟩ := m
      simp only at m0 m1 m2
      have HSa := hide (Hs.out.alloc (.cells #[.string mn, .int .i64 mk, .int .u32 mc] 60))
      have hgo : (isHere nm k ⟨mn, mk, mc⟩ = true ∧ mn = nm ∧ 0 ≤ mk ∧ mk ≤ k) ∨ (isHere nm k ⟨mn, mk, mc⟩ = false ∧ (mn ≠ nm ∨ (mn = nm ∧ mk < 0) ∨ (mn = nm ∧ 0 ≤ mk ∧ (k : Int) < mk))) := by
        unfold isHere
        by_cases h1 : mn = nm
        · by_cases h2 : 0 ≤ mk
          · by_cases h3 : mk ≤ k
            · left; simp [h1, h2, h3]
            · right; exact ⟨by simp [h3], .inr (.inr ⟨h1, h2, by omega⟩)⟩
          · right; exact ⟨by simp [h2], .inr (.inl ⟨h1, by omega⟩)⟩
        · right; exact ⟨by simp [h1], .inl h1⟩
      rcases hgo with ⟨hh, rfl, h2, h3⟩ | ⟨hh, hcs⟩
      · rw [hh, if_pos rfl] at Hst
        have hsame : (mn.toList == mn.toList) = true := same_bytes rfl
        have Ho := hide HSa.out.own
        have Hc0 := hide (newsM wr (.string mn) (.int .i64 mk) (.int .u32 mc) 60 _ rfl)
        have hcs1 : kcs' (L1 ++ [⟨mn, mk, mc⟩]) = kcs' L1 ++ [.string mn, .int .i64 mk, .int .u32 mc] := cs3_snoc _ _
        have Hcs1 := hide hcs1
        have hln : (L1 ++ [(⟨mn, mk, mc⟩ : Mk)]).length = L1.length + 1 := by simp
        have Hln := hide hln
        have hxl3 : (kcs' L1).length = L1.length * 3 := cs3_length _
        have k0 : (wr.alloc (.cells #[.string mn, .int .i64 mk, .int .u32 mc] 60)).cell? ⟨wr.heap.size, 0, none⟩ = some (.string mn) := by simp
        have k1 : (wr.alloc (.cells #[.string mn, .int .i64 mk, .int .u32 mc] 60)).cell? ⟨wr.heap.size, 1, none⟩ = some (.int .i64 mk) := by simp
        have k2 : (wr.alloc (.cells #[.string mn, .int .i64 mk, .int .u32 mc] 60)).cell? ⟨wr.heap.size, 2, none⟩ = some (.int .u32 mc) := by simp
        clear hcs1 hln Hs Hc0
        go_upto_region 6 with fail
        generalize (wr.alloc (.cells #[.string mn, .int .i64 mk, .int .u32 mc] 60)) = w5 at *
        generalize kcs' L1 = xs at *
        generalize L1.length = n1 at *
        go_wp2_with (at_builtin; refine wpList_append_lies _ rfl (.tmp 31) (.tmp 33) 55 rfl 0 60 i0 (.agg #[.string ⟨#[]⟩, .int .i64 0, .int .u32 0]) 3 32 Tryz.underlying55 hi0 hz0 hz1 hz2 rfl (by decide) u7 n1 xs rfl (Ho.out.alloc _) ⟨w5.heap.size, 0, none⟩ 1 1 [.string mn, .int .i64 mk, .int .u32 mc] rfl rfl ?c1 ?c2 (by decide) ?b1 ?b2 (Nat.zero_le _) _ rfl ?next)
        try case c1 => exact newsM _ _ _ _ _ _ rfl
        case c2 => first | rfl | (intro u hu; simp at hu; rcases hu with rfl | rfl | rfl <;> rfl)
        case b1 => unfold maxLen; omega
        case b2 => omega
        case next =>
          intro g5 k5 w6 own5 hg5 hat5 hlt5
          have hs5 := (HSa.out.alloc (.cells #[.string mn, .int .i64 mk, .int .u32 mc] 60)).lies own5 hg5 hat5 (by simp)
          have Hs5 := hide hs5
          clear own5 hg5 hat5 hlt5 Ho hs5 k0 k1 k2 HSa
          go_wp2_with fail
          go_roundw
          case rel => exact ⟨i + 1, by go_num, by omega, by rw [Hst.out, Hcs1.out, Hln.out]; exact Hs5.out⟩
          case measure => simp [intOf]; omega
      · rw [hh, if_neg (by simp), List.append_nil] at Hst
        rcases hcs with h1 | ⟨rfl, h2⟩ | ⟨rfl, h2, h3⟩
        · have hsame : (mn.toList == nm.toList) = false := other_bytes h1
          go_wp2_with fail
          go_roundw
          case rel => exact ⟨i + 1, by go_num, by omega, by rw [Hst.out]; exact HSa.out⟩
          case measure => simp [intOf]; omega
        · have hsame : (mn.toList == mn.toList) = true := same_bytes rfl
          go_wp2_with fail
          go_roundw
          case rel => exact ⟨i + 1, by go_num, by omega, by rw [Hst.out]; exact HSa.out⟩
          case measure => simp [intOf]; omega
        · have hsame : (mn.toList == mn.toList) = true := same_bytes rfl
          go_wp2_with fail
          go_roundw
          case rel => exact ⟨i + 1, by go_num, by omega, by rw [Hst.out]; exact HSa.out⟩
          case measure => simp [intOf]; omega
    · have hil' : (l.length : Int) ≤ i := by omega
      obtain rfl : i = l.length := by omega
      rw [List.take_length] at Hs
      have hown := Hs.out.own
      have Hso := hide (HSo.out u7 (hereL l nm k) wr (own_above Hs.out hown) Hs.out.size (Nat.le_trans (here_len _ _ _) (by omega)))
      have Hb := hide Hs.out.below
      have HNew : Hid (∀ a n c, u7 = .slice (some a) n c → w.heap.size ≤ a.block) := own_new (own_above Hs.out hown)
      clear hown HSo Hs HV
      go_wp2_with fail
      refine Hso.out.mono ?_
      rintro r w2 ⟨rfl, l', hp, hu, hrow, hb2⟩
      have HR := hide (And.intro hp (And.intro hu hrow))
      have Hb2 := hide (Hb.out.trans hb2)
      clear hp hu hrow hb2 Hso
      go_wp2_with fail
      go_ret
      exact ⟨_, l', rfl, HR.out.1, HR.out.2.1, HR.out.2.2, HNew.out, Hb2.out⟩
end Go.Proofs.YtogpjblikphpcaaGreatDoor
