/-
  Contract of the document's ReadMark over this dump.
  Contract of the laws' longMarks over this dump.
-/
import Derived.Test.YtogpjblikphpcaaGreatDoorJoin46
import Derived.Test.YtogpjblikphpcaaGreatDoorRkFar
namespace Go.Proofs.YtogpjblikphpcaaGreatDoor
open Go.RowKit
open Go.Basis
open Go.Gate (cutC)
open Go.Digits (numberOf)

/-- The document's mark at a block. -/
def Rm (p : Nat) (m : Mk) : Fam := CellsF p 57 [.string m.name, .int .i64 m.n, .int .i64 m.c]
section
variable {M0 : Foot} {w0 w : World} {p : Nat} {m : Mk} {L : List Fam}
theorem Rm.cells (h : Sep M0 w0 (Rm p m :: L) w) : w.cell? ⟨p, 0, none⟩ = some (.string m.name) ∧ w.cell? ⟨p, 1, none⟩ = some (.int .i64 m.n) ∧ w.cell? ⟨p, 2, none⟩ = some (.int .i64 m.c) := by
  have h' : Sep M0 w0 (CellsF p _ _ :: L) w := h
  exact ⟨(h'.cell 0).1, (h'.cell 1).1, (h'.cell 2).1⟩
theorem Rm.frz (h : Sep M0 w0 (Rm p m :: L) w) : w.frozen? ⟨p, 0, none⟩ = false ∧ w.frozen? ⟨p, 1, none⟩ = false ∧ w.frozen? ⟨p, 2, none⟩ = false := by
  have h' : Sep M0 w0 (CellsF p _ _ :: L) w := h
  exact ⟨(h'.cell 0).2, (h'.cell 1).2, (h'.cell 2).2⟩
theorem Rm.set3 (h : Sep M0 w0 (Rm p m :: L) w) (k : Mk) : Sep M0 w0 (Rm p k :: L) (((w.setCell ⟨p, 0, none⟩ (.string k.name)).setCell ⟨p, 1, none⟩ (.int .i64 k.n)).setCell ⟨p, 2, none⟩ (.int .i64 k.c)) := by
  have h' : Sep M0 w0 (CellsF p _ _ :: L) w := h
  have h2 := ((h'.set 0 (.string k.name)).set 1 (.int .i64 k.n)).set 2 (.int .i64 k.c)
  simp only [List.set_cons_zero, List.set_cons_succ] at h2
  exact h2
end
theorem readM_words {s : List UInt8} (h : (cutC 32 s).length ≠ 3) : readM s = (1, noMk) := by
  unfold readM
  split
  · rename_i e; rw [e] at h; exact absurd rfl h
  · rfl

set_option maxHeartbeats 2000000 in
set_option maxRecDepth 100000 in
theorem rreadMark_few (s : ByteArray) (W : World) (hs : s.size ≤ 1000) (h3 : (cutC 32 s.data.toList).length ≠ 3) : Calls Tryz.prog 27 #[.string s] W fun r w' => r = .returned (.tuple #[mkC (readM s.data.toList).2, .int .i64 ((readM s.data.toList).1 : Nat)]) ∧ Below W.heap.size W w' := by
  have h0 : Sep Foot.none W [Rm W.heap.size noMk] (W.alloc (.cells #[.string ⟨#[]⟩, .int .i64 0, .int .i64 0] 57)) := (Sep.start W).fresh 57 [.string ⟨#[]⟩, .int .i64 0, .int .i64 0]
  have HC := hide (rcutC_ok 32 h0 s (by omega))
  rw [show ((32 : UInt8).toNat) = 32 from rfl] at HC
  rw [readM_words h3]
  have hl := Go.Gate.cutC_len 32 s.data.toList
  rw [lenL] at hl
  generalize cutC 32 s.data.toList = P at *
  have hne : ¬ (P.length : Int) = 3 := by omega
  clear h0
  go_enter Tryz.func27, Tryz.ntmps27
  go_wp2_with fail
  refine HC.out.mono ?_
  rintro r w1 ⟨v, rfl, hs1⟩
  obtain ⟨va, vc, rfl, -⟩ := own_slice' hs1.own
  have hs2 := hs1.sw
  have HS2 := hide hs2
  obtain ⟨c0, c1, c2⟩ := Rm.cells hs2
  obtain ⟨f0, f1, f2⟩ := Rm.frz hs2
  clear hs1 HC
  have HZ := hide (Rm.set3 HS2.out noMk)
  clear hs2 HS2
  go_wp2_with fail
  (try simp only [Exit.inBlock, Exit.then])
  refine bodyPost_ret (v := .tuple #[.agg #[.string ⟨#[]⟩, .int .i64 0, .int .i64 0], .int .i64 1]) ?_ rfl ⟨rfl, HZ.out.below⟩
  obtain ⟨s0, s1, s2⟩ := Rm.cells HZ.out
  simp only [results, show Tryz.f27.results = #[.cell 2 57, .tmp 3] from rfl]
  go_simp

set_option maxHeartbeats 2000000 in
set_option maxRecDepth 100000 in
theorem rreadMark_three (s : ByteArray) (nm x y : List UInt8) (W : World) (hs : s.size ≤ 1000) (h3 : cutC 32 s.data.toList = [nm, x, y]) : Calls Tryz.prog 27 #[.string s] W fun r w' => r = .returned (.tuple #[mkC (readM s.data.toList).2, .int .i64 ((readM s.data.toList).1 : Nat)]) ∧ Below W.heap.size W w' := by
  have h0 : Sep Foot.none W [Rm W.heap.size noMk] (W.alloc (.cells #[.string ⟨#[]⟩, .int .i64 0, .int .i64 0] 57)) := (Sep.start W).fresh 57 [.string ⟨#[]⟩, .int .i64 0, .int .i64 0]
  have HC := hide (rcutC_ok 32 h0 s (by omega))
  rw [show ((32 : UInt8).toNat) = 32 from rfl, h3] at HC
  have hp := Go.Gate.cutC_parts 32 s.data.toList
  rw [h3, lenL] at hp
  have l0 := hp nm (by simp)
  have l1 := hp x (by simp)
  have l2 := hp y (by simp)
  have HA := hide (fun W => rnum_ok (str x) 10 (by omega) (by rw [str_len]; omega) W)
  have HB := hide (fun W => rnum_ok (str y) 10 (by omega) (by rw [str_len]; omega) W)
  have HI := hide (fun W => isName_ok (str nm) W (by rw [str_len]; omega))
  rw [strL] at HA HB
  have hR : readM s.data.toList = match numberOf x 10, numberOf y 10 with
    | some n, some c => if Go.Files.isNm (str nm) = false then (5, noMk) else if 4000 < n ∨ 4294967295 < c then (2, noMk) else (0, ⟨str nm, n, c⟩)
    | _, _ => (1, noMk) := by unfold readM; rw [h3]; rfl
  rw [hR]
  simp only [List.length_cons, List.length_nil, List.map_cons, List.map_nil] at HC
  clear h0 hp h3 hR l0 l1 l2
  cases hx : numberOf x 10 with
  | none =>
    have ex : numI x 10 = -1 := by unfold numI; rw [hx]
    rw [ex] at HA
    simp only
    clear hx ex HI
    generalize numI y 10 = yn at *
    go_enter Tryz.func27, Tryz.ntmps27
    go_wp2_with fail
    refine HC.out.mono ?_
    rintro r w1 ⟨v, rfl, hs1⟩
    obtain ⟨g, vc, rfl⟩ := own_form hs1.own
    have hc : ∀ j u, [partC nm, partC x, partC y][j]? = some u → w1.cell? ⟨g, j, none⟩ = some u := fun j u h => by
      have k := hs1.own.cells (g := g) rfl j u h
      rw [Go.WideShapes.add_plain] at k
      simpa using k
    have k0 := hc 0 _ rfl
    have k1 := hc 1 _ rfl
    have k2 := hc 2 _ rfl
    simp only [partC] at k0 k1 k2
    have hs2 := hs1.sw
    have HS2 := hide hs2
    obtain ⟨c0, c1, c2⟩ := Rm.cells hs2
    obtain ⟨f0, f1, f2⟩ := Rm.frz hs2
    clear hs1 hs2 HC hc
    go_wp2_with fail
    refine (HA.out _).mono ?_
    rintro r w2 ⟨rfl, rfl⟩
    go_wp2_with fail
    refine (HB.out _).mono ?_
    rintro r w2 ⟨rfl, rfl⟩
    have HZ := hide (Rm.set3 HS2.out noMk)
    clear HS2
    go_wp2_with fail
    (try simp only [Exit.inBlock, Exit.then])
    refine bodyPost_ret (v := .tuple #[.agg #[.string ⟨#[]⟩, .int .i64 0, .int .i64 0], .int .i64 1]) ?_ rfl ⟨rfl, HZ.out.below⟩
    obtain ⟨s0, s1, s2⟩ := Rm.cells HZ.out
    simp only [results, show Tryz.f27.results = #[.cell 2 57, .tmp 3] from rfl]
    go_simp
  | some n =>
    have ex : numI x 10 = n := by unfold numI; rw [hx]
    rw [ex] at HA
    have hn0 : (0 : Int) ≤ n := by omega
    cases hy : numberOf y 10 with
    | none =>
      have ey : numI y 10 = -1 := by unfold numI; rw [hy]
      rw [ey] at HB
      simp only
      clear hx ex hy ey HI
      go_enter Tryz.func27, Tryz.ntmps27
      go_wp2_with fail
      refine HC.out.mono ?_
      rintro r w1 ⟨v, rfl, hs1⟩
      obtain ⟨g, vc, rfl⟩ := own_form hs1.own
      have hc : ∀ j u, [partC nm, partC x, partC y][j]? = some u → w1.cell? ⟨g, j, none⟩ = some u := fun j u h => by
        have k := hs1.own.cells (g := g) rfl j u h
        rw [Go.WideShapes.add_plain] at k
        simpa using k
      have k0 := hc 0 _ rfl
      have k1 := hc 1 _ rfl
      have k2 := hc 2 _ rfl
      simp only [partC] at k0 k1 k2
      have hs2 := hs1.sw
      have HS2 := hide hs2
      obtain ⟨c0, c1, c2⟩ := Rm.cells hs2
      obtain ⟨f0, f1, f2⟩ := Rm.frz hs2
      clear hs1 hs2 HC hc
      go_wp2_with fail
      refine (HA.out _).mono ?_
      rintro r w2 ⟨rfl, rfl⟩
      go_wp2_with fail
      refine (HB.out _).mono ?_
      rintro r w2 ⟨rfl, rfl⟩
      have HZ := hide (Rm.set3 HS2.out noMk)
      clear HS2
      go_wp2_with fail
      (try simp only [Exit.inBlock, Exit.then])
      refine bodyPost_ret (v := .tuple #[.agg #[.string ⟨#[]⟩, .int .i64 0, .int .i64 0], .int .i64 1]) ?_ rfl ⟨rfl, HZ.out.below⟩
      obtain ⟨s0, s1, s2⟩ := Rm.cells HZ.out
      simp only [results, show Tryz.f27.results = #[.cell 2 57, .tmp 3] from rfl]
      go_simp
    | some c =>
      have ey : numI y 10 = c := by unfold numI; rw [hy]
      rw [ey] at HB
      have hc0 : (0 : Int) ≤ c := by omega
      simp only
      clear hx ex hy ey
      cases hN : Go.Files.isNm (str nm) with
      | false =>
        rw [hN] at HI
        rw [if_pos rfl]
        clear hN
        go_enter Tryz.func27, Tryz.ntmps27
        go_wp2_with fail
        refine HC.out.mono ?_
        rintro r w1 ⟨v, rfl, hs1⟩
        obtain ⟨g, vc, rfl⟩ := own_form hs1.own
        have hc : ∀ j u, [partC nm, partC x, partC y][j]? = some u → w1.cell? ⟨g, j, none⟩ = some u := fun j u h => by
          have k := hs1.own.cells (g := g) rfl j u h
          rw [Go.WideShapes.add_plain] at k
          simpa using k
        have k0 := hc 0 _ rfl
        have k1 := hc 1 _ rfl
        have k2 := hc 2 _ rfl
        simp only [partC] at k0 k1 k2
        have hs2 := hs1.sw
        have HS2 := hide hs2
        obtain ⟨c0, c1, c2⟩ := Rm.cells hs2
        obtain ⟨f0, f1, f2⟩ := Rm.frz hs2
        clear hs1 hs2 HC hc
        go_wp2_with fail
        refine (HA.out _).mono ?_
        rintro r w2 ⟨rfl, rfl⟩
        go_wp2_with fail
        refine (HB.out _).mono ?_
        rintro r w2 ⟨rfl, rfl⟩
        go_wp2_with fail
        refine (HI.out _).mono ?_
        rintro r w2 ⟨rfl, rfl⟩
        have HZ := hide (Rm.set3 HS2.out noMk)
        clear HS2
        go_wp2_with fail
        (try simp only [Exit.inBlock, Exit.then])
        refine bodyPost_ret (v := .tuple #[.agg #[.string ⟨#[]⟩, .int .i64 0, .int .i64 0], .int .i64 5]) ?_ rfl ⟨rfl, HZ.out.below⟩
        obtain ⟨s0, s1, s2⟩ := Rm.cells HZ.out
        simp only [results, show Tryz.f27.results = #[.cell 2 57, .tmp 3] from rfl]
        go_simp
      | true =>
        rw [hN] at HI
        rw [if_neg (by simp)]
        clear hN
        by_cases h1 : 4000 < n
        · rw [if_pos (.inl h1)]
          have h1' : (4000 : Int) < n := by omega
          go_enter Tryz.func27, Tryz.ntmps27
          go_wp2_with fail
          refine HC.out.mono ?_
          rintro r w1 ⟨v, rfl, hs1⟩
          obtain ⟨g, vc, rfl⟩ := own_form hs1.own
          have hc : ∀ j u, [partC nm, partC x, partC y][j]? = some u → w1.cell? ⟨g, j, none⟩ = some u := fun j u h => by
            have k := hs1.own.cells (g := g) rfl j u h
            rw [Go.WideShapes.add_plain] at k
            simpa using k
          have k0 := hc 0 _ rfl
          have k1 := hc 1 _ rfl
          have k2 := hc 2 _ rfl
          simp only [partC] at k0 k1 k2
          have hs2 := hs1.sw
          have HS2 := hide hs2
          obtain ⟨c0, c1, c2⟩ := Rm.cells hs2
          obtain ⟨f0, f1, f2⟩ := Rm.frz hs2
          clear hs1 hs2 HC hc
          go_wp2_with fail
          refine (HA.out _).mono ?_
          rintro r w2 ⟨rfl, rfl⟩
          go_wp2_with fail
          refine (HB.out _).mono ?_
          rintro r w2 ⟨rfl, rfl⟩
          go_wp2_with fail
          refine (HI.out _).mono ?_
          rintro r w2 ⟨rfl, rfl⟩
          have HZ := hide (Rm.set3 HS2.out noMk)
          clear HS2
          go_wp2_with fail
          (try simp only [Exit.inBlock, Exit.then])
          refine bodyPost_ret (v := .tuple #[.agg #[.string ⟨#[]⟩, .int .i64 0, .int .i64 0], .int .i64 2]) ?_ rfl ⟨rfl, HZ.out.below⟩
          obtain ⟨s0, s1, s2⟩ := Rm.cells HZ.out
          simp only [results, show Tryz.f27.results = #[.cell 2 57, .tmp 3] from rfl]
          go_simp
        · have h1' : (n : Int) ≤ 4000 := by omega
          by_cases h2 : 4294967295 < c
          · rw [if_pos (.inr h2)]
            have h2' : (4294967295 : Int) < c := by omega
            go_enter Tryz.func27, Tryz.ntmps27
            go_wp2_with fail
            refine HC.out.mono ?_
            rintro r w1 ⟨v, rfl, hs1⟩
            obtain ⟨g, vc, rfl⟩ := own_form hs1.own
            have hc : ∀ j u, [partC nm, partC x, partC y][j]? = some u → w1.cell? ⟨g, j, none⟩ = some u := fun j u h => by
              have k := hs1.own.cells (g := g) rfl j u h
              rw [Go.WideShapes.add_plain] at k
              simpa using k
            have k0 := hc 0 _ rfl
            have k1 := hc 1 _ rfl
            have k2 := hc 2 _ rfl
            simp only [partC] at k0 k1 k2
            have hs2 := hs1.sw
            have HS2 := hide hs2
            obtain ⟨c0, c1, c2⟩ := Rm.cells hs2
            obtain ⟨f0, f1, f2⟩ := Rm.frz hs2
            clear hs1 hs2 HC hc
            go_wp2_with fail
            refine (HA.out _).mono ?_
            rintro r w2 ⟨rfl, rfl⟩
            go_wp2_with fail
            refine (HB.out _).mono ?_
            rintro r w2 ⟨rfl, rfl⟩
            go_wp2_with fail
            refine (HI.out _).mono ?_
            rintro r w2 ⟨rfl, rfl⟩
            have HZ := hide (Rm.set3 HS2.out noMk)
            clear HS2
            go_wp2_with fail
            (try simp only [Exit.inBlock, Exit.then])
            refine bodyPost_ret (v := .tuple #[.agg #[.string ⟨#[]⟩, .int .i64 0, .int .i64 0], .int .i64 2]) ?_ rfl ⟨rfl, HZ.out.below⟩
            obtain ⟨s0, s1, s2⟩ := Rm.cells HZ.out
            simp only [results, show Tryz.f27.results = #[.cell 2 57, .tmp 3] from rfl]
            go_simp
          · rw [if_neg (fun h => h.elim h1 h2)]
            have h2' : (c : Int) ≤ 4294967295 := by omega
            go_enter Tryz.func27, Tryz.ntmps27
            go_wp2_with fail
            refine HC.out.mono ?_
            rintro r w1 ⟨v, rfl, hs1⟩
            obtain ⟨g, vc, rfl⟩ := own_form hs1.own
            have hc : ∀ j u, [partC nm, partC x, partC y][j]? = some u → w1.cell? ⟨g, j, none⟩ = some u := fun j u h => by
              have k := hs1.own.cells (g := g) rfl j u h
              rw [Go.WideShapes.add_plain] at k
              simpa using k
            have k0 := hc 0 _ rfl
            have k1 := hc 1 _ rfl
            have k2 := hc 2 _ rfl
            simp only [partC] at k0 k1 k2
            have hs2 := hs1.sw
            have HS2 := hide hs2
            obtain ⟨c0, c1, c2⟩ := Rm.cells hs2
            obtain ⟨f0, f1, f2⟩ := Rm.frz hs2
            clear hs1 hs2 HC hc
            go_wp2_with fail
            refine (HA.out _).mono ?_
            rintro r w2 ⟨rfl, rfl⟩
            go_wp2_with fail
            refine (HB.out _).mono ?_
            rintro r w2 ⟨rfl, rfl⟩
            go_wp2_with fail
            refine (HI.out _).mono ?_
            rintro r w2 ⟨rfl, rfl⟩
            have HZ := hide (Rm.set3 HS2.out ⟨str nm, n, c⟩)
            clear HS2
            go_wp2_with fail
            (try simp only [Exit.inBlock, Exit.then])
            refine bodyPost_ret (v := .tuple #[.agg #[.string (str nm), .int .i64 n, .int .i64 c], .int .i64 0]) ?_ rfl ⟨rfl, HZ.out.below⟩
            obtain ⟨s0, s1, s2⟩ := Rm.cells HZ.out
            simp only [results, show Tryz.f27.results = #[.cell 2 57, .tmp 3] from rfl]
            go_simp
theorem rreadMark_ok (s : ByteArray) (W : World) (hs : s.size ≤ 1000) : Calls Tryz.prog 27 #[.string s] W fun r w' => r = .returned (.tuple #[mkC (readM s.data.toList).2, .int .i64 ((readM s.data.toList).1 : Nat)]) ∧ Below W.heap.size W w' := by
  by_cases h3 : (cutC 32 s.data.toList).length = 3
  · match h : cutC 32 s.data.toList with
    | [] => rw [h] at h3; cases h3
    | [_] => rw [h] at h3; cases h3
    | [_, _] => rw [h] at h3; cases h3
    | [nm, x, y] => exact rreadMark_three s nm x y W hs h
    | _ :: _ :: _ :: _ :: _ => rw [h] at h3; simp at h3
  · exact rreadMark_few s W hs h3
end Go.Proofs.YtogpjblikphpcaaGreatDoor

namespace Go.Proofs.YtogpjblikphpcaaGreatDoor
open Go.RowKit
open Go.Basis

def longK (m : Mk) : Bool := decide (30 < m.name.size) || (decide (m.c < 0) || decide (4294967295 < m.c))
def longM (l : List Mk) : Bool := decide (40 < l.length) || l.any longK

set_option maxHeartbeats 1000000 in
set_option maxRecDepth 100000 in
theorem rlong_ok (v : Value) (l : List Mk) (W : World) (hA : McRow W v l) :
    Calls Tryz.prog 23 #[v] W fun r w' => r = .returned (.bool (longM l)) ∧ w' = W := by
  have HA := hide hA
  obtain ⟨va, vc, rfl, -⟩ := hA
  by_cases h40 : 40 < l.length
  · have h40' : (40 : Int) < l.length := by omega
    have hL : longM l = true := by unfold longM; simp [h40]
    rw [hL]
    clear HA hL
    go_enter Tryz.func23, Tryz.ntmps23
    go_wp2_with fail
    go_ret
    exact ⟨rfl, rfl⟩
  · have h40' : (l.length : Int) ≤ 40 := by omega
    have hL : longM l = l.any longK := by unfold longM; simp [h40]
    have HL := hide hL
    clear hL
    generalize longM l = B at *
    go_enter Tryz.func23, Tryz.ntmps23
    go_wp2_with fail
    go_loop [3] (fun t3 => ∃ i : Nat, t3 = .int .i64 i ∧ i ≤ l.length ∧ Hid ((l.take i).any longK = false)) (fun t3 => l.length - (intOf t3).toNat)
    case atStart => exact ⟨0, rfl, Nat.zero_le _, rfl⟩
    case round =>
      obtain ⟨i, rfl, hi, Hi⟩ := hrel
      by_cases hil : i < l.length
      · have hil' : (i : Int) < l.length := by omega
        obtain ⟨a0, c0, hv, hrow⟩ := HA.out
        cases hv
        obtain ⟨b, o, rfl, hcell⟩ := hrow (by omega)
        obtain ⟨m0, m1, m2⟩ := hcell i hil
        have Hstep := hide (any_take (p := longK) hil)
        have Hhit := hide (any_hit (p := longK) hil)
        generalize l[i] = m at *
        obtain ⟨mn, mk, mc⟩ := m
        simp only at m0 m1 m2
        have Hp : Hid (longK ⟨mn, mk, mc⟩ = (decide (30 < mn.size) || (decide (mc < 0) || decide (4294967295 < mc)))) := rfl
        clear hcell hrow HA
        by_cases h1 : 30 < mn.size
        · obtain rfl : B = true := by rw [HL.out]; exact Hhit.out (by rw [Hp.out]; simp [h1])
          have h1' : (30 : Int) < mn.size := by omega
          clear HL Hhit Hstep Hi Hp
          go_wp2_with fail
          go_ret
          exact ⟨rfl, rfl⟩
        · have h1' : (mn.size : Int) ≤ 30 := by omega
          by_cases h2 : mc < 0
          · obtain rfl : B = true := by rw [HL.out]; exact Hhit.out (by rw [Hp.out]; simp [h2])
            clear HL Hhit Hstep Hi Hp
            go_wp2_with fail
            go_ret
            exact ⟨rfl, rfl⟩
          · have h2' : 0 ≤ mc := by omega
            by_cases h3 : 4294967295 < mc
            · obtain rfl : B = true := by rw [HL.out]; exact Hhit.out (by rw [Hp.out]; simp [h3])
              clear HL Hhit Hstep Hi Hp
              go_wp2_with fail
              go_ret
              exact ⟨rfl, rfl⟩
            · have h3' : mc ≤ 4294967295 := by omega
              have Hi2 : Hid ((l.take (i + 1)).any longK = false) := by
                show _ = _
                rw [Hstep.out, Hi.out, Hp.out]
                simp [h1, h2, h3]
              clear HL Hhit Hstep Hi Hp
              go_wp2_with fail
              go_round
              case rel => exact ⟨i + 1, by go_num, by omega, Hi2.out⟩
              case measure => simp [intOf]; omega
      · have hil' : (l.length : Int) ≤ i := by omega
        have h2 := Hi.out
        rw [List.take_of_length_le (by omega)] at h2
        have hB : B = false := by rw [HL.out, h2]
        subst hB
        clear HL Hi HA h2
        go_wp2_with fail
        go_ret
        exact ⟨rfl, rfl⟩
theorem long_not {l : List Mk} (h : longM l = false) : l.length ≤ 40 ∧ ∀ m ∈ l, m.name.size ≤ 30 ∧ 0 ≤ m.c ∧ m.c ≤ 4294967295 := by
  unfold longM at h
  simp only [Bool.or_eq_false_iff, decide_eq_false_iff_not] at h
  refine ⟨by omega, fun m hm => ?_⟩
  have := List.any_eq_false.1 h.2 m hm
  unfold longK at this
  simp only [Bool.or_eq_true, decide_eq_true_eq, not_or] at this
  omega
end Go.Proofs.YtogpjblikphpcaaGreatDoor
