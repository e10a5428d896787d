/-
  What the three laws of a window ask of package window: a sender and a receiver as objects that lie apart. The closed fact.
-/
import Derived.Test.YtaambclpkghddaaDoorRefTexts
import Derived.Test.YtaambclpkghddaaDoorMapL
import Derived.Test.YtaambclpkghddaaDoorWindowInv
import Derived.Deep.DeepCutAuto
namespace Go.Proofs.YtaambclpkghddaaDoor
open Go.RowKit
open Go.Window (Sn Rc snNew rcNew startN)

def intV (n : Int) : Value := .int .i64 n
/-- The contracts: S, R what is said of a sender, of a receiver behind a pointer; errW an error by its number. -/
structure WinOk (Env : World → Prop) (S : Value → Sn → Fam) (R : Value → Rc → Fam) (errW : Nat → Value) : Prop where
  env : ∀ w w', Env w → Below w.heap.size w w' → Env w'
  none : errW 0 = .nilIface
  full : ∃ t x, errW 8 = .iface t x
  long : ∃ t x, errW 2 = .iface t x
  newS : ∀ n W, Env W → Tri Tryd.prog 7 #[.int .i64 n] [] (fun e L => ∃ a, e = .returned (.pointer (some a)) ∧ L = [S (.pointer (some a)) (snNew (startN n))]) W
  newR : ∀ n W, Env W → Tri Tryd.prog 8 #[.int .i64 n] [] (fun e L => ∃ a, e = .returned (.pointer (some a)) ∧ L = [R (.pointer (some a)) (rcNew (startN n))]) W
  push : ∀ v s d W, s.Ok → d.size ≤ 1000000 → Env W → Tri Tryd.prog 9 #[v, .string d] [S v s] (fun e L => e = .returned (.tuple #[.int .i64 ((s.push d).2.1 : Nat), errW (s.push d).2.2]) ∧ L = [S v (s.push d).1]) W
  kept : ∀ v s W, s.Ok → Env W → Tri Tryd.prog 12 #[v] [S v s] (fun e L => ∃ u, e = .returned u ∧ L = [RowF intV u (s.kept.map fun p => (p.1 : Int)), S v s]) W
  data : ∀ v s n W, s.Ok → WfI n → Env W → Tri Tryd.prog 13 #[v, .int .i64 n] [S v s] (fun e L => e = .returned (.tuple #[.string ((s.data n).getD ⟨#[]⟩), .bool (s.data n).isSome]) ∧ L = [S v s]) W
  takeS : ∀ v s n u more W, s.Ok → more.length ≤ 1000000 → (∀ x ∈ more, WfI x) → Env W → ∀ M, Star [S v s] M W → Row1 intV W u more → Out M u → Calls Tryd.prog 10 #[v, .agg #[.int .i64 n, u]] W fun e w' => ∃ L1, (e = .returned (.int .i64 ((s.kept.length : Int) - (s.ack n more).kept.length)) ∧ L1 = [S v (s.ack n more)]) ∧ Sep M W L1 w'
  takeR : ∀ v r n d W, r.Ok → d.size ≤ 1000000 → Env W → Tri Tryd.prog 14 #[v, .int .i64 n, .string d] [R v r] (fun e L => ∃ u, e = .returned u ∧ L = [RowF strV u (r.takeI n d).2, R v (r.takeI n d).1]) W
  ackR : ∀ v r W, r.Ok → Env W → Tri Tryd.prog 11 #[v] [R v r] (fun e L => ∃ u, e = .returned (.agg #[.int .i64 (r.due : Int), u]) ∧ L = [RowF intV u (r.more.map Int.ofNat), R v r]) W
  ahead : ∀ a b W, Calls Tryd.prog 17 #[.int .i64 a, .int .i64 b] W fun e w' => e = .returned (.bool (Go.Window.ahead a b)) ∧ Below W.heap.size W w'
/-- A call that makes memory alone, among objects. -/
theorem Sep.quiet {P : Program} {f : FuncId} {args : Array Value} {M0 : Foot} {w0 w : World} {L : List Fam} {ψ : Ending → Prop} (h : Sep M0 w0 L w) (hc : Calls P f args w fun r w' => ψ r ∧ Below w.heap.size w w') : Calls P f args w fun r w' => ψ r ∧ Sep M0 w0 L w' :=
  hc.mono fun _ _ ⟨a, b⟩ => ⟨a, h.keep b⟩
/-- A sender takes the answer of a list among the objects. -/
theorem WinOk.takeL {Env : World → Prop} {S : Value → Sn → Fam} {R : Value → Rc → Fam} {errW : Nat → Value} (h : WinOk Env S R errW) {v u : Value} {s : Sn} {n : Int} {more : List Int} {M0 : Foot} {w0 w : World} {L : List Fam} (hS : Sep M0 w0 (S v s :: RowF intV u more :: L) w) (hs : s.Ok) (hm : more.length ≤ 1000000) (hwf : ∀ x ∈ more, WfI x) (he : Env w) :
    Calls Tryd.prog 10 #[v, .agg #[.int .i64 n, u]] w fun e w' => e = .returned (.int .i64 ((s.kept.length : Int) - (s.ack n more).kept.length)) ∧ Sep M0 w0 (S v (s.ack n more) :: RowF intV u more :: L) w' := by
  have hS' : Sep M0 w0 ([S v s, RowF intV u more] ++ L) w := hS
  refine (hS'.call (Tri.row fun M hM hr ho => h.takeS v s n u more w hs hm hwf he M hM hr ho)).mono ?_
  rintro e w' ⟨L1, ⟨L2, ⟨rfl, rfl⟩, rfl⟩, hq⟩
  exact ⟨rfl, hq⟩

set_option maxHeartbeats 1000000 in
set_option maxRecDepth 100000 in
theorem windowed_ok (Env : World → Prop) (S : Value → Sn → Fam) (R : Value → Rc → Fam) (errW : Nat → Value) (h : WinOk Env S R errW) (w : World) (hE : Env w) :
    Calls Tryd.prog 6 #[] w fun e w' => e = .returned (.bool true) ∧ Below w.heap.size w w' := by
  have HE := hide (fun W (k : Below w.heap.size w W) => h.env w W hE k)
  have H1 := hide (fun W (k : Env W) => h.newS 65535 W k)
  have H2 := hide (fun W (k : Env W) => h.newR 65535 W k)
  have H3 := hide (fun v W (k : Env W) => h.push v (snNew 65535) ⟨#[120]⟩ W (Go.Window.ok_new _) (by decide) k)
  have H4 := hide (fun v W (k : Env W) => h.takeR v (rcNew 65535) 65535 ⟨#[120]⟩ W (Go.Window.rc_new _) (by decide) k)
  have H5 := hide (fun v W (k : Env W) => h.ackR v (rcNew 65536) W (Go.Window.rc_new _) k)
  have H6 := hide (fun v u (M0 : Foot) (w0 W : World) (L : List Fam) (k : Env W) (hS : Sep M0 w0 (S v (Sn.mk 0 [(65535, ⟨#[120]⟩)]) :: RowF intV u [] :: L) W) => h.takeL (n := 0) (more := []) hS ((Go.Window.ok_new 65535).push ⟨#[120]⟩) (by decide) (by simp) k)
  have H7 := hide (fun W => h.ahead 65535 0 W)
  have hn := h.none
  have hs1 : startN 65535 = 65535 := by decide
  have hp : (snNew 65535).push ⟨#[120]⟩ = (Sn.mk 0 [(65535, ⟨#[120]⟩)], 65535, 0) := Go.Window.one_push 65535 _ (by decide) (by decide)
  have ht : (rcNew 65535).takeI 65535 ⟨#[120]⟩ = (rcNew 65536, [⟨#[120]⟩]) := (Go.Window.Rc.takeI_nat (rcNew 65535) 65535 (by decide) _).trans (Go.Window.one_take 65535 _ (by decide))
  have hmr : (rcNew 65536).more = [] := Go.Window.new_more _
  have hdu : (rcNew 65536).due = 0 := by decide
  have hak : (Sn.mk 0 [(65535, ⟨#[120]⟩)]).ack 0 [] = snNew 65536 := Go.Window.one_ack 65535 _ (by decide)
  have hah : Go.Window.ahead 65535 0 = true := by decide
  have hk1 : ((Sn.mk 0 [(65535, ⟨#[120]⟩)]).kept.length : Int) - ((snNew 65536).kept.length : Int) = 1 := rfl
  rw [hs1] at H1 H2
  rw [hp, hn] at H3
  rw [ht] at H4
  rw [hmr, hdu] at H5
  simp only at H6
  rw [hak, hk1] at H6
  rw [hah] at H7
  simp only [List.map_nil] at H3 H4 H5
  have HX := hide (fun u W (k : Row1 strV W u [⟨#[120]⟩]) (k2 : Row1 strV (W.alloc (.cells #[.string ⟨#[120]⟩] 9)) (.slice (some ⟨W.heap.size, 0, none⟩) 1 1) [⟨#[120]⟩]) => sameTexts_ok u (.slice (some ⟨W.heap.size, 0, none⟩) 1 1) [⟨#[120]⟩] [⟨#[120]⟩] (W.alloc (.cells #[.string ⟨#[120]⟩] 9)) (k.below ((Below.refl _ _).alloc (Nat.le_refl _) _)) k2 (by decide) (by decide))
  rw [show decide ([(⟨#[120]⟩ : ByteArray)] = [⟨#[120]⟩]) = true from by simp] at HX
  clear h hE hn hs1 hp ht hmr hak hah hdu hk1
  have HS := hide (Sep.start w)
  go_enter Tryd.func6, Tryd.ntmps6
  go_wp2_with fail
  refine (Sep.call (L0 := []) HS.out (H1.out _ (HE.out _ HS.out.below))).mono ?_
  rintro e w1 ⟨_, ⟨a, rfl, rfl⟩, hs1⟩
  have HS1 := hide hs1
  clear hs1 HS H1
  go_wp2_with fail
  refine (Sep.call (L0 := []) HS1.out (H2.out _ (HE.out _ HS1.out.below))).mono ?_
  rintro e w2 ⟨_, ⟨b, rfl, rfl⟩, hs2⟩
  simp only [List.cons_append, List.nil_append] at hs2
  have HS2 := hide hs2.sw
  clear hs2 HS1 H2
  go_wp2_with fail
  refine (Sep.call (L0 := [_]) HS2.out (H3.out _ _ (HE.out _ HS2.out.below))).mono ?_
  rintro e w3 ⟨_, ⟨rfl, rfl⟩, hs3⟩
  simp only [List.cons_append, List.nil_append] at hs3
  have HS3 := hide hs3.sw
  clear hs3 HS2 H3
  go_wp2_with fail
  refine (Sep.call (L0 := [_]) HS3.out (H4.out _ _ (HE.out _ HS3.out.below))).mono ?_
  rintro e w4 ⟨_, ⟨u, rfl, rfl⟩, hs4⟩
  simp only [List.cons_append, List.nil_append] at hs4
  have HS4 := hide hs4.sw
  have HR4 := hide hs4.row
  obtain ⟨ua, uc, rfl, -⟩ := hs4.row
  clear hs4 HS3 H4
  go_wp2_with fail
  refine (Sep.call (L0 := [_]) HS4.out (H5.out _ _ (HE.out _ HS4.out.below))).mono ?_
  rintro e w5 ⟨_, ⟨v, rfl, rfl⟩, hs5⟩
  simp only [List.cons_append, List.nil_append] at hs5
  obtain ⟨va, vc, rfl, -⟩ := hs5.row
  simp only [List.length_nil] at hs5
  have hru := hs5.third.row
  have HS6 := hide (hs5.alloc (.cells #[.int .i64 0, .slice va 0 vc] 38))
  have HU6 := hide (hru.below ((Below.refl _ _).alloc (Nat.le_refl _) (.cells #[.int .i64 0, .slice va 0 vc] 38)))
  have b0 : (w5.alloc (.cells #[.int .i64 0, .slice va 0 vc] 38)).cell? ⟨w5.heap.size, 0, none⟩ = some (.int .i64 0) := by simp
  have b1 : (w5.alloc (.cells #[.int .i64 0, .slice va 0 vc] 38)).cell? ⟨w5.heap.size, 1, none⟩ = some (.slice va 0 vc) := by simp
  clear hs5 hru HS4 H5 HR4
  go_upto_region 8 with fail
  generalize w5.alloc (.cells #[.int .i64 0, .slice va 0 vc] 38) = w6 at *
  generalize w5.heap.size = B at *
  have k2 : Row1 strV (w6.alloc (.cells #[.string ⟨#[120]⟩] 9)) (.slice (some ⟨w6.heap.size, 0, none⟩) 1 1) [⟨#[120]⟩] := by
    refine ⟨_, _, rfl, fun _ => ⟨_, 0, rfl, fun j hj => ?_⟩⟩
    obtain rfl : j = 0 := by simp at hj; omega
    simp [strV]
  have hbl : B < w6.heap.size := World.block_lt_of_cell? _ _ b0
  have d0 : (w6.alloc (.cells #[.string ⟨#[120]⟩] 9)).cell? ⟨B, 0, none⟩ = some (.int .i64 0) := (((Below.refl w6.heap.size w6).alloc (Nat.le_refl _) _).cell (p := ⟨B, 0, none⟩) hbl).trans b0
  have d1 : (w6.alloc (.cells #[.string ⟨#[120]⟩] 9)).cell? ⟨B, 1, none⟩ = some (.slice va 0 vc) := (((Below.refl w6.heap.size w6).alloc (Nat.le_refl _) _).cell (p := ⟨B, 1, none⟩) hbl).trans b1
  have hbl2 : B < (w6.alloc (.cells #[.string ⟨#[120]⟩] 9)).heap.size := by simp; omega
  have HX2 := hide (HX.out _ w6 HU6.out k2)
  have HS7 := hide (HS6.out.alloc (.cells #[.string ⟨#[120]⟩] 9))
  have D0 := hide (fun W (k : Below (w6.alloc (.cells #[.string ⟨#[120]⟩] 9)).heap.size (w6.alloc (.cells #[.string ⟨#[120]⟩] 9)) W) => (k.cell (p := ⟨B, 0, none⟩) hbl2).trans d0)
  have D1 := hide (fun W (k : Below (w6.alloc (.cells #[.string ⟨#[120]⟩] 9)).heap.size (w6.alloc (.cells #[.string ⟨#[120]⟩] 9)) W) => (k.cell (p := ⟨B, 1, none⟩) hbl2).trans d1)
  clear HX HU6 HS6 b0 b1 k2 hbl hbl2 d0 d1
  go_wp2_with fail
  refine HX2.out.mono ?_
  rintro e w8 ⟨rfl, hb8⟩
  have g0 := D0.out _ hb8
  have g1 := D1.out _ hb8
  have HS8 := hide (HS7.out.keep hb8)
  clear hb8 HS7 HX2 D0 D1
  go_wp2_with fail
  have hs9 := Sep.fourth HS8.out
  refine (H6.out _ _ _ _ _ _ (HE.out _ hs9.below) hs9).mono ?_
  rintro e w9 ⟨rfl, hs10⟩
  have HS10 := hide hs10
  clear hs9 hs10 HS8 g0 g1 H6
  go_wp2_with fail
  refine (H7.out _).mono ?_
  rintro e w11 ⟨rfl, hb11⟩
  have HB := hide (HS10.out.keep hb11).below
  clear hb11 HS10
  go_wp2_with fail
  go_ret
  exact ⟨rfl, HB.out⟩
end Go.Proofs.YtaambclpkghddaaDoor
