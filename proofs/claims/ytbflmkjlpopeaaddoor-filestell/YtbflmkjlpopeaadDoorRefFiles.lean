/-
  Contract of the document's FilesFault over this dump.
-/
import Derived.Test.YtbflmkjlpopeaadDoorJoin04
import Derived.Deep.AppendLies
import Derived.Deep.RegionHeld3
namespace Go.Proofs.YtbflmkjlpopeaadDoor
open Go.RowKit
open Go.Files (Fl Ln faultF keyF keyL)

/-- A file's line without a sum. -/
def bareL (f : Fl) : Ln := ⟨f.name, (f.data.size : Int), 0⟩
theorem bareL_keys (l : List Fl) : (l.map bareL).map keyL = l.map keyF := by rw [List.map_map]; rfl

set_option maxHeartbeats 4000000 in
set_option maxRecDepth 100000 in
theorem filesFault_ok (v : Value) (l : List Fl) (w : World) (hv : FRow w v l) (hl : l.length ≤ 1000) (hs : ∀ x ∈ l, x.name.size ≤ 1000000) :
    Calls Tryd.prog 16 #[v] w fun r w' => r = .returned (.agg #[.int .i64 (faultF (l.map keyF)).1, .int .i64 (faultF (l.map keyF)).2]) ∧ Below w.heap.size w w' := by
  obtain ⟨i0, hi, hz0, hz1, hz2⟩ := info_parts Tryd.info83
  obtain ⟨q, c, rfl, hv⟩ := hv
  have HV := hide hv
  have hl' : (l.length : Int) ≤ 1000 := by omega
  have HL := hide (fun v W (h : MRow W v (l.map bareL)) => linesFault_ok v (l.map bareL) W h (by rw [List.length_map]; omega) (fun x hx => by obtain ⟨y, hy, rfl⟩ := List.mem_map.1 hx; exact hs y hy))
  rw [bareL_keys] at HL
  generalize faultF (l.map keyF) = f at *
  obtain ⟨fc, fa⟩ := f
  simp only at HL ⊢
  clear hv hs
  go_enter Tryd.func16, Tryd.ntmps16
  go_wp2_with fail
  have Hq := hide (HvAt.fresh w 0 0 37)
  have Hb0 := hide ((Below.refl w.heap.size w).alloc (Nat.le_refl _) (.cells #[.int .i64 0, .int .i64 0] 37))
  go_loopw [3, 4] (fun t3 t4 wr => ∃ (j : Nat), t4 = .int .i64 j ∧ j ≤ l.length ∧ Hid (wr.ownsRow (w.heap.size + 1) 83 3 t3 j (mcs ((l.take j).map bareL))) ∧ Hid (HvAt w.heap.size wr 0 0) ∧ Hid (Below w.heap.size w wr)) (fun _ t4 _ => l.length - (intOf t4).toNat)
  case atStart => exact ⟨0, rfl, by omega, World.ownsRow_nil _ _ _ _, Hq.out, Hb0.out⟩
  case round =>
    clear Hq Hb0
    obtain ⟨j, rfl, hj, Hown, Hq, Hb⟩ := hrel
    by_cases hlt : j < l.length
    · have hlt' : (j : Int) < l.length := by omega
      obtain ⟨b, o, rfl, hc⟩ := HV.out (by omega)
      obtain ⟨c0, c1⟩ := hc j hlt
      have l0 := World.block_lt_of_cell? _ _ c0
      have d0 := (Hb.out.cell l0).trans c0
      have d1 := (Hb.out.cell (p := ⟨b, o + j * 2 + 1, none⟩) l0).trans c1
      have hbw : b < w.heap.size := l0
      have hbs := Hb.out.size
      have Hsn := hide (List.take_succ_eq_append_getElem hlt)
      have hql := Hq.out.lt
      clear hc c0 c1 HL
      generalize l[j] = x at *
      have c0z := fun obj => (((Below.refl wr.heap.size wr).alloc (Nat.le_refl _) obj).drew.cell (p := ⟨b, o + j * 2, none⟩) (show b < wr.heap.size by omega)).trans d0
      have c1z := fun obj => (((Below.refl wr.heap.size wr).alloc (Nat.le_refl _) obj).drew.cell (p := ⟨b, o + j * 2 + 1, none⟩) (show b < wr.heap.size by omega)).trans d1
      have C0z := hide c0z
      have C1z := hide c1z
      have hvb : u3.ownBlock ≠ some b := fun e => by have := (Hown.out.lt b e).1; omega
      have Hvb := hide hvb
      clear c0z c1z hvb
      go_wp2_with fail
      go_region_held3 (fun w' => w'.cell? ⟨b, o + j * 2, none⟩ = some (.string x.name) ∧ w'.cell? ⟨b, o + j * 2 + 1, none⟩ = some (.string x.data)) (first | exact ⟨d0, d1⟩ | exact ⟨C0z.out _, C1z.out _⟩ | exact ⟨m0, m1⟩)
        ((refine step_append_lies _ (by rfl) _ _ _ (by rfl) (w.heap.size + 1) 83 i0 _ 3 32 Tryd.underlying53 hi hz0 hz1 hz2 rfl (by omega) u3 j (mcs ((l.take j).map bareL)) (by rfl) ((Hown.out.alloc _).drew)
              ⟨wr.heap.size, 0, none⟩ 1 1 [.string x.name, .int .i64 x.data.size, .int .i64 0] (by rfl) (by rfl) (World.news_of_block (cs := #[.string x.name, .int .i64 x.data.size, .int .i64 0]) (t := 83) (fr := (0, 0)) (heap_alloc_new wr _)) (by simp [Value.oneCell'])
              (by omega) (by unfold maxLen; omega) (by omega) (by simp; omega) (wr.heap.size + 1) (by simp) ?_; intro gg cap w1 hown1 hgrow hat hlt1; have m0 := (hgrow.cell_far ⟨b, o + j * 2, none⟩ (by simp; omega) (Ne.symm Hvb.out)).trans (C0z.out _); have m1 := (hgrow.cell_far ⟨b, o + j * 2 + 1, none⟩ (by simp; omega) (Ne.symm Hvb.out)).trans (C1z.out _)))
      all_goals
        have hb5 : Below (w.heap.size + 1) wr w1 := (((Below.refl (w.heap.size + 1) wr).alloc (by omega) _).drew).grown hgrow (by simp; omega) (fun k hk => (Hown.out.lt k hk).1)
        have Hq5 := hide (Hq.out.below hb5 (by omega))
        have Hb5 := hide (Hb.out.trans (hb5.mono (by omega)))
        have Hown5 : Hid (w1.ownsRow (w.heap.size + 1) 83 3 (.slice (some ⟨gg, 0, none⟩) (j + 1) cap) (j + 1) (mcs ((l.take (j + 1)).map bareL))) := by
          rw [Hsn.out, List.map_append, List.map_singleton, mcs, cs3_snoc]
          exact hown1
        clear hb5 hown1 hgrow hat hlt1 m0 m1 Hown Hq Hb Hsn d0 d1 C0z C1z Hvb
        go_wp2_with fail
        go_roundw
        case rel => exact ⟨j + 1, by go_num, by omega, Hown5.out, Hq5.out, Hb5.out⟩
        case measure => simp [intOf]; omega
    · have hle : (l.length : Int) ≤ (j : Int) := by omega
      have Hr : Hid (MRow wr u3 (l.map bareL)) := by
        have h := Hown.out
        rw [List.take_of_length_le (by omega)] at h
        exact Row3.of_own h
      have HX := hide (HL.out u3 wr Hr.out)
      obtain ⟨a3, c3, e3, _⟩ := Hr.out
      rw [List.length_map] at e3
      subst e3
      clear Hown Hr HL
      go_wp2_with fail
      refine HX.out.mono ?_
      rintro r w4 ⟨rfl, hb4⟩
      have hq4 := Hq.out.below hb4 Hq.out.lt
      have Hq4 := hide hq4
      have Hb4 := hide (bthen Hb.out hb4)
      clear hb4 Hb Hq
      obtain ⟨q0, q1, p0, p1, qlt⟩ := hq4
      go_wp2_with fail
      (try simp only [Exit.inBlock, Exit.then])
      refine bodyPost_ret (v := .agg #[.int .i64 fc, .int .i64 fa]) ?_ rfl ⟨rfl, (Hb4.out.setCell (by simp) _).setCell (by simp) _⟩
      obtain ⟨x0, x1, _, _, _⟩ := Hq4.out.set fc fa
      simp only [results, show Tryd.f16.results = #[.cell 2 37] from rfl]
      go_simp
end Go.Proofs.YtbflmkjlpopeaadDoor
