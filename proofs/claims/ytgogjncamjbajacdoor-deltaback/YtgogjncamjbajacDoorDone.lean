/-
  Contracts of Done, NewWriter over this dump.
-/
import Derived.Test.YtgogjncamjbajacDoorWriter
namespace Go.Proofs.YtgogjncamjbajacDoor
open Go.RowKit

theorem strOfNums_str (bs : List UInt8) : strOfNums (bs.map fun b => (b.toNat : Int)) = str bs := by
  have : (bs.map fun b => (b.toNat : Int)).map (fun n => UInt8.ofNat n.toNat) = bs := by
    rw [List.map_map]
    conv => rhs; rw [← List.map_id bs]
    apply List.map_congr_left
    intro b _
    simp
  unfold strOfNums
  rw [this]
  rfl

theorem WrAt.conv {p : Nat} {w : World} {bs : List UInt8} {v : Value} (h : WrAt p w bs v) : (convert 89 9 v).run Tryd.prog w = .ok (.string (str bs)) w := by
  rcases h.own.2 with ⟨rfl, hl⟩ | ⟨g, cap, cur, rfl, _, hg, hn, _, hs, ht⟩
  · have hb : bs = [] := List.length_eq_zero_iff.1 hl
    subst hb
    exact run_convert_bytes_nil w 89 5 Tryd.underlying89 Tryd.underlying5 0 0 9 Tryd.underlying9
  · have := run_convert_bytes_arg (P := Tryd.prog) w 89 5 Tryd.underlying89 Tryd.underlying5 g 0 bs.length cap (bs.map fun b => (b.toNat : Int)) (by simp) (fun i hi => by
      have := h.own.cells (g := g) rfl i (.int .u8 (bs[i]).toNat) (by simp [cellOf, hi])
      rw [Addr.add_lit] at this
      simpa [List.getD, hi] using this) 9 Tryd.underlying9
    rw [this, strOfNums_str]

set_option maxHeartbeats 400000 in
theorem done_ok (p : Nat) (bs : List UInt8) (v : Value) (w : World) (h : WrAt p w bs v) :
    Calls Tryd.prog 35 #[.pointer (some ⟨p, 0, none⟩)] w fun e w' => e = .returned (.tuple #[.string (str bs), .nilIface]) ∧ w' = w := by
  have hcv := h.conv
  obtain ⟨c0, c1, f0, f1, lt, own⟩ := h
  clear own
  go_enter Tryd.func35, Tryd.ntmps35
  go_wp2
  go_ret2
  exact ⟨rfl, rfl⟩

theorem new_ok (w : World) : Calls Tryd.prog 32 #[] w fun e w' => e = .returned (.pointer (some ⟨w.heap.size, 0, none⟩)) ∧ w.alloc (.cells #[.slice none 0 0, .nilIface] 91) = w' := by
  go_enter Tryd.func32, Tryd.ntmps32
  go_wp2
  go_ret
  exact ⟨rfl, rfl⟩

theorem WrAt.fresh (w : World) : WrAt w.heap.size (w.alloc (.cells #[.slice none 0 0, .nilIface] 91)) [] (.slice none 0 0) :=
  ⟨by simp, by simp, by simp, by simp, by simp, by simpa using World.ownsRow_nil _ _ _ _⟩
end Go.Proofs.YtgogjncamjbajacDoor
