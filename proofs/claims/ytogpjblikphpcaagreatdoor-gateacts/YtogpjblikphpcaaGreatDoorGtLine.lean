/-
  A gate's lines as plain bytes; what package gate reads of the library's variables; contract of lineOf.
-/
import Derived.Test.YtogpjblikphpcaaGreatDoorGtSet
import Derived.Test.YtogpjblikphpcaaGreatDoorLibDig
namespace Go.Gate
open Go.Digits
/-- A line. -/
def lineB (p : ByteArray × Int) : List UInt8 := p.1.data.toList ++ 32 :: (digits p.2.toNat ++ [10])
def textB (l : Toks) : List UInt8 := l.flatMap lineB
end Go.Gate
namespace Go.Proofs.YtogpjblikphpcaaGreatDoor
open Go.RowKit
open Go.Gate
open Go.Digits (digits)

set_option maxHeartbeats 1000000 in
set_option maxRecDepth 100000 in
theorem lineOf_ok (t : ByteArray) (n : Int) (W : World) (ht : t.size ≤ 1000000) (h0 : 0 ≤ n) (h1 : n ≤ 99999999999) (hT : Lib.TabIs Tryz.prog W "internal/strconv.uint64pow10" .u64 Lib.pow10Tab) :
    Calls Tryz.prog 39 #[.string t, .int .i64 n] W fun r w' => r = .returned (.string (str (lineB (t, n)))) ∧ Below W.heap.size W w' := by
  have HI := hide (itoa_ok n W h0 (by omega) hT)
  have hd := digits_ten (n := n.toNat) (by omega)
  have hds : (str (digits n.toNat)).size ≤ 11 := by rw [str_len]; exact hd
  have HR : Hid (t ++ ⟨#[32]⟩ ++ str (digits n.toNat) ++ ⟨#[10]⟩ = str (lineB (t, n))) := by
    refine ext_of_list ?_
    rw [appendL, appendL, appendL, strL, strL]
    simp [lineB]
  generalize str (digits n.toNat) = S at *
  have p1 := fun W => run_string_add_sum (P := Tryz.prog) W t ⟨#[32]⟩ (by rw [show (ByteArray.mk #[32]).size = 1 from rfl]; omega)
  have p2 := fun W => run_string_add_sum (P := Tryz.prog) W (t ++ ⟨#[32]⟩) S (by rw [ByteArray.size_append, show (ByteArray.mk #[32]).size = 1 from rfl]; omega)
  have p3 := fun W => run_string_add_sum (P := Tryz.prog) W (t ++ ⟨#[32]⟩ ++ S) ⟨#[10]⟩ (by rw [ByteArray.size_append, ByteArray.size_append, show (ByteArray.mk #[32]).size = 1 from rfl, show (ByteArray.mk #[10]).size = 1 from rfl]; omega)
  clear hd hds ht h0 h1 hT
  go_enter Tryz.func39, Tryz.ntmps39
  go_wp2_with fail
  refine HI.out.mono ?_
  rintro r w1 ⟨rfl, hb1⟩
  have HB := hide hb1
  clear hb1 HI
  go_wp2_with fail
  go_ret
  exact ⟨by rw [← HR.out]; rfl, HB.out⟩
end Go.Proofs.YtogpjblikphpcaaGreatDoor
