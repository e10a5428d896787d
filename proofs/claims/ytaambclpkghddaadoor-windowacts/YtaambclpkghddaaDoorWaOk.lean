/-
  The errors of package window by their numbers, where the twelve errors' variables are as the rows list them.
-/
import Derived.Test.YtaambclpkghddaaDoorWinGo
import Derived.Test.YtaambclpkghddaaDoorCodes2
namespace Go.Proofs.YtaambclpkghddaaDoor
open Go.RowKit
open Go.Window (Sn Rc)

def sentsN (a : Nat → Addr) : WnVs := ⟨116, .pointer (some (a 1)), 116, .pointer (some (a 7))⟩
theorem sents_wnEr {a : Nat → Addr} {w : World} (h : Sents w a) : WnEr (sentsN a) w := ⟨h.cell 1 (by decide), h.cell 7 (by decide)⟩
theorem WinOk.less {E E' : World → Prop} {S : Value → Sn → Fam} {R : Value → Rc → Fam} {errW : Nat → Value} (h : WinOk E S R errW) (hs : ∀ W, E' W → E W) (he : ∀ w w', E' w → Below w.heap.size w w' → E' w') : WinOk E' S R errW where
  env := he
  none := h.none
  full := h.full
  long := h.long
  newS := fun n W k => h.newS n W (hs W k)
  newR := fun n W k => h.newR n W (hs W k)
  push := fun v s d W a b k => h.push v s d W a b (hs W k)
  kept := fun v s W a k => h.kept v s W a (hs W k)
  data := fun v s n W a b k => h.data v s n W a b (hs W k)
  takeS := fun v s n u more W a b c k => h.takeS v s n u more W a b c (hs W k)
  takeR := fun v r n d W a b k => h.takeR v r n d W a b (hs W k)
  ackR := fun v r W a k => h.ackR v r W a (hs W k)
  ahead := h.ahead
theorem winGoS (a : Nat → Addr) : WinOk (fun W => Sents W a) WSn WRc (errN (sentsN a)) := (winGo (sentsN a)).less (fun _ h => sents_wnEr h) (fun _ _ h hb => h.below hb)
theorem codesN (a : Nat → Addr) (W : World) (c : Nat) (h : Sents W a) (hc : c = 0 ∨ c = 2 ∨ c = 8) : Codes W (errN (sentsN a) c) c := by
  rcases hc with rfl | rfl | rfl
  · exact codes_nil W
  · exact codes_bare W a h 1 (by decide)
  · exact codes_bare W a h 7 (by decide)
end Go.Proofs.YtaambclpkghddaaDoor
