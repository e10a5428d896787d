/-
  Package window meets what the three laws ask of it.
-/
import Derived.Test.YtaambclpkghddaaDoorWinKept
import Derived.Test.YtaambclpkghddaaDoorWinSTk
import Derived.Test.YtaambclpkghddaaDoorWinRTk
namespace Go.Proofs.YtaambclpkghddaaDoor
open Go.RowKit

theorem winGo (er : WnVs) : WinOk (WnEr er) WSn WRc (errN er) where
  env := fun _ _ h hb => h.below hb
  none := rfl
  full := ⟨_, _, rfl⟩
  long := ⟨_, _, rfl⟩
  newS := fun n W _ => newSender_ok n W
  newR := fun n W _ => newReceiver_ok n W
  push := fun v s d W hs hd hE => push_ok er v s d W hs hd hE
  kept := fun v s W hs _ => kept_ok v s W hs
  data := fun v s n W _ hn _ => data_ok v s n W hn
  takeS := fun v s n u more W hs hm hwf _ M hM hr ho => takeS_ok v s n u more W hs hm hwf M hM hr ho
  takeR := fun v r n d W hr _ _ => takeR_ok v r n d W hr
  ackR := fun v r W hr _ => ackR_ok v r W hr
  ahead := fun a b W => (ahead_ok a b W).mono fun _ _ ⟨h1, h2⟩ => ⟨h1, h2 ▸ Below.refl _ _⟩
end Go.Proofs.YtaambclpkghddaaDoor
