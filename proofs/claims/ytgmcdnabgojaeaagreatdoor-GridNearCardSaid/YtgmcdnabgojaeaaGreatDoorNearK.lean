import Derived.Test.YtgmcdnabgojaeaaGreatDoorFine
import Derived.Test.YtgmcdnabgojaeaaGreatDoorShell
/- Grow, Shrink and Shell where no error is: for GridNear. -/
namespace Go.Proofs
open Go.RowKit
set_option maxHeartbeats 8000000
set_option maxRecDepth 1000000

theorem shell_fine {l : List Cel} {v : Value} {w : World} (hl : Sl w v l) (hc : chkI l = 0) :
    Calls Tryz.prog 11 #[v] w fun e w' => FineG w (l.filter fun c => !insB l c) e w' := by
  refine (shellG_ok l v w hl hc).mono ?_
  rintro e w' ⟨v', rfl, hs, hB⟩
  obtain ⟨A, cap, rfl⟩ := hs.form
  exact ⟨A, cap, rfl, hs, hB⟩
end Go.Proofs
