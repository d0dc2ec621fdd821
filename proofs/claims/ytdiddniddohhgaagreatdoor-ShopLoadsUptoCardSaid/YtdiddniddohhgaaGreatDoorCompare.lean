import Derived.Test.YtdiddniddohhgaaGreatDoorProg
import Derived.WalkKit
import Derived.Sort.Grow
import Derived.Deep.Draws
import Derived.StillTailTactics
section
namespace Go.Proofs
open Go.RowKit (wrap64)
set_option maxHeartbeats 4000000
theorem isNaN_ok (x : Int) (w : World) : Calls Tryz.prog 178 #[.int .i64 x] w fun e w' => e = .returned (.bool false) ∧ w' = w := by
  go_enter Tryz.func178, Tryz.ntmps178
  go_wp2
  go_ret
  exact ⟨rfl, rfl⟩
def cmpI (x y : Int) : Int := if x < y then -1 else if y < x then 1 else 0
theorem cmp_ok (x y : Int) (w : World) : Calls Tryz.prog 154 #[.int .i64 x, .int .i64 y] w fun e w' => e = .returned (.int .i64 (cmpI x y)) ∧ w' = w := by
  unfold cmpI
  go_enter Tryz.func154, Tryz.ntmps154
  go_wp2_with (go_at_call 178; refine (isNaN_ok _ _).mono ?_; rintro e w' ⟨rfl, rfl⟩)
  all_goals go_ret
  all_goals exact ⟨rfl, rfl⟩
def orI (a b c : Int) : Int := if a ≠ 0 then a else if b ≠ 0 then b else c
end Go.Proofs
end

section
namespace Go.Proofs
set_option maxHeartbeats 4000000
set_option maxRecDepth 1000000
def cmp3 (x1 y1 z1 x2 y2 z2 : Int) : Int := orI (cmpI x1 x2) (cmpI y1 y2) (cmpI z1 z2)
def c3V (x y z : Int) : Array Value := #[.int .i64 x, .int .i64 y, .int .i64 z]
end Go.Proofs
end
