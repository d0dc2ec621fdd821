import Derived.Test.YtahngoofinlhgaaCompare
namespace Go.Proofs
set_option maxHeartbeats 4000000
set_option maxRecDepth 1000000
def withinI (n lo hi : Int) : Int := if n < lo ∨ hi < n then 3 else 0
theorem checkRange_ok (n lo hi : Int) (w : World) : Calls Try.prog 59 #[.int .i64 n, .int .i64 lo, .int .i64 hi] w fun e w' => e = .returned (.int .i64 (withinI n lo hi)) ∧ w' = w := by
  unfold withinI
  go_enter Try.func59, Try.ntmps59
  go_wp2
  all_goals go_ret
  all_goals (refine ⟨?_, rfl⟩; simp_all <;> omega)
end Go.Proofs
