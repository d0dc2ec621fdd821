/- The reference's Moved. -/
import Derived.Test.YtgmcdnabgojaeaaRefD
import Derived.Test.YtgmcdnabgojaeaaRow
namespace Go.Proofs
open Go.RowKit
set_option maxHeartbeats 8000000
set_option maxRecDepth 1000000
theorem refMoved_ok (x y z bx by_ bz : Int) (w : World) (k1 : -9000000 ≤ x + bx ∧ x + bx ≤ 9000000) (k2 : -9000000 ≤ y + by_ ∧ y + by_ ≤ 9000000) (k3 : -9000000 ≤ z + bz ∧ z + bz ≤ 9000000) :
    Calls Try.prog 11 #[.agg #[.int .i64 x, .int .i64 y, .int .i64 z], .agg #[.int .i64 bx, .int .i64 by_, .int .i64 bz]] w fun e w' => e = .returned (.agg #[.int .i64 (x + bx), .int .i64 (y + by_), .int .i64 (z + bz)]) ∧ Below w.heap.size w w' := by
  have w1 := wrapS k1
  have w2 := wrapS k2
  have w3 := wrapS k3
  clear k1 k2 k3
  have hB : Below w.heap.size w ((w.alloc (.cells #[.int .i64 x, .int .i64 y, .int .i64 z] 32)).alloc (.cells #[.int .i64 bx, .int .i64 by_, .int .i64 bz] 32)) := ((Below.refl _ _).alloc (Nat.le_refl _) _).alloc (by simp) _
  go_enter Try.func11, Try.ntmps11
  go_wp2
  refine bodyPost_ret (results_cell_row rfl _ _ _ 32 #[.int .i64 (x + bx), .int .i64 (y + by_), .int .i64 (z + bz)] (0, 0) _ rfl ?_ Try.underlying32 rfl (by kernel_rfl)) rfl ?_
  · have := heap_alloc_new ((w.alloc (.cells #[.int .i64 x, .int .i64 y, .int .i64 z] 32)).alloc (.cells #[.int .i64 bx, .int .i64 by_, .int .i64 bz] 32)) (.cells #[.int .i64 (x + bx), .int .i64 (y + by_), .int .i64 (z + bz)] 32)
    have e : ((w.alloc (.cells #[.int .i64 x, .int .i64 y, .int .i64 z] 32)).alloc (.cells #[.int .i64 bx, .int .i64 by_, .int .i64 bz] 32)).heap.size = w.heap.size + 1 + 1 := by simp
    rw [e] at this
    exact this
  · exact ⟨rfl, hB.alloc (by simp; omega) _⟩
end Go.Proofs
