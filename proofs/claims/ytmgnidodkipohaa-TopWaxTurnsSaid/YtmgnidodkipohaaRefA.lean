import Derived.Test.YtmgnidodkipohaaCheckV
import Derived.Test.YtmgnidodkipohaaSorted
namespace Go.Proofs
open Go.RowKit
set_option maxHeartbeats 4000000
set_option maxRecDepth 1000000
def farB (a n : Int) : Bool := decide (a < 0 - n ∨ n < a)
theorem far_ok (a : Int) (w : World) : Calls Try.prog 83 #[.int .i64 a, .int .i64 1000] w fun e w' => e = .returned (.bool (farB a 1000)) ∧ w' = w := by
  unfold farB
  go_enter Try.func83, Try.ntmps83
  go_wp2
  all_goals go_ret
  all_goals (refine ⟨?_, rfl⟩; simp_all <;> omega)
theorem refCheckCell_ok (x y z : Int) (w : World) (hx : farB x 1000 = false) (hy : farB y 1000 = false) (hz : farB z 1000 = false) :
    Calls Try.prog 45 #[.agg #[.int .i64 x, .int .i64 y, .int .i64 z]] w fun e w' => e = .returned (.int .i64 0) ∧ Below w.heap.size w w' := by
  go_enter Try.func45, Try.ntmps45
  go_wp2_with (go_at_call 83; refine (far_ok _ _).mono ?_; rintro e w' ⟨rfl, rfl⟩; simp only [hx, hy, hz])
  go_ret
  exact ⟨rfl, (Below.refl _ _).alloc (Nat.le_refl _) _⟩
theorem before_ok (x1 y1 z1 x2 y2 z2 : Int) (w : World) :
    Calls Try.prog 46 #[.agg #[.int .i64 x1, .int .i64 y1, .int .i64 z1], .agg #[.int .i64 x2, .int .i64 y2, .int .i64 z2]] w fun e w' => e = .returned (.bool (decide (cmp3 x1 y1 z1 x2 y2 z2 < 0))) ∧ Below w.heap.size w w' := by
  unfold cmp3 orI cmpI
  go_enter Try.func46, Try.ntmps46
  go_wp2
  all_goals go_ret
  all_goals (refine ⟨?_, ((Below.refl _ _).alloc (Nat.le_refl _) _).alloc (by simp) _⟩; simp_all <;> (try (split <;> simp_all)) <;> omega)
end Go.Proofs
