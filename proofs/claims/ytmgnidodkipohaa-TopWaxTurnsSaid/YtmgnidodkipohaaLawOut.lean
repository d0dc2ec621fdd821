import Derived.Test.YtmgnidodkipohaaWaxRing
import Derived.Test.YtmgnidodkipohaaWithin
namespace Go.Proofs
open Go.RowKit
set_option maxHeartbeats 8000000
set_option maxRecDepth 1000000
theorem withinI_or (n lo hi : Int) : withinI n lo hi = 0 ∨ withinI n lo hi = 3 := by
  unfold withinI
  split
  · exact .inr rfl
  · exact .inl rfl
/-- An input out of its range: the fixed example is all. -/
theorem turns_out (k m n : Int) (w : World) (h : ¬ (withinI k 0 23 = 0 ∧ withinI m 0 23 = 0 ∧ withinI n 0 23 = 0)) :
    Calls Try.prog 4 #[.int .i64 k, .int .i64 m, .int .i64 n] w fun e w' => e = .returned (.bool true) ∧ Below w.heap.size w w' := by
  have ok := withinI_or k 0 23
  have om := withinI_or m 0 23
  have on := withinI_or n 0 23
  obtain ek | ek := ok <;> obtain em | em := om <;> obtain en | en := on
  · exact absurd ⟨ek, em, en⟩ h
  all_goals clear h
  all_goals go_enter Try.func4, Try.ntmps4
  all_goals go_wp2_with (first
    | (go_at_call 10; refine (waxRing_ok _).mono ?_; rintro e w2 ⟨rfl, hB2⟩)
    | (go_at_call 9; refine (checkRange_ok _ _ _ _).mono ?_; rintro e w' ⟨rfl, rfl⟩; try simp only [ek, em, en]))
  all_goals go_ret
  all_goals exact ⟨rfl, hB2⟩
end Go.Proofs
