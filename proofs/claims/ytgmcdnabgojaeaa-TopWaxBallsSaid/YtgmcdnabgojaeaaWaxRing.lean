import Derived.Test.YtgmcdnabgojaeaaWaxTa
import Derived.Test.YtgmcdnabgojaeaaWaxTb
namespace Go.Proofs
open Go.AM Go.RowKit
set_option maxRecDepth 1000000
noncomputable def sum3 : Sum := memo 21 ringL 8 (.tuple #[waxI 1, waxI 0]) sum0
theorem sum3_ok : SumOk Try.prog sum3 := memo_of sum0_ok sum1_ok (by decide) rfl rfl ring_tunnels
noncomputable def sum4 : Sum := memo 21 blockL 9 (.tuple #[waxI 0, waxI 0]) sum3
theorem sum4_ok : SumOk Try.prog sum4 := memo_of sum3_ok sum2_ok (by decide) rfl rfl block_tunnels
theorem waxRing_runs : (callF Try.prog sum4 100000 5 [] h0).map (·.1) = some (.bool true) := by kernel_rfl
/-- The fixed example holds, from any world, and nothing old is turned. -/
theorem waxRing_ok (w : World) : Calls Try.prog 5 #[] w fun e w' => e = .returned (.bool true) ∧ Below w.heap.size w w' := by
  have e := waxRing_runs
  rw [callF_eq] at e
  obtain ⟨⟨v, h'⟩, he, hv⟩ := Option.map_eq_some_iff.1 e
  simp only at hv
  subst hv
  refine (closed_callS wax_names wax_mixed sum4_ok (w := w) he rfl).mono ?_
  rintro e w' ⟨v', θ', rfl, hv, _, hb⟩
  cases hv
  exact ⟨rfl, hb⟩
end Go.Proofs
