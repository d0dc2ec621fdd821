import Derived.Test.YtmgnidodkipohaaWaxBase
namespace Go.Proofs
open Go.AM Go.RowKit
set_option maxRecDepth 1000000
def turnT : List (Nat × Nat × Nat) := [(0, 2, 4), (0, 3, 5), (0, 4, 3), (0, 5, 2), (1, 2, 5), (1, 3, 4), (1, 4, 2), (1, 5, 3), (2, 0, 5), (2, 1, 4), (2, 4, 0), (2, 5, 1), (3, 0, 4), (3, 1, 5), (3, 4, 1), (3, 5, 0), (4, 0, 2), (4, 1, 3), (4, 2, 1), (4, 3, 0), (5, 0, 3), (5, 1, 2), (5, 2, 0), (5, 3, 1)]
noncomputable def turnsV : Value := .agg #[.int .i64 0, .int .i64 2, .int .i64 4, .int .i64 0, .int .i64 3, .int .i64 5, .int .i64 0, .int .i64 4, .int .i64 3, .int .i64 0, .int .i64 5, .int .i64 2, .int .i64 1, .int .i64 2, .int .i64 5, .int .i64 1, .int .i64 3, .int .i64 4, .int .i64 1, .int .i64 4, .int .i64 2, .int .i64 1, .int .i64 5, .int .i64 3, .int .i64 2, .int .i64 0, .int .i64 5, .int .i64 2, .int .i64 1, .int .i64 4, .int .i64 2, .int .i64 4, .int .i64 0, .int .i64 2, .int .i64 5, .int .i64 1, .int .i64 3, .int .i64 0, .int .i64 4, .int .i64 3, .int .i64 1, .int .i64 5, .int .i64 3, .int .i64 4, .int .i64 1, .int .i64 3, .int .i64 5, .int .i64 0, .int .i64 4, .int .i64 0, .int .i64 2, .int .i64 4, .int .i64 1, .int .i64 3, .int .i64 4, .int .i64 2, .int .i64 1, .int .i64 4, .int .i64 3, .int .i64 0, .int .i64 5, .int .i64 0, .int .i64 3, .int .i64 5, .int .i64 1, .int .i64 2, .int .i64 5, .int .i64 2, .int .i64 0, .int .i64 5, .int .i64 3, .int .i64 1]
theorem turns_runs : (callF Try.prog noSum 100000 54 [] h0).map (·.1) = some turnsV := by kernel_rfl
theorem turns_ok (w : World) : Calls Try.prog 54 #[] w fun e w' => e = .returned turnsV ∧ Below w.heap.size w w' := by
  have e := turns_runs
  rw [callF_eq] at e
  obtain ⟨⟨v, h'⟩, he, hv⟩ := Option.map_eq_some_iff.1 e
  simp only at hv
  subst hv
  refine (closed_callS wax_names wax_mixed noSum_ok (w := w) he rfl).mono ?_
  rintro e w' ⟨v', θ', rfl, hv, _, hb⟩
  exact ⟨by rw [flat_eq rfl hv], hb⟩
end Go.Proofs
