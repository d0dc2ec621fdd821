import Derived.Test.YtmmedmjjbdopjaaGreatDoorWaxSum
import Derived.Test.YtmmedmjjbdopjaaGreatDoorAmE
namespace Go.Proofs
open Go.AM Go.RowKit
theorem wax_names : NamesOk Tryz.prog := namesOk_of (by kernel_rfl)
theorem wax_mixed : Tryz.prog.follows .mixedOrders = true := by kernel_rfl
noncomputable def waxI (n : Int) : Value := .int .i64 n
noncomputable def ringL : List Value := [-1, -1, 0, -1, 0, 0, -1, 1, 0, 0, -1, 0, 0, 1, 0, 1, -1, 0, 1, 0, 0, 1, 1, 0].map waxI
noncomputable def blockL : List Value := [-1, -1, 0, -1, 0, 0, -1, 1, 0, 0, -1, 0, 0, 0, 0, 0, 1, 0, 1, -1, 0, 1, 0, 0, 1, 1, 0].map waxI
noncomputable def sum0 : Sum := sumCells 74
theorem sum0_ok : SumOk Tryz.prog sum0 := sumCells_ok
/-- What is known of a call with a row that is only read. -/
theorem memo_of {F : FuncId} {l : List Value} {n : Nat} {r : Value} {S S' : Sum} {k : Nat} {T : TypeId} (hS : SumOk Tryz.prog S) (hS' : SumOk Tryz.prog S')
    (h0 : 0 < n) (hl : l.all flat = true) (hr : flat r = true) (e : (callF Tryz.prog S' k F [sRow n] (hRow l T)).map (·.1) = some r) : SumOk Tryz.prog (memo F l n r S) := by
  rw [callF_eq] at e
  obtain ⟨⟨v, h'⟩, he, hv⟩ := Option.map_eq_some_iff.1 e
  simp only at hv
  subst hv
  exact memo_ok hS (callS_call wax_names wax_mixed hS' he).1 h0 hl hr fun w b o c hn hb hc => row_call wax_names wax_mixed hS' he hr hl hn hb hc
end Go.Proofs
