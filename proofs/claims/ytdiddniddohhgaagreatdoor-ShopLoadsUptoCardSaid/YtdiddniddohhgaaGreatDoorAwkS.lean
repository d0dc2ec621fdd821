/- The fixed examples of a chapter whose numbers are texts: what is known at the start. -/
import Derived.Test.YtdiddniddohhgaaGreatDoorTxtS
import Derived.Test.YtdiddniddohhgaaGreatDoorAmF
namespace Go.Proofs
open Go.AM Go.RowKit
set_option maxRecDepth 1000000
theorem prog_names : NamesOk Tryz.prog := namesOk_of (by kernel_rfl)
theorem prog_mixed : Tryz.prog.follows .mixedOrders = true := by kernel_rfl
noncomputable def pow10L : List Value := [1, 10, 100, 1000, 10000, 100000, 1000000, 10000000, 100000000, 1000000000, 10000000000, 100000000000, 1000000000000, 10000000000000, 100000000000000, 1000000000000000, 10000000000000000, 100000000000000000, 1000000000000000000, 10000000000000000000].map fun n => .int .u64 n
noncomputable def gN : Nat := 1 + 1
noncomputable def gRows : List GRow := [(1, pow10L, 294)]
theorem gRows_flat : ∀ r ∈ gRows, r.2.1.all flat = true := fun r hr => by
  obtain rfl := List.mem_singleton.1 hr
  rfl
noncomputable def sumT : Sum := sumIdx 199 (sumCopy 205 261 (sumStr 190 261 5 noSum))
theorem sumT_ok : SumOk Tryz.prog sumT := sumIdx_ok (sumCopy_ok (sumStr_ok noSum_ok))
end Go.Proofs
