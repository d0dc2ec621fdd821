import Derived.Test.YtmmedmjjbdopjaaGreatDoorAwk0
namespace Go.Proofs
open Go.AM Go.RowKit
set_option maxRecDepth 1000000
noncomputable def cornerL : List Value := [0, 0, 0, 1, 0, 0, 1, 1, 0].map waxI
noncomputable def cornerR : Value := .agg #[waxI 3, waxI 16, waxI 28, waxI 16, waxI 14, waxI 1]
theorem corner_counts : (callF Tryz.prog sum0 100000 55 [sRow 3] (hRow cornerL 54)).map (·.1) = some cornerR := by kernel_rfl
end Go.Proofs
