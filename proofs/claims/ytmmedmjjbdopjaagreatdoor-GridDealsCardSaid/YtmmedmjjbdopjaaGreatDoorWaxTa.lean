import Derived.Test.YtmmedmjjbdopjaaGreatDoorWaxCa
namespace Go.Proofs
open Go.AM Go.RowKit
set_option maxRecDepth 1000000
noncomputable def ringC : Value := .agg #[waxI 8, waxI 40, waxI 64, waxI 32, waxI 32, waxI 0]
noncomputable def sum1 : Sum := memo 55 ringL 8 ringC sum0
theorem sum1_ok : SumOk Tryz.prog sum1 := memo_of sum0_ok sum0_ok (by decide) rfl rfl ring_counts
theorem ring_tunnels : (callF Tryz.prog sum1 100000 22 [sRow 8] (hRow ringL 54)).map (·.1) = some (.tuple #[waxI 1, waxI 0]) := by kernel_rfl
end Go.Proofs
