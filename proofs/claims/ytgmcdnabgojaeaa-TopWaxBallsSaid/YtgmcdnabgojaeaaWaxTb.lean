import Derived.Test.YtgmcdnabgojaeaaWaxCb
namespace Go.Proofs
open Go.AM Go.RowKit
set_option maxRecDepth 1000000
noncomputable def blockC : Value := .agg #[waxI 9, waxI 42, waxI 64, waxI 32, waxI 30, waxI 1]
noncomputable def sum2 : Sum := memo 48 blockL 9 blockC sum0
theorem sum2_ok : SumOk Try.prog sum2 := memo_of sum0_ok sum0_ok (by decide) rfl rfl block_counts
theorem block_tunnels : (callF Try.prog sum2 100000 21 [sRow 9] (hRow blockL 32)).map (·.1) = some (.tuple #[waxI 0, waxI 0]) := by kernel_rfl
end Go.Proofs
