import Derived.Test.YtgmcdnabgojaeaaWaxBase
namespace Go.Proofs
open Go.AM Go.RowKit
set_option maxRecDepth 1000000
theorem block_counts : (callF Try.prog sum0 100000 48 [sRow 9] (hRow blockL 32)).map (·.1) = some (.agg #[waxI 9, waxI 42, waxI 64, waxI 32, waxI 30, waxI 1]) := by kernel_rfl
end Go.Proofs
