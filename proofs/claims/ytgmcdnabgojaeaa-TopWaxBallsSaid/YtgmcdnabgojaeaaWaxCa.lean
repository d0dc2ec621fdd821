import Derived.Test.YtgmcdnabgojaeaaWaxBase
namespace Go.Proofs
open Go.AM Go.RowKit
set_option maxRecDepth 1000000
theorem ring_counts : (callF Try.prog sum0 100000 48 [sRow 8] (hRow ringL 32)).map (·.1) = some (.agg #[waxI 8, waxI 40, waxI 64, waxI 32, waxI 32, waxI 0]) := by kernel_rfl
end Go.Proofs
