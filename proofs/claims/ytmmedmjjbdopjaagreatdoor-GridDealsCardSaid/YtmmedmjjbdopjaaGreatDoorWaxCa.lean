import Derived.Test.YtmmedmjjbdopjaaGreatDoorWaxBase
namespace Go.Proofs
open Go.AM Go.RowKit
set_option maxRecDepth 1000000
theorem ring_counts : (callF Tryz.prog sum0 100000 55 [sRow 8] (hRow ringL 54)).map (·.1) = some (.agg #[waxI 8, waxI 40, waxI 64, waxI 32, waxI 32, waxI 0]) := by kernel_rfl
end Go.Proofs
