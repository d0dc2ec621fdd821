/- Shades, exactly: CheckGuide of the program. -/
import Derived.Test.YtclmaobblnfplaaErrA
namespace Go.Proofs
open Go.RowKit Go.MapKept
set_option maxHeartbeats 16000000
set_option maxRecDepth 1000000
end Go.Proofs
