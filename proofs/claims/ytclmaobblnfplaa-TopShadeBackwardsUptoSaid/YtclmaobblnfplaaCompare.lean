import Derived.Test.YtclmaobblnfplaaProg
import Derived.WalkKit
import Derived.Sort.Grow
import Derived.Deep.Draws
import Derived.StillTailTactics
section
namespace Go.Proofs
open Go.RowKit (wrap64)
set_option maxHeartbeats 4000000
def cmpI (x y : Int) : Int := if x < y then -1 else if y < x then 1 else 0
def orI (a b c : Int) : Int := if a ≠ 0 then a else if b ≠ 0 then b else c
end Go.Proofs
end

section
namespace Go.Proofs
set_option maxHeartbeats 4000000
set_option maxRecDepth 1000000
def cmp3 (x1 y1 z1 x2 y2 z2 : Int) : Int := orI (cmpI x1 x2) (cmpI y1 y2) (cmpI z1 z2)
def c3V (x y z : Int) : Array Value := #[.int .i64 x, .int .i64 y, .int .i64 z]
end Go.Proofs
end
