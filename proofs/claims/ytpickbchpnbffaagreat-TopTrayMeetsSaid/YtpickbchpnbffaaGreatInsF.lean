/- insert: Stuck of valid sets along a valid direction. -/
import Derived.Test.YtpickbchpnbffaaGreatInsE
import Derived.Test.YtpickbchpnbffaaGreatHeldF
namespace Go.Proofs
open Go.RowKit
set_option maxHeartbeats 16000000
set_option maxRecDepth 1000000
theorem hitL_set {part base : List Cel} {s : Cel} : hitL part (setL base) s = hitL part base s := by
  unfold hitL
  refine List.filter_congr fun c _ => ?_
  exact decide_eq_decide.2 mem_setL
theorem stop_set {part base : List Cel} {d : Cel} {k : Int} {x : Cel} {h : Bool} (hs : StopS part (setL base) d k x h) : StopS part base d k x h := by
  unfold StopS at hs ⊢
  simpa only [hitL_set] using hs
theorem manyWays {C G : Nat → Nat → Int → Int → Int → Int → Bool → World → Prop} {Goal : Prop} (rest : ∀ n m k a b c h W, C n m k a b c h W → G n m k a b c h W) (h : (∀ n m k a b c h W, C n m k a b c h W → G n m k a b c h W) → Goal) : Goal := h rest
/-- What a call of Stuck ends with. -/
def StuckE (w : World) (part base : List Cel) (d : Cel) (e : Ending) (w' : World) : Prop := ∃ (k a b c : Int) (h : Bool), e = .returned (.tuple #[.int .i64 k, .agg #[.int .i64 a, .int .i64 b, .int .i64 c], .int .i64 (if h = true then 0 else 7)]) ∧ StopS part base d k (a, b, c) h ∧ Below w.heap.size w w'
end Go.Proofs
