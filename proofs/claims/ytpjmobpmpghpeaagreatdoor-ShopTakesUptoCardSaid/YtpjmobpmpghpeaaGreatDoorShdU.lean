/- Shades: a guide as one of the reference. -/
import Derived.Test.YtpjmobpmpghpeaaGreatDoorShdT
namespace Go.Proofs
open Go.RowKit Go.MapKept
set_option maxHeartbeats 16000000
set_option maxRecDepth 1000000
theorem take_len {l : List TabT} {k : Nat} (h : k ≤ l.length) : (l.take k).length = k := by rw [List.length_take]; omega
theorem OwnT.ne_ {T U : TypeId} {w : World} {B : Nat} {v : Value} {l : List TabT} {g : Nat} {cs : Array Value} (h : OwnT T w B v l) (hg : w.heap[g]? = some (.cells cs U (0, 0))) (hTU : T ≠ U) : v.ownBlock ≠ some g := fun e => by
  rcases h.2 with ⟨h1, _⟩ | ⟨g', cap, cur, rfl, hB, hg', r⟩
  · rw [h1] at e; cases e
  · obtain rfl : g' = g := by simpa [Value.ownBlock] using e
    rw [hg] at hg'
    injection hg' with e1
    injection e1 with _ e2 _
    exact hTU e2.symm
end Go.Proofs
