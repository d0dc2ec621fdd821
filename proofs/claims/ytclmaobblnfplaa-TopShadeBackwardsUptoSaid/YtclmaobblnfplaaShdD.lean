/- Shades: CheckGuide of the reference. -/
import Derived.Test.YtclmaobblnfplaaShdC
namespace Go.Proofs
open Go.RowKit
set_option maxHeartbeats 16000000
set_option maxRecDepth 1000000
structure GuideOk (ws : Cel) (l : List TabT) : Prop where
  wt : ColOk ws 1 100
  pos : 0 < l.length
  few : l.length ≤ 32
  at_ : ∀ (i : Nat) (t : TabT), l[i]? = some t → NameOk t.1 ∧ ColOk t.2 0 255
  nd : ∀ (i j : Nat) (s t : TabT), j < i → l[j]? = some s → l[i]? = some t → s.1 ≠ t.1
structure PreG (l : List TabT) (k : Nat) : Prop where
  at_ : ∀ (i : Nat) (t : TabT), i < k → l[i]? = some t → NameOk t.1 ∧ ColOk t.2 0 255
  nd : ∀ (i j : Nat) (s t : TabT), j < i → i < k → l[j]? = some s → l[i]? = some t → s.1 ≠ t.1
theorem preG_step {l : List TabT} {k : Nat} {t : TabT} (h : PreG l k) (ht : l[k]? = some t) (hn : NameOk t.1) (hc : ColOk t.2 0 255) (hd : ∀ j s, j < k → l[j]? = some s → s.1 ≠ t.1) : PreG l (k + 1) := by
  refine ⟨fun i u hi hu => ?_, fun i j s u hji hi hs hu => ?_⟩
  · rcases Nat.lt_or_eq_of_le (Nat.le_of_lt_succ hi) with h1 | rfl
    · exact h.at_ i u h1 hu
    · obtain rfl := Option.some.inj (ht.symm.trans hu)
      exact ⟨hn, hc⟩
  · rcases Nat.lt_or_eq_of_le (Nat.le_of_lt_succ hi) with h1 | rfl
    · exact h.nd i j s u hji h1 hs hu
    · obtain rfl := Option.some.inj (ht.symm.trans hu)
      exact hd j s hji hs
def GuideE (ws : Cel) (l : List TabT) (w : World) (e : Ending) (w' : World) : Prop := ∃ n : Int, e = .returned (.int .i64 n) ∧ 0 ≤ n ∧ n ≤ 12 ∧ (n = 0 → GuideOk ws l) ∧ Below w.heap.size w w'
theorem guideE_no {ws : Cel} {l : List TabT} {w w' : World} (n : Int) (h : 1 ≤ n ∧ n ≤ 12) (hb : Below w.heap.size w w') : GuideE ws l w (.returned (.int .i64 n)) w' := ⟨n, rfl, by omega, h.2, fun e => absurd e (by omega), hb⟩
end Go.Proofs
