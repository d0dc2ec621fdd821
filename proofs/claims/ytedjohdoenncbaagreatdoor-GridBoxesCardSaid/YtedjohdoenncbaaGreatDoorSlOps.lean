/- SameCells of any two sets' slices. -/
import Derived.Test.YtedjohdoenncbaaGreatDoorSl
import Derived.Test.YtedjohdoenncbaaGreatDoorRefD
namespace Go.Proofs
open Go.RowKit
set_option maxHeartbeats 8000000
set_option maxRecDepth 1000000
theorem sameSl (l m : List Cel) (v u : Value) (w : World) (hl : Sl w v l) (hm : Sl w u m) (hn : l.length ≤ 4096) :
    Calls Tryz.prog 59 #[v, u] w fun e w' => e = .returned (.bool (decide (l = m))) ∧ ∃ q, w' = w.drewN q := by
  by_cases hlen : l.length = m.length
  · cases l with
    | nil =>
      obtain rfl : m = [] := List.eq_nil_of_length_eq_zero hlen.symm
      obtain ⟨A, ca, rfl⟩ := hl.form
      obtain ⟨B, cb, rfl⟩ := hm.form
      clear hl hm hn hlen
      show Calls Tryz.prog 59 #[.slice A 0 ca, .slice B 0 cb] w fun e w' => e = .returned (.bool true) ∧ ∃ q, w' = w.drewN q
      go_enter Tryz.func59, Tryz.ntmps59
      go_wp2
      go_loopw [5] (fun i wr => i = .int .i64 0 ∧ wr = w) (fun _ _ => 0)
      case atStart => exact ⟨rfl, rfl⟩
      case round =>
        obtain ⟨rfl, rfl⟩ := hrel
        go_wp2
        go_ret
        exact ⟨rfl, 0, rfl⟩
    | cons h l =>
      rcases hl with ⟨_, h2⟩ | ⟨a, ca, rfl, ha⟩
      · cases h2
      rcases hm with ⟨_, rfl⟩ | ⟨b, cb, rfl, hb⟩
      · cases hlen
      obtain ⟨a1, a2, a3⟩ := ha (by simp)
      obtain ⟨b1, b2, b3⟩ := hb (by intro e; subst e; cases hlen)
      obtain ⟨ab, ao, sa⟩ := a
      obtain ⟨bb, bo, sb⟩ := b
      obtain rfl : sa = none := a1
      obtain rfl : sb = none := b1
      exact sameCells_ok (h :: l) m ab ao ca bb bo cb w a3 b3 hn
  · have hle : ¬ ((l.length : Int) = m.length) := by omega
    have hne : l ≠ m := fun e => hlen (by rw [e])
    rw [decide_eq_false hne]
    obtain ⟨A, ca, rfl⟩ := hl.form
    obtain ⟨B, cb, rfl⟩ := hm.form
    clear hl hm
    go_enter Tryz.func59, Tryz.ntmps59
    go_wp2
    all_goals go_ret
    all_goals (first | exact ⟨rfl, 0, rfl⟩ | (simp_all))
end Go.Proofs
