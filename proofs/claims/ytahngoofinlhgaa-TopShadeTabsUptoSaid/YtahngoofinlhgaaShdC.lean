/- Shades: guides in the reference: ShortGuide, CheckGuide, Distance. -/
import Derived.Test.YtahngoofinlhgaaShdB
namespace Go.Proofs
open Go.RowKit
set_option maxHeartbeats 16000000
set_option maxRecDepth 1000000
def gdV (ws : Cel) (v : Value) : Value := .agg #[.int .i64 ws.1, .int .i64 ws.2.1, .int .i64 ws.2.2, v]
def BoolS (w : World) (e : Ending) (w' : World) : Prop := (∃ r : Bool, e = .returned (.bool r)) ∧ Below w.heap.size w w'
theorem boolS_mk {w w' : World} (r : Bool) (hb : Below w.heap.size w w') : BoolS w (.returned (.bool r)) w' := ⟨⟨r, rfl⟩, hb⟩
theorem refShortG_ok (ws : Cel) (v : Value) (l : List TabT) (n : Int) (w : World) (hl : SlT w v l) :
    Calls Try.prog 16 #[gdV ws v, .int .i64 n] w (BoolS w) := by
  obtain ⟨A, cap, rfl⟩ := hl.form
  obtain ⟨x, y, z⟩ := ws
  unfold gdV
  dsimp only
  have hB0 : Below w.heap.size w (w.alloc (.cells #[.int .i64 x, .int .i64 y, .int .i64 z, .slice A l.length cap] 52)) := (Below.refl _ _).alloc (Nat.le_refl _) _
  have c3 : (w.alloc (.cells #[.int .i64 x, .int .i64 y, .int .i64 z, .slice A l.length cap] 52)).cell? ⟨w.heap.size, 3, none⟩ = some (.slice A l.length cap) := by go_simp
  have hl0 := hl.below hB0
  clear hl
  go_enter Try.func16, Try.ntmps16
  go_wp2
  all_goals (try (go_ret; exact boolS_mk _ hB0))
  all_goals (
    go_loopw [5] (fun i wr => ∃ k : Nat, k ≤ l.length ∧ i = .int .i64 k ∧ wr.cell? ⟨w.heap.size, 3, none⟩ = some (.slice A l.length cap) ∧ SlT wr (.slice A l.length cap) l ∧ Below w.heap.size w wr) (fun i _ => l.length - (intOf i).toNat)
    case atStart => exact ⟨0, Nat.zero_le _, rfl, c3, hl0, hB0⟩
    case round =>
      clear c3 hl0 hB0
      obtain ⟨k, hk, rfl, c3, hl0, hB0⟩ := hrel
      rcases Nat.lt_or_eq_of_le hk with hkn | rfl
      · obtain ⟨b, o, s, x1, y1, z1, rfl, -, hb, hc, r0, r1, r2, r3⟩ := hl0.cells hkn
        have hi0 : (0 : Int) ≤ k := by omega
        have hi1 : (k : Int) < l.length := by omega
        go_wp2
        all_goals (first
          | (go_ret; exact boolS_mk _ hB0)
          | (refine ⟨⟨k + 1, hkn, by simp_all, c3, hl0, hB0⟩, by simp_all [intOf] <;> omega⟩))
      · go_wp2
        go_ret
        exact boolS_mk _ hB0)
end Go.Proofs
