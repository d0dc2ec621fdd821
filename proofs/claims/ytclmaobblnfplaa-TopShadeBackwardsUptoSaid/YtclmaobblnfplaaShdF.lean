import Derived.Test.YtclmaobblnfplaaShdD
import Derived.DeepKeys3
import Derived.Laws.StructEq
import Derived.MapKept
import Derived.WideKeyRuns
section
/- Shades: distances of the reference. -/
namespace Go.Proofs
open Go.RowKit
set_option maxHeartbeats 16000000
set_option maxRecDepth 1000000
theorem mul_bd {a b : Int} {A B : Nat} (ha : -(A : Int) ≤ a ∧ a ≤ A) (hb : -(B : Int) ≤ b ∧ b ≤ B) : -((A * B : Nat) : Int) ≤ a * b ∧ a * b ≤ ((A * B : Nat) : Int) := by
  have h1 : a.natAbs ≤ A := by omega
  have h2 : b.natAbs ≤ B := by omega
  have h3 : (a * b).natAbs ≤ A * B := by rw [Int.natAbs_mul]; exact Nat.mul_le_mul h1 h2
  omega
def termD (w x p : Int) : Int := w * (x - p) * (x - p)
def distW (ws a b : Cel) : Int := termD ws.1 a.1 b.1 + termD ws.2.1 a.2.1 b.2.1 + termD ws.2.2 a.2.2 b.2.2
theorem term_wraps {w x p : Int} (hw : -100 ≤ w ∧ w ≤ 100) (hx : -3000 ≤ x ∧ x ≤ 3000) (hp : -3000 ≤ p ∧ p ≤ 3000) :
    IntKind.i64.wrap (x - p) = x - p ∧ IntKind.i64.wrap (w * (x - p)) = w * (x - p) ∧ IntKind.i64.wrap (w * (x - p) * (x - p)) = termD w x p ∧ -3600000000 ≤ termD w x p ∧ termD w x p ≤ 3600000000 := by
  have h1 : -((6000 : Nat) : Int) ≤ x - p ∧ x - p ≤ ((6000 : Nat) : Int) := by omega
  have h2 := mul_bd (A := 100) (a := w) (by omega) h1
  have h3 := mul_bd h2 h1
  unfold termD
  refine ⟨wrap_small (by omega), wrap_small (by omega), wrap_small (by omega), by omega, by omega⟩
end Go.Proofs
end

section
/- Shades: shadeLess, Far of the reference; distance, mixed of the program. -/
namespace Go.Proofs
open Go.RowKit Go.MapKept
set_option maxHeartbeats 16000000
set_option maxRecDepth 1000000
def lessC (c : Cel) : Cel := (255 - c.1, 255 - c.2.1, 255 - c.2.2)
theorem eq_int3 (n : Nat) (a b : Int) (w : World) : (Op.equalIn (n + 1) 3 (.int .i64 a) (.int .i64 b)).run Try.prog w = .ok (a == b) w := run_equalIn_int w n 3 .i64 .i64 a b Try.underlying3
/-- The colour that is wanted, with the weights. -/
def tgtV (ws b : Cel) : Value := .agg #[.int .i64 ws.1, .int .i64 ws.2.1, .int .i64 ws.2.2, .int .i64 b.1, .int .i64 b.2.1, .int .i64 b.2.2]
theorem distW_self (ws a : Cel) : distW ws a a = 0 := by unfold distW termD; simp
end Go.Proofs
end
