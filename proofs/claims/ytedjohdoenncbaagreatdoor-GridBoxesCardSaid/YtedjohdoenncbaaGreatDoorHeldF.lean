import Derived.Test.YtedjohdoenncbaaGreatDoorRefD
import Derived.Deep.RegionHeld3
section
/- Boxes compared. -/
namespace Go.Proofs
open Go.RowKit
set_option maxHeartbeats 4000000
set_option maxRecDepth 1000000
theorem eqCellS (x y z : Int) (w : World) : (Op.equalIn 9999 38 (.agg #[.int .i64 x, .int .i64 y, .int .i64 z]) (.agg #[.int .i64 x, .int .i64 y, .int .i64 z])).run Tryz.prog w = .ok true w := by
  have u3 := Tryz.underlying3
  have a3 := Tryz.isAgg3
  have z3 := Tryz.sizeOf3
  have hS : Tryz.prog.underlying 38 = some (.struct (Tryz.prog.fieldsOf 38)) := by kernel_rfl
  have hp : Tryz.prog.stoodInHeld 38 = false := by kernel_rfl
  rw [show (9999 : Nat) = 9998 + 1 from rfl, run_equalIn_agg w 9998 38 _ _ hS hp]
  simp only [Program.fieldsOf, Tryz.underlying38]
  go_simp
theorem eqBoxG (a b c d e f : Int) (w : World) : (Op.equalIn 10000 40 (.agg #[.int .i64 a, .int .i64 b, .int .i64 c, .int .i64 d, .int .i64 e, .int .i64 f]) (.agg #[.int .i64 a, .int .i64 b, .int .i64 c, .int .i64 d, .int .i64 e, .int .i64 f])).run Tryz.prog w = .ok true w := by
  have hS : Tryz.prog.underlying 40 = some (.struct (Tryz.prog.fieldsOf 40)) := by kernel_rfl
  have hp : Tryz.prog.stoodInHeld 40 = false := by kernel_rfl
  have q1 := fun W => eqCellS a b c W
  have q2 := fun W => eqCellS d e f W
  have a38 := Tryz.isAgg38
  have z38 := Tryz.sizeOf38
  rw [show (10000 : Nat) = 9999 + 1 from rfl, run_equalIn_agg w 9999 40 _ _ hS hp]
  simp only [Program.fieldsOf, Tryz.underlying40]
  go_simp
theorem eqBoxR (a b c d e f : Int) (w : World) : (Op.equalIn 10000 41 (.agg #[.int .i64 a, .int .i64 b, .int .i64 c, .int .i64 d, .int .i64 e, .int .i64 f]) (.agg #[.int .i64 a, .int .i64 b, .int .i64 c, .int .i64 d, .int .i64 e, .int .i64 f])).run Tryz.prog w = .ok true w := by
  have hS : Tryz.prog.underlying 41 = some (.struct (Tryz.prog.fieldsOf 41)) := by kernel_rfl
  have hp : Tryz.prog.stoodInHeld 41 = false := by kernel_rfl
  have q1 := fun W => eqCellS a b c W
  have q2 := fun W => eqCellS d e f W
  have a38 := Tryz.isAgg38
  have z38 := Tryz.sizeOf38
  rw [show (10000 : Nat) = 9999 + 1 from rfl, run_equalIn_agg w 9999 41 _ _ hS hp]
  simp only [Program.fieldsOf, Tryz.underlying41]
  go_simp
end Go.Proofs
end

section
/- Steps of a held region by hand: an operation whose guard says no is passed over first. -/
namespace Go.Proofs
open Lean Elab Tactic
macro "held_start " S:term:max ppSpace "(" p:tacticSeq ")" : tactic => `(tactic|
  (refine wp_region_held_drew (S := $S) (by kernel_rfl) ?hS (fun hHeld => ?rest)
   case hS => ($p)))
/-- The operation written out, of the region at hand. -/
def heldOp (i : Nat) : TacticM (TSyntax `term) := withMainContext do
  let t := (← instantiateMVars (← getMainTarget)).consumeMData
  unless t.isAppOfArity ``wpAnyH 9 do throwError "no held region"
  let some oe := opAt t.getAppArgs[2]! i | throwError "the region is not written out"
  Term.exprToSyntax oe
elab "held_take " n:num : tactic => withMainContext do
  let o ← heldOp n.getNat
  evalTactic (← `(tactic| refine wpAnyH_take (i := $n) (oi := $o) (v := ?_) rfl (by kernel_rfl) (by kernel_rfl) (by kernel_rfl) (fun _ _ _ h => h) (Or.inl ⟨by rfl, ?_⟩) (by assumption) ?_))
  let [_, hy, rest] ← getGoals | throwError "three goals expected"
  setGoals [hy]
  evalTactic (← `(tactic| (intro w hSw; (try dsimp only at hSw); go_simp)))
  unless (← getGoals).isEmpty do evalTactic (← `(tactic| with_reducible rfl))
  unless (← getGoals).isEmpty do throwError "not closed"
  setGoals [rest]
  evalTactic (← `(tactic| try simp only [Act.put, List.setIfInBounds_toArray, List.set_cons_zero, List.set_cons_succ]))
elab "held_skip " n:num : tactic => withMainContext do
  let o ← heldOp n.getNat
  evalTactic (← `(tactic| refine wpAnyH_take (i := $n) (oi := $o) (v := undef) rfl (by kernel_rfl) (by kernel_rfl) (by kernel_rfl) (fun _ _ _ h => h) (Or.inr ⟨by rfl, rfl⟩) (by assumption) ?_))
  evalTactic (← `(tactic| try simp only [Act.put, List.setIfInBounds_toArray, List.set_cons_zero, List.set_cons_succ]))
elab "held_walk " "(" keep:tactic ")" ppSpace "(" tac:tactic ")" : tactic => regionWalkH3 keep tac false
end Go.Proofs
end
