/- insert: stop and Stuck. -/
import Derived.Test.YtpickbchpnbffaaGreatInsD
import Derived.Test.YtpickbchpnbffaaGreatHeldF
namespace Go.Proofs
open Go.RowKit
set_option maxHeartbeats 16000000
set_option maxRecDepth 1000000
/-- What a call of stop ends with. -/
def StopE (w : World) (part S : List Cel) (d : Cel) (e : Ending) (w' : World) : Prop := ∃ (k a b c : Int) (h : Bool), e = .returned (.tuple #[.int .i64 k, .agg #[.int .i64 a, .int .i64 b, .int .i64 c], .bool h]) ∧ StopS part S d k (a, b, c) h ∧ Below w.heap.size w w'
theorem six_cellsI {V : World} {B : Nat} {c0 c1 c2 c3 c4 c5 : Value} {T : TypeId} (h : V.heap[B]? = some (.cells #[c0, c1, c2, c3, c4, c5] T (0, 0))) :
    (V.cell? ⟨B, 0, none⟩ = some c0 ∧ V.cell? ⟨B, 1, none⟩ = some c1 ∧ V.cell? ⟨B, 2, none⟩ = some c2 ∧ V.cell? ⟨B, 3, none⟩ = some c3 ∧ V.cell? ⟨B, 4, none⟩ = some c4 ∧ V.cell? ⟨B, 5, none⟩ = some c5) ∧
    (V.frozen? ⟨B, 0, none⟩ = false ∧ V.frozen? ⟨B, 1, none⟩ = false ∧ V.frozen? ⟨B, 2, none⟩ = false ∧ V.frozen? ⟨B, 3, none⟩ = false ∧ V.frozen? ⟨B, 4, none⟩ = false ∧ V.frozen? ⟨B, 5, none⟩ = false) := by
  have zl := fun j => cell_of_row V B j _ _ _ h
  have fz := fun j => frozen_of_row V B j _ _ h
  have z0 := zl 0
  have z1 := zl 1
  have z2 := zl 2
  have z3 := zl 3
  have z4 := zl 4
  have z5 := zl 5
  simp at z0 z1 z2 z3 z4 z5
  exact ⟨⟨z0, z1, z2, z3, z4, z5⟩, fz 0, fz 1, fz 2, fz 3, fz 4, fz 5⟩
theorem six_storedI {W : World} {B : Nat} {c0 c1 c2 c3 c4 c5 d0 d1 d2 d3 d4 d5 : Value} {T : TypeId} (h : W.heap[B]? = some (.cells #[c0, c1, c2, c3, c4, c5] T (0, 0))) :
    ((((((W.setCell ⟨B, 0, none⟩ d0).setCell ⟨B, 1, none⟩ d1).setCell ⟨B, 2, none⟩ d2).setCell ⟨B, 3, none⟩ d3).setCell ⟨B, 4, none⟩ d4).setCell ⟨B, 5, none⟩ d5).heap[B]? = some (.cells #[d0, d1, d2, d3, d4, d5] T (0, 0)) := by
  have hz := heap_setCell_same _ B 5 _ _ d5 (heap_setCell_same _ B 4 _ _ d4 (heap_setCell_same _ B 3 _ _ d3 (heap_setCell_same _ B 2 _ _ d2 (heap_setCell_same _ B 1 _ _ d1 (heap_setCell_same _ B 0 _ _ d0 h)))))
  simpa using hz
theorem twoWays {C G : Nat → World → Prop} {Goal : Prop} (rest : ∀ B W, C B W → G B W) (h : (∀ B W, C B W → G B W) → Goal) : Goal := h rest
end Go.Proofs
