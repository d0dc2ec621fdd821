/- Shades: CheckGuide of the program accepts a guide without errors. -/
import Derived.Test.YtclmaobblnfplaaShdH
namespace Go.Proofs
open Go.RowKit Go.MapKept
set_option maxHeartbeats 16000000
set_option maxRecDepth 1000000
theorem four_cells {W : World} {b : Nat} {T : TypeId} {x0 x1 x2 x3 : Value} (h : W.heap[b]? = some (.cells #[x0, x1, x2, x3] T (0, 0))) :
    W.cell? ⟨b, 0, none⟩ = some x0 ∧ W.cell? ⟨b, 1, none⟩ = some x1 ∧ W.cell? ⟨b, 2, none⟩ = some x2 ∧ W.cell? ⟨b, 3, none⟩ = some x3 := by
  have hz := fun j => cell_of_row W b j _ _ _ h
  refine ⟨?_, ?_, ?_, ?_⟩
  · rw [hz 0]; simp
  · rw [hz 1]; simp
  · rw [hz 2]; simp
  · rw [hz 3]; simp
end Go.Proofs
