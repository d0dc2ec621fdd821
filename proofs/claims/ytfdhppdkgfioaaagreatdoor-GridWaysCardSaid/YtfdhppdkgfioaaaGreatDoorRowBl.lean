/- Blocks known to the cell. -/
import Derived.Test.YtfdhppdkgfioaaaGreatDoorRow
import Derived.Laws.MakeOwn
namespace Go.Proofs
open Go.RowKit Go.MapKept
set_option maxHeartbeats 16000000
set_option maxRecDepth 1000000
/-- A block known to the cell. -/
def RowBl (w : World) (t : TypeId) (g : Nat) (cs : List Value) : Prop := w.heap[g]? = some (.cells cs.toArray t (0, 0))
theorem RowBl.lt {w : World} {t : TypeId} {g : Nat} {cs : List Value} (h : RowBl w t g cs) : g < w.heap.size := (Array.getElem?_eq_some_iff.1 h).1
theorem RowBl.cell {w : World} {t : TypeId} {g : Nat} {cs : List Value} (h : RowBl w t g cs) {i : Nat} {x : Value} (hi : cs[i]? = some x) : w.cell? ⟨g, i, none⟩ = some x := by
  rw [cell_of_row w g i _ _ _ h]
  simp [hi]
theorem RowBl.fz {w : World} {t : TypeId} {g : Nat} {cs : List Value} (h : RowBl w t g cs) (i : Nat) : w.frozen? ⟨g, i, none⟩ = false := frozen_of_row w g i _ _ h
theorem RowBl.set {w : World} {t : TypeId} {g : Nat} {cs : List Value} (h : RowBl w t g cs) (i : Nat) (x : Value) : RowBl (w.setCell ⟨g, i, none⟩ x) t g (cs.set i x) := by
  have := heap_setCell_same w g i _ t x h
  unfold RowBl
  rw [this]
  simp
theorem RowBl.keep {w w' : World} {t : TypeId} {g : Nat} {cs : List Value} (h : RowBl w t g cs) (hb : w'.heap[g]? = w.heap[g]?) : RowBl w' t g cs := hb.trans h
theorem RowBl.below {w w' : World} {t : TypeId} {g : Nat} {cs : List Value} (h : RowBl w t g cs) (hb : Below w.heap.size w w') : RowBl w' t g cs := h.keep (hb.block g h.lt)
theorem RowBl.made {w : World} {t : TypeId} {B g n s : Nat} {xs : List Value} (h : w.ownsRow B t s (.slice (some ⟨g, 0, none⟩) n n) n xs) : RowBl w t g xs := by
  obtain ⟨h0, ⟨h1, -⟩ | ⟨g', cap, cur, h1, -, h2, -, -, h3, h4⟩⟩ := h
  · cases h1
  · injection h1 with e1 e2 e3
    injection e1 with e1
    injection e1 with e1
    subst e1
    subst e3
    unfold RowBl
    rw [h2]
    congr 1
    congr 1
    apply Array.ext'
    rw [List.take_of_length_le (by simp [h3])] at h4
    rw [h4]
end Go.Proofs
