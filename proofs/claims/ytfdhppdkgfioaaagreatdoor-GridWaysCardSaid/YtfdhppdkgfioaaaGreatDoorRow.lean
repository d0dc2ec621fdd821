import Derived.Test.YtfdhppdkgfioaaaGreatDoorCompare
namespace Go.Proofs
open Go.RowKit
set_option maxHeartbeats 4000000
set_option maxRecDepth 1000000
abbrev Cel := Int × Int × Int
/-- The cells of a list stand in a block from a place on. -/
def RowAt (w : World) (blk off : Nat) (l : List Cel) : Prop := ∀ i c, l[i]? = some c → w.cell? ⟨blk, off + i * 3, none⟩ = some (.int .i64 c.1) ∧ w.cell? ⟨blk, off + i * 3 + 1, none⟩ = some (.int .i64 c.2.1) ∧ w.cell? ⟨blk, off + i * 3 + 2, none⟩ = some (.int .i64 c.2.2)
/-- A block that is being filled. -/
def Filled (w : World) (B n : Nat) (T : TypeId) (l : List Cel) : Prop := ∃ arr, w.heap[B]? = some (.cells arr T (0, 0)) ∧ arr.size = n * 3 ∧ ∀ i c, l[i]? = some c → arr[i * 3]? = some (.int .i64 c.1) ∧ arr[i * 3 + 1]? = some (.int .i64 c.2.1) ∧ arr[i * 3 + 2]? = some (.int .i64 c.2.2)

theorem Filled.put {w : World} {B n : Nat} {T : TypeId} {l : List Cel} {k : Nat} {x y z : Int} (h : Filled w B n T (l.take k)) (hk : k < n) (hc : l[k]? = some (x, y, z)) (o : Obj) :
    Filled ((((w.setCell ⟨B, k * 3, none⟩ (.int .i64 x)).setCell ⟨B, k * 3 + 1, none⟩ (.int .i64 y)).setCell ⟨B, k * 3 + 2, none⟩ (.int .i64 z)).alloc o) B n T (l.take (k + 1)) := by
  obtain ⟨arr, ha, has, hav⟩ := h
  have hB : B < w.heap.size := (Array.getElem?_eq_some_iff.1 ha).1
  refine ⟨((arr.setIfInBounds (k * 3) (.int .i64 x)).setIfInBounds (k * 3 + 1) (.int .i64 y)).setIfInBounds (k * 3 + 2) (.int .i64 z), ?_, by simp [has], fun i c hi => ?_⟩
  · rw [Below.heap_alloc _ _ _ (by simpa [World.setCell] using hB)]
    exact heap_setCell_same _ B (k * 3 + 2) _ T _ (heap_setCell_same _ B (k * 3 + 1) _ T _ (heap_setCell_same w B (k * 3) arr T _ ha))
  · rw [List.getElem?_take] at hi
    split at hi
    · rename_i hik
      by_cases e : i = k
      · subst e
        rw [hc] at hi
        obtain rfl := Option.some.inj hi
        refine ⟨?_, ?_, ?_⟩ <;> simp [Array.getElem?_setIfInBounds, has] <;> omega
      · obtain ⟨h0, h1, h2⟩ := hav i c (by rw [List.getElem?_take, if_pos (by omega)]; exact hi)
        refine ⟨?_, ?_, ?_⟩
        · rw [Array.getElem?_setIfInBounds_ne (by omega), Array.getElem?_setIfInBounds_ne (by omega), Array.getElem?_setIfInBounds_ne (by omega)]; exact h0
        · rw [Array.getElem?_setIfInBounds_ne (by omega), Array.getElem?_setIfInBounds_ne (by omega), Array.getElem?_setIfInBounds_ne (by omega)]; exact h1
        · rw [Array.getElem?_setIfInBounds_ne (by omega), Array.getElem?_setIfInBounds_ne (by omega), Array.getElem?_setIfInBounds_ne (by omega)]; exact h2
    · cases hi
theorem Filled.old {w : World} {B n : Nat} {T : TypeId} {l : List Cel} (h : Filled w B n T l) {j : Nat} (hj : j < n * 3) : ∃ v, w.cell? ⟨B, j, none⟩ = some v := by
  obtain ⟨arr, ha, has, _⟩ := h
  exact ⟨arr[j]'(by omega), by simp [World.cell?, ha, has, hj]⟩
theorem Filled.fz {w : World} {B n : Nat} {T : TypeId} {l : List Cel} (h : Filled w B n T l) (j : Nat) : w.frozen? ⟨B, j, none⟩ = false := by
  obtain ⟨arr, ha, _, _⟩ := h
  exact frozen_of_row w _ j arr T ha
theorem below3 {w wr : World} (h : Below w.heap.size w wr) (hlt : w.heap.size ≤ wr.heap.size) (k : Nat) (a b c : Value) (o : Obj) :
    Below w.heap.size w ((((wr.setCell ⟨w.heap.size, k * 3, none⟩ a).setCell ⟨w.heap.size, k * 3 + 1, none⟩ b).setCell ⟨w.heap.size, k * 3 + 2, none⟩ c).alloc o) :=
  (((h.setCell (p := ⟨w.heap.size, k * 3, none⟩) (Nat.le_refl _) a).setCell (p := ⟨w.heap.size, k * 3 + 1, none⟩) (Nat.le_refl _) b).setCell (p := ⟨w.heap.size, k * 3 + 2, none⟩) (Nat.le_refl _) c).alloc (by simpa [World.setCell] using hlt) o

end Go.Proofs
