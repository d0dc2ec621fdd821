import Derived.Test.YtpickbchpnbffaaGreatBitB
import Derived.Test.YtpickbchpnbffaaGreatInsB
import Derived.Test.YtpickbchpnbffaaGreatSetOf
section
/- The errors of grid.Bound. -/
namespace Go.Proofs
open Go.RowKit
set_option maxHeartbeats 8000000
set_option maxRecDepth 1000000
def boxO : Cel × Cel := ((0, 0, 0), (0, 0, 0))
theorem boundE (l : List Cel) (v : Value) (w : World) (hl : Sl w v l) (hn : l.length ≤ maxLen) (r : Int) (hc : chkI l = r) (h0 : r ≠ 0) :
    Calls Tryz.prog 86 #[v] w fun e w' => e = .returned (.tuple #[boxV boxO, .int .i64 r]) ∧ Below w.heap.size w w' := by
  have hB0 : Below w.heap.size w (w.alloc (.cells #[.int .i64 0, .int .i64 0, .int .i64 0, .int .i64 0, .int .i64 0, .int .i64 0] 125)) := (Below.refl _ _).alloc (Nat.le_refl _) _
  have h1 := gridCheckG l v _ (hl.below hB0) hn
  rw [hc] at h1
  have hne : (r != 0) = true := by rw [bne_iff_ne]; exact h0
  have hz0 : (w.alloc (.cells #[.int .i64 0, .int .i64 0, .int .i64 0, .int .i64 0, .int .i64 0, .int .i64 0] 125)).heap[w.heap.size]? = some (.cells #[.int .i64 0, .int .i64 0, .int .i64 0, .int .i64 0, .int .i64 0, .int .i64 0] 125 (0, 0)) := heap_alloc_new w _
  have hlt : w.heap.size < (w.alloc (.cells #[.int .i64 0, .int .i64 0, .int .i64 0, .int .i64 0, .int .i64 0, .int .i64 0] 125)).heap.size := by simp
  unfold boxV boxO
  dsimp only
  clear hl hc hn h0
  go_enter Tryz.func86, Tryz.ntmps86
  obtain ⟨W, hW⟩ : ∃ W, W = w.alloc (.cells #[.int .i64 0, .int .i64 0, .int .i64 0, .int .i64 0, .int .i64 0, .int .i64 0] 125) := ⟨_, rfl⟩
  rw [← hW] at h1 hB0 hz0 hlt
  go_wp2_with fail
  rw [← hW]
  clear hW
  refine h1.mono ?_
  rintro e w3 ⟨rfl, hB3⟩
  have hB03 := hB0.trans (hB3.mono hB0.size)
  have hz := (hB3.block _ hlt).trans hz0
  have zl := fun j => cell_of_row w3 w.heap.size j _ _ _ hz
  have z0 := zl 0
  have z1 := zl 1
  have z2 := zl 2
  have z3 := zl 3
  have z4 := zl 4
  have z5 := zl 5
  simp at z0 z1 z2 z3 z4 z5
  have fz := fun j => frozen_of_row w3 w.heap.size j _ _ hz
  have hle := Nat.le_refl w.heap.size
  have hB' := (((((hB03.setCell (p := ⟨w.heap.size, 0, none⟩) hle (.int .i64 0)).setCell (p := ⟨w.heap.size, 1, none⟩) hle (.int .i64 0)).setCell (p := ⟨w.heap.size, 2, none⟩) hle (.int .i64 0)).setCell (p := ⟨w.heap.size, 3, none⟩) hle (.int .i64 0)).setCell (p := ⟨w.heap.size, 4, none⟩) hle (.int .i64 0)).setCell (p := ⟨w.heap.size, 5, none⟩) hle (.int .i64 0)
  have hz' := heap_setCell_same _ w.heap.size 5 _ _ (.int .i64 0) (heap_setCell_same _ w.heap.size 4 _ _ (.int .i64 0) (heap_setCell_same _ w.heap.size 3 _ _ (.int .i64 0) (heap_setCell_same _ w.heap.size 2 _ _ (.int .i64 0) (heap_setCell_same _ w.heap.size 1 _ _ (.int .i64 0) (heap_setCell_same _ w.heap.size 0 _ _ (.int .i64 0) hz)))))
  simp at hz'
  have Hz' := Lib.hid hz'
  clear h1 hB3 hz zl hz' hz0
  go_wp2
  have yl := fun j => cell_of_row _ w.heap.size j _ _ _ Hz'.out
  exact bodyPost_ret (v := .tuple #[.agg #[.int .i64 0, .int .i64 0, .int .i64 0, .int .i64 0, .int .i64 0, .int .i64 0], .int .i64 r]) (by simp [results, Tryz.results86, go_sem, yl]) rfl ⟨rfl, hB'⟩
theorem bound0 (v : Value) (w : World) (hl : Sl w v []) :
    Calls Tryz.prog 86 #[v] w fun e w' => e = .returned (.tuple #[boxV boxO, .int .i64 12]) ∧ Below w.heap.size w w' := by
  have hB0 : Below w.heap.size w (w.alloc (.cells #[.int .i64 0, .int .i64 0, .int .i64 0, .int .i64 0, .int .i64 0, .int .i64 0] 125)) := (Below.refl _ _).alloc (Nat.le_refl _) _
  have h1 := gridCheckG [] v _ (hl.below hB0) (by simp)
  have hc : chkI [] = 0 := by unfold chkI chkFrom; rfl
  rw [hc] at h1
  obtain ⟨A, cap, rfl⟩ := hl.form
  have hz0 : (w.alloc (.cells #[.int .i64 0, .int .i64 0, .int .i64 0, .int .i64 0, .int .i64 0, .int .i64 0] 125)).heap[w.heap.size]? = some (.cells #[.int .i64 0, .int .i64 0, .int .i64 0, .int .i64 0, .int .i64 0, .int .i64 0] 125 (0, 0)) := heap_alloc_new w _
  have hlt : w.heap.size < (w.alloc (.cells #[.int .i64 0, .int .i64 0, .int .i64 0, .int .i64 0, .int .i64 0, .int .i64 0] 125)).heap.size := by simp
  unfold boxV boxO
  dsimp only
  clear hl hc
  go_enter Tryz.func86, Tryz.ntmps86
  obtain ⟨W, hW⟩ : ∃ W, W = w.alloc (.cells #[.int .i64 0, .int .i64 0, .int .i64 0, .int .i64 0, .int .i64 0, .int .i64 0] 125) := ⟨_, rfl⟩
  rw [← hW] at h1 hB0 hz0 hlt
  go_wp2_with fail
  rw [← hW]
  clear hW
  refine h1.mono ?_
  rintro e w3 ⟨rfl, hB3⟩
  have hB03 := hB0.trans (hB3.mono hB0.size)
  have hz := (hB3.block _ hlt).trans hz0
  have zl := fun j => cell_of_row w3 w.heap.size j _ _ _ hz
  have z0 := zl 0
  have z1 := zl 1
  have z2 := zl 2
  have z3 := zl 3
  have z4 := zl 4
  have z5 := zl 5
  simp at z0 z1 z2 z3 z4 z5
  have fz := fun j => frozen_of_row w3 w.heap.size j _ _ hz
  have hle := Nat.le_refl w.heap.size
  have hB' := (((((hB03.setCell (p := ⟨w.heap.size, 0, none⟩) hle (.int .i64 0)).setCell (p := ⟨w.heap.size, 1, none⟩) hle (.int .i64 0)).setCell (p := ⟨w.heap.size, 2, none⟩) hle (.int .i64 0)).setCell (p := ⟨w.heap.size, 3, none⟩) hle (.int .i64 0)).setCell (p := ⟨w.heap.size, 4, none⟩) hle (.int .i64 0)).setCell (p := ⟨w.heap.size, 5, none⟩) hle (.int .i64 0)
  have hz' := heap_setCell_same _ w.heap.size 5 _ _ (.int .i64 0) (heap_setCell_same _ w.heap.size 4 _ _ (.int .i64 0) (heap_setCell_same _ w.heap.size 3 _ _ (.int .i64 0) (heap_setCell_same _ w.heap.size 2 _ _ (.int .i64 0) (heap_setCell_same _ w.heap.size 1 _ _ (.int .i64 0) (heap_setCell_same _ w.heap.size 0 _ _ (.int .i64 0) hz)))))
  simp at hz'
  have Hz' := Lib.hid hz'
  clear h1 hB3 hz zl hz' hz0
  go_wp2
  have yl := fun j => cell_of_row _ w.heap.size j _ _ _ Hz'.out
  exact bodyPost_ret (v := .tuple #[.agg #[.int .i64 0, .int .i64 0, .int .i64 0, .int .i64 0, .int .i64 0, .int .i64 0], .int .i64 12]) (by simp [results, Tryz.results86, go_sem, yl]) rfl ⟨rfl, hB'⟩
end Go.Proofs
end

section
/- insert: CheckDirection, Way, isIn, obstacleOf, meet. -/
namespace Go.Proofs
open Go.RowKit
set_option maxHeartbeats 8000000
set_option maxRecDepth 1000000
/-- The error of a direction. -/
def dirI (d : Cel) : Int := orI (withinI d.1 (-8) 8) (withinI d.2.1 (-8) 8) (withinI d.2.2 1 8)
theorem dir_zero {x y z : Int} (h : dirI (x, y, z) = 0) : (-8 ≤ x ∧ x ≤ 8) ∧ (-8 ≤ y ∧ y ≤ 8) ∧ (1 ≤ z ∧ z ≤ 8) := by
  unfold dirI orI withinI at h
  dsimp only at h
  repeat' split at h
  all_goals first | omega | (exfalso; simp_all; omega)
end Go.Proofs
end
