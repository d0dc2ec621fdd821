import Derived.Test.YtllameiilljelaaBoundG
import Derived.Test.YtllameiilljelaaInsB
section
/- grid.Bound, of a set with cells. -/
namespace Go.Proofs
open Go.RowKit
set_option maxHeartbeats 8000000
set_option maxRecDepth 1000000
theorem Bound_ok (l : List Cel) (h : Cel) (v : Value) (w : World) (hl : Sl w v l) (hh : l[0]? = some h) (hc : chkI l = 0) :
    Calls Try.prog 18 #[v] w fun e w' => e = .returned (.tuple #[boxV (bndK h l l.length), .int .i64 0]) ∧ Below w.heap.size w w' := by
  have la := (chkI_zero.1 hc).1
  have hB0 : Below w.heap.size w (w.alloc (.cells #[.int .i64 0, .int .i64 0, .int .i64 0, .int .i64 0, .int .i64 0, .int .i64 0] 45)) := (Below.refl _ _).alloc (Nat.le_refl _) _
  have h1 := gridCheckG l v _ (hl.below hB0) (by unfold maxLen; omega)
  rw [hc] at h1
  have hb := fun W (hW : Below w.heap.size w W) => bound_ok l h v W (hl.below hW) hh (by omega)
  have hpos : 0 < l.length := (List.getElem?_eq_some_iff.1 hh).1
  obtain ⟨A, cap, rfl⟩ := hl.form
  have hn0 : (((l.length : Nat) : Int) == 0) = false := by rw [beq_eq_false_iff_ne]; omega
  generalize bndK h l l.length = B at hb ⊢
  obtain ⟨⟨lx, ly, lz⟩, ⟨ux, uy, uz⟩⟩ := B
  unfold boxV at hb ⊢
  dsimp only at hb ⊢
  have hz0 : (w.alloc (.cells #[.int .i64 0, .int .i64 0, .int .i64 0, .int .i64 0, .int .i64 0, .int .i64 0] 45)).heap[w.heap.size]? = some (.cells #[.int .i64 0, .int .i64 0, .int .i64 0, .int .i64 0, .int .i64 0, .int .i64 0] 45 (0, 0)) := heap_alloc_new w _
  have hlt : w.heap.size < (w.alloc (.cells #[.int .i64 0, .int .i64 0, .int .i64 0, .int .i64 0, .int .i64 0, .int .i64 0] 45)).heap.size := by simp
  clear hl hh hc la
  go_enter Try.func18, Try.ntmps18
  generalize l.length = n at h1 hb hn0 hpos ⊢
  obtain ⟨W, hW⟩ : ∃ W, W = w.alloc (.cells #[.int .i64 0, .int .i64 0, .int .i64 0, .int .i64 0, .int .i64 0, .int .i64 0] 45) := ⟨_, rfl⟩
  rw [← hW] at h1 hB0 hz0 hlt
  go_wp2_with fail
  rw [← hW]
  clear hW
  refine h1.mono ?_
  rintro e w2 ⟨rfl, hB2⟩
  have hB02 := hB0.trans (hB2.mono hB0.size)
  have hb2 := hb w2 hB02
  have hlt2 : w.heap.size < w2.heap.size := Nat.lt_of_lt_of_le hlt hB2.size
  have hz2 := (hB2.block _ hlt).trans hz0
  clear h1 hb hB0 hB2 hz0
  go_wp2_with fail
  refine hb2.mono ?_
  rintro e w3 ⟨rfl, hB3⟩
  have hB03 := hB02.trans (hB3.mono hB02.size)
  have hz := (hB3.block _ hlt2).trans hz2
  have zl := fun j => cell_of_row w3 w.heap.size j _ _ _ hz
  have z0 := zl 0
  have z1 := zl 1
  have z2 := zl 2
  have z3 := zl 3
  have z4 := zl 4
  have z5 := zl 5
  simp at z0 z1 z2 z3 z4 z5
  have fz := fun j => frozen_of_row w3 w.heap.size j _ _ hz
  have hle := Nat.le_refl w.heap.size
  have hB' := (((((hB03.setCell (p := ⟨w.heap.size, 0, none⟩) hle (.int .i64 lx)).setCell (p := ⟨w.heap.size, 1, none⟩) hle (.int .i64 ly)).setCell (p := ⟨w.heap.size, 2, none⟩) hle (.int .i64 lz)).setCell (p := ⟨w.heap.size, 3, none⟩) hle (.int .i64 ux)).setCell (p := ⟨w.heap.size, 4, none⟩) hle (.int .i64 uy)).setCell (p := ⟨w.heap.size, 5, none⟩) hle (.int .i64 uz)
  have hz' := heap_setCell_same _ w.heap.size 5 _ _ (.int .i64 uz) (heap_setCell_same _ w.heap.size 4 _ _ (.int .i64 uy) (heap_setCell_same _ w.heap.size 3 _ _ (.int .i64 ux) (heap_setCell_same _ w.heap.size 2 _ _ (.int .i64 lz) (heap_setCell_same _ w.heap.size 1 _ _ (.int .i64 ly) (heap_setCell_same _ w.heap.size 0 _ _ (.int .i64 lx) hz)))))
  simp at hz'
  have Hz' := Lib.hid hz'
  clear hb2 hB3 hz2 hz zl hz'
  go_wp2
  have yl := fun j => cell_of_row _ w.heap.size j _ _ _ Hz'.out
  exact bodyPost_ret (v := .tuple #[.agg #[.int .i64 lx, .int .i64 ly, .int .i64 lz, .int .i64 ux, .int .i64 uy, .int .i64 uz], .int .i64 0]) (by simp [results, Try.results18, go_sem, yl]) rfl ⟨rfl, hB'⟩
end Go.Proofs
end

section
/- The errors of grid.Bound. -/
namespace Go.Proofs
open Go.RowKit
set_option maxHeartbeats 8000000
set_option maxRecDepth 1000000
def boxO : Cel × Cel := ((0, 0, 0), (0, 0, 0))
theorem boundE (l : List Cel) (v : Value) (w : World) (hl : Sl w v l) (hn : l.length ≤ maxLen) (r : Int) (hc : chkI l = r) (h0 : r ≠ 0) :
    Calls Try.prog 18 #[v] w fun e w' => e = .returned (.tuple #[boxV boxO, .int .i64 r]) ∧ Below w.heap.size w w' := by
  have hB0 : Below w.heap.size w (w.alloc (.cells #[.int .i64 0, .int .i64 0, .int .i64 0, .int .i64 0, .int .i64 0, .int .i64 0] 45)) := (Below.refl _ _).alloc (Nat.le_refl _) _
  have h1 := gridCheckG l v _ (hl.below hB0) hn
  rw [hc] at h1
  have hne : (r != 0) = true := by rw [bne_iff_ne]; exact h0
  have hz0 : (w.alloc (.cells #[.int .i64 0, .int .i64 0, .int .i64 0, .int .i64 0, .int .i64 0, .int .i64 0] 45)).heap[w.heap.size]? = some (.cells #[.int .i64 0, .int .i64 0, .int .i64 0, .int .i64 0, .int .i64 0, .int .i64 0] 45 (0, 0)) := heap_alloc_new w _
  have hlt : w.heap.size < (w.alloc (.cells #[.int .i64 0, .int .i64 0, .int .i64 0, .int .i64 0, .int .i64 0, .int .i64 0] 45)).heap.size := by simp
  unfold boxV boxO
  dsimp only
  clear hl hc hn h0
  go_enter Try.func18, Try.ntmps18
  obtain ⟨W, hW⟩ : ∃ W, W = w.alloc (.cells #[.int .i64 0, .int .i64 0, .int .i64 0, .int .i64 0, .int .i64 0, .int .i64 0] 45) := ⟨_, rfl⟩
  rw [← hW] at h1 hB0 hz0 hlt
  go_wp2_with fail
  rw [← hW]
  clear hW
  refine h1.mono ?_
  rintro e w3 ⟨rfl, hB3⟩
  have hB03 := hB0.trans (hB3.mono hB0.size)
  have hz := (hB3.block _ hlt).trans hz0
  have zl := fun j => cell_of_row w3 w.heap.size j _ _ _ hz
  have z0 := zl 0
  have z1 := zl 1
  have z2 := zl 2
  have z3 := zl 3
  have z4 := zl 4
  have z5 := zl 5
  simp at z0 z1 z2 z3 z4 z5
  have fz := fun j => frozen_of_row w3 w.heap.size j _ _ hz
  have hle := Nat.le_refl w.heap.size
  have hB' := (((((hB03.setCell (p := ⟨w.heap.size, 0, none⟩) hle (.int .i64 0)).setCell (p := ⟨w.heap.size, 1, none⟩) hle (.int .i64 0)).setCell (p := ⟨w.heap.size, 2, none⟩) hle (.int .i64 0)).setCell (p := ⟨w.heap.size, 3, none⟩) hle (.int .i64 0)).setCell (p := ⟨w.heap.size, 4, none⟩) hle (.int .i64 0)).setCell (p := ⟨w.heap.size, 5, none⟩) hle (.int .i64 0)
  have hz' := heap_setCell_same _ w.heap.size 5 _ _ (.int .i64 0) (heap_setCell_same _ w.heap.size 4 _ _ (.int .i64 0) (heap_setCell_same _ w.heap.size 3 _ _ (.int .i64 0) (heap_setCell_same _ w.heap.size 2 _ _ (.int .i64 0) (heap_setCell_same _ w.heap.size 1 _ _ (.int .i64 0) (heap_setCell_same _ w.heap.size 0 _ _ (.int .i64 0) hz)))))
  simp at hz'
  have Hz' := Lib.hid hz'
  clear h1 hB3 hz zl hz' hz0
  go_wp2
  have yl := fun j => cell_of_row _ w.heap.size j _ _ _ Hz'.out
  exact bodyPost_ret (v := .tuple #[.agg #[.int .i64 0, .int .i64 0, .int .i64 0, .int .i64 0, .int .i64 0, .int .i64 0], .int .i64 r]) (by simp [results, Try.results18, go_sem, yl]) rfl ⟨rfl, hB'⟩
theorem bound0 (v : Value) (w : World) (hl : Sl w v []) :
    Calls Try.prog 18 #[v] w fun e w' => e = .returned (.tuple #[boxV boxO, .int .i64 12]) ∧ Below w.heap.size w w' := by
  have hB0 : Below w.heap.size w (w.alloc (.cells #[.int .i64 0, .int .i64 0, .int .i64 0, .int .i64 0, .int .i64 0, .int .i64 0] 45)) := (Below.refl _ _).alloc (Nat.le_refl _) _
  have h1 := gridCheckG [] v _ (hl.below hB0) (by simp)
  have hc : chkI [] = 0 := by unfold chkI chkFrom; rfl
  rw [hc] at h1
  obtain ⟨A, cap, rfl⟩ := hl.form
  have hz0 : (w.alloc (.cells #[.int .i64 0, .int .i64 0, .int .i64 0, .int .i64 0, .int .i64 0, .int .i64 0] 45)).heap[w.heap.size]? = some (.cells #[.int .i64 0, .int .i64 0, .int .i64 0, .int .i64 0, .int .i64 0, .int .i64 0] 45 (0, 0)) := heap_alloc_new w _
  have hlt : w.heap.size < (w.alloc (.cells #[.int .i64 0, .int .i64 0, .int .i64 0, .int .i64 0, .int .i64 0, .int .i64 0] 45)).heap.size := by simp
  unfold boxV boxO
  dsimp only
  clear hl hc
  go_enter Try.func18, Try.ntmps18
  obtain ⟨W, hW⟩ : ∃ W, W = w.alloc (.cells #[.int .i64 0, .int .i64 0, .int .i64 0, .int .i64 0, .int .i64 0, .int .i64 0] 45) := ⟨_, rfl⟩
  rw [← hW] at h1 hB0 hz0 hlt
  go_wp2_with fail
  rw [← hW]
  clear hW
  refine h1.mono ?_
  rintro e w3 ⟨rfl, hB3⟩
  have hB03 := hB0.trans (hB3.mono hB0.size)
  have hz := (hB3.block _ hlt).trans hz0
  have zl := fun j => cell_of_row w3 w.heap.size j _ _ _ hz
  have z0 := zl 0
  have z1 := zl 1
  have z2 := zl 2
  have z3 := zl 3
  have z4 := zl 4
  have z5 := zl 5
  simp at z0 z1 z2 z3 z4 z5
  have fz := fun j => frozen_of_row w3 w.heap.size j _ _ hz
  have hle := Nat.le_refl w.heap.size
  have hB' := (((((hB03.setCell (p := ⟨w.heap.size, 0, none⟩) hle (.int .i64 0)).setCell (p := ⟨w.heap.size, 1, none⟩) hle (.int .i64 0)).setCell (p := ⟨w.heap.size, 2, none⟩) hle (.int .i64 0)).setCell (p := ⟨w.heap.size, 3, none⟩) hle (.int .i64 0)).setCell (p := ⟨w.heap.size, 4, none⟩) hle (.int .i64 0)).setCell (p := ⟨w.heap.size, 5, none⟩) hle (.int .i64 0)
  have hz' := heap_setCell_same _ w.heap.size 5 _ _ (.int .i64 0) (heap_setCell_same _ w.heap.size 4 _ _ (.int .i64 0) (heap_setCell_same _ w.heap.size 3 _ _ (.int .i64 0) (heap_setCell_same _ w.heap.size 2 _ _ (.int .i64 0) (heap_setCell_same _ w.heap.size 1 _ _ (.int .i64 0) (heap_setCell_same _ w.heap.size 0 _ _ (.int .i64 0) hz)))))
  simp at hz'
  have Hz' := Lib.hid hz'
  clear h1 hB3 hz zl hz' hz0
  go_wp2
  have yl := fun j => cell_of_row _ w.heap.size j _ _ _ Hz'.out
  exact bodyPost_ret (v := .tuple #[.agg #[.int .i64 0, .int .i64 0, .int .i64 0, .int .i64 0, .int .i64 0, .int .i64 0], .int .i64 12]) (by simp [results, Try.results18, go_sem, yl]) rfl ⟨rfl, hB'⟩
end Go.Proofs
end

section
/- insert: CheckDirection, Way, isIn, obstacleOf, meet. -/
namespace Go.Proofs
open Go.RowKit
set_option maxHeartbeats 8000000
set_option maxRecDepth 1000000
/-- The error of a direction. -/
def dirI (d : Cel) : Int := orI (withinI d.1 (-8) 8) (withinI d.2.1 (-8) 8) (withinI d.2.2 1 8)
theorem checkDir_ok (x y z : Int) (w : World) :
    Calls Try.prog 23 #[.agg #[.int .i64 x, .int .i64 y, .int .i64 z]] w fun e w' => e = .returned (.int .i64 (dirI (x, y, z))) ∧ Below w.heap.size w w' := by
  unfold dirI
  dsimp only
  have hc1 := fun W => insWithin_ok x (-8) 8 W
  have hc2 := fun W => insWithin_ok y (-8) 8 W
  have hc3 := fun W => insWithin_ok z 1 8 W
  generalize withinI x (-8) 8 = r1 at hc1 ⊢
  generalize withinI y (-8) 8 = r2 at hc2 ⊢
  generalize withinI z 1 8 = r3 at hc3 ⊢
  have ho := fun blk W => insFirst3 r1 r2 r3 blk 3 W
  obtain ⟨W0, hW⟩ : ∃ W0, W0 = (w.alloc (.cells #[.int .i64 x, .int .i64 y, .int .i64 z] 26)) := ⟨_, rfl⟩
  have hB0 : Below w.heap.size w W0 := by subst hW; exact (Below.refl _ _).alloc (Nat.le_refl _) _
  have c0 : W0.cell? ⟨w.heap.size, 0, none⟩ = some (.int .i64 x) := by subst hW; go_simp
  have c1 : W0.cell? ⟨w.heap.size, 1, none⟩ = some (.int .i64 y) := by subst hW; go_simp
  have c2 : W0.cell? ⟨w.heap.size, 2, none⟩ = some (.int .i64 z) := by subst hW; go_simp
  have hky : W0.drew.cell? ⟨w.heap.size, 0, none⟩ = some (.int .i64 x) ∧ W0.drew.cell? ⟨w.heap.size, 1, none⟩ = some (.int .i64 y) ∧ W0.drew.cell? ⟨w.heap.size, 2, none⟩ = some (.int .i64 z) := ⟨c0, c1, c2⟩
  have hBF := hB0.drew.alloc hB0.size (.cells #[.int .i64 r1, .int .i64 r2, .int .i64 r3] 30)
  go_enter Try.func23, Try.ntmps23
  go_wp2_with fail
  rw [← hW]
  clear hW
  go_region_held3 (fun w' => w'.cell? ⟨w.heap.size, 0, none⟩ = some (.int .i64 x) ∧ w'.cell? ⟨w.heap.size, 1, none⟩ = some (.int .i64 y) ∧ w'.cell? ⟨w.heap.size, 2, none⟩ = some (.int .i64 z)) (first | exact hky | go_keep)
    (first
      | (go_at_call 26; (first | with_reducible refine (hc1 _).mono ?_ | with_reducible refine (hc2 _).mono ?_ | with_reducible refine (hc3 _).mono ?_); rintro e w4 ⟨rfl, rfl⟩)
      | (go_at_call 21; refine (ho _ _ ?_ ?_ ?_).mono ?_; (go_simp); (go_simp); (go_simp); rintro e w5 ⟨rfl, rfl⟩))
  rename_i hHeld
  clear hHeld
  go_wp2
  go_ret
  exact ⟨rfl, hBF⟩
theorem dir_zero {x y z : Int} (h : dirI (x, y, z) = 0) : (-8 ≤ x ∧ x ≤ 8) ∧ (-8 ≤ y ∧ y ≤ 8) ∧ (1 ≤ z ∧ z ≤ 8) := by
  unfold dirI orI withinI at h
  dsimp only at h
  repeat' split at h
  all_goals first | omega | (exfalso; simp_all; omega)
theorem Way_ok (x y z k : Int) (hd : dirI (x, y, z) = 0) (hk : 0 ≤ k ∧ k ≤ 2000) (w : World) :
    Calls Try.prog 8 #[.agg #[.int .i64 x, .int .i64 y, .int .i64 z], .int .i64 k] w fun e w' => e = .returned (.tuple #[.agg #[.int .i64 (k * x / z), .int .i64 (k * y / z), .int .i64 k], .int .i64 0]) ∧ Below w.heap.size w w' := by
  obtain ⟨hx, hy, hz⟩ := dir_zero hd
  have hcd := fun W => checkDir_ok x y z W
  rw [hd] at hcd
  have hwi := fun W => insWithin_ok k 0 2000 W
  rw [show withinI k 0 2000 = 0 by unfold withinI; rw [if_neg (by omega)]] at hwi
  have ho := fun blk W => insFirst2 0 0 blk 2 W
  rw [show orI 0 0 0 = 0 by decide] at ho
  have hway := fun W => way_ok x y z k hx hy hz (by omega) W
  clear hd hx hy hz hk
  obtain ⟨W0, hW⟩ : ∃ W0, W0 = (w.alloc (.cells #[.int .i64 x, .int .i64 y, .int .i64 z] 26)).alloc (.cells #[.int .i64 0, .int .i64 0, .int .i64 0] 26) := ⟨_, rfl⟩
  have hB0 : Below w.heap.size w W0 := by subst hW; exact ((Below.refl _ _).alloc (Nat.le_refl _) _).alloc (by simp) _
  have hsz : W0.heap.size = w.heap.size + 1 + 1 := by subst hW; simp
  have c0 : W0.cell? ⟨w.heap.size, 0, none⟩ = some (.int .i64 x) := by subst hW; go_simp
  have c1 : W0.cell? ⟨w.heap.size, 1, none⟩ = some (.int .i64 y) := by subst hW; go_simp
  have c2 : W0.cell? ⟨w.heap.size, 2, none⟩ = some (.int .i64 z) := by subst hW; go_simp
  have hr0 : W0.heap[w.heap.size + 1]? = some (.cells #[.int .i64 0, .int .i64 0, .int .i64 0] 26 (0, 0)) := by
    have := heap_alloc_new (w.alloc (.cells #[.int .i64 x, .int .i64 y, .int .i64 z] 26)) (.cells #[.int .i64 0, .int .i64 0, .int .i64 0] 26)
    rw [← hW] at this
    simpa using this
  have kk : ∀ V, Below W0.heap.size W0 V → V.cell? ⟨w.heap.size, 0, none⟩ = some (.int .i64 x) ∧ V.cell? ⟨w.heap.size, 1, none⟩ = some (.int .i64 y) ∧ V.cell? ⟨w.heap.size, 2, none⟩ = some (.int .i64 z) := fun V h =>
    ⟨(h.cell (p := ⟨w.heap.size, 0, none⟩) (by show w.heap.size < _; omega)).trans c0, (h.cell (p := ⟨w.heap.size, 1, none⟩) (by show w.heap.size < _; omega)).trans c1, (h.cell (p := ⟨w.heap.size, 2, none⟩) (by show w.heap.size < _; omega)).trans c2⟩
  have hR : ∀ V, Below W0.heap.size W0 V → V.heap[w.heap.size + 1]? = some (.cells #[.int .i64 0, .int .i64 0, .int .i64 0] 26 (0, 0)) := fun V h => (h.block _ (by omega)).trans hr0
  go_enter Try.func8, Try.ntmps8
  go_wp2_with fail
  rw [← hW]
  have q := hcd W0
  clear hW hr0 hcd
  refine q.mono ?_
  rintro e w2 ⟨rfl, hX⟩
  clear q c0 c1 c2
  obtain ⟨d0, d1, d2⟩ := kk _ hX
  go_wp2_with (first
    | (go_at_call 26; refine (hwi _).mono ?_; rintro e w4 ⟨rfl, rfl⟩)
    | (go_at_call 21; refine (ho _ _ ?_ ?_).mono ?_; (go_simp); (go_simp); rintro e w5 ⟨rfl, rfl⟩; have hXa := hX.alloc hX.size (.cells #[.int .i64 0, .int .i64 0] 30); obtain ⟨e0, e1, e2⟩ := kk _ hXa)
    | (go_at_call 27; refine (hway _).mono ?_; rintro e w6 ⟨rfl, hB6⟩; have hXb := hXa.trans (hB6.mono hXa.size); have hrow := hR _ hXb; obtain ⟨⟨s0, s1, s2⟩, g0, g1, g2⟩ := three_cells hrow))
  have hF := three_stored (d0 := .int .i64 (k * x / z)) (d1 := .int .i64 (k * y / z)) (d2 := .int .i64 k) hrow
  have hle : w.heap.size ≤ w.heap.size + 1 := by omega
  have hBF := (((hB0.trans (hXb.mono hB0.size)).setCell (p := ⟨w.heap.size + 1, 0, none⟩) hle (.int .i64 (k * x / z))).setCell (p := ⟨w.heap.size + 1, 1, none⟩) hle (.int .i64 (k * y / z))).setCell (p := ⟨w.heap.size + 1, 2, none⟩) hle (.int .i64 k)
  have yl := fun j => cell_of_row _ (w.heap.size + 1) j _ _ _ hF
  exact bodyPost_ret (v := .tuple #[.agg #[.int .i64 (k * x / z), .int .i64 (k * y / z), .int .i64 k], .int .i64 0]) (by simp [results, Try.results8, go_sem, yl]) rfl ⟨rfl, hBF⟩
end Go.Proofs
end
