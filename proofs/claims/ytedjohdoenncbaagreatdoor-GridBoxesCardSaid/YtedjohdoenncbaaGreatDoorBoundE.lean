import Derived.Test.YtedjohdoenncbaaGreatDoorFewR
import Derived.Test.YtedjohdoenncbaaGreatDoorCheckG
import Derived.Deep.RegionHeld3
section
/- grid.bound and grid.Bound. -/
namespace Go.Proofs
open Go.RowKit
set_option maxHeartbeats 8000000
set_option maxRecDepth 1000000
theorem bound_ok (l : List Cel) (h : Cel) (v : Value) (w : World) (hl : Sl w v l) (hh : l[0]? = some h) (hn : l.length ≤ 1000000) :
    Calls Tryz.prog 84 #[v] w fun e w' => e = .returned (boxV (bndK h l l.length)) ∧ Below w.heap.size w w' := by
  have hpos : 0 < l.length := (List.getElem?_eq_some_iff.1 hh).1
  obtain ⟨A, cap, rfl⟩ := hl.form
  obtain ⟨b, o, x, y, z, rfl, -, hb, hc, r0, r1, r2⟩ := hl.cells hpos
  obtain rfl : h = (x, y, z) := by rw [hh] at hc; exact Option.some.inj hc
  have hn0 : (0 : Int) < l.length := by omega
  have hn1 : (0 : Int) ≤ 0 := Int.le_refl _
  simp only [Nat.zero_mul, Nat.add_zero] at r0 r1 r2
  have hl' := hl
  clear hl
  have hl := Lib.hid hl'
  clear hl'
  go_enter Tryz.func84, Tryz.ntmps84
  go_wp2
  obtain ⟨W, hW⟩ : ∃ W, W = w.alloc (.cells #[.int .i64 0, .int .i64 0, .int .i64 0, .int .i64 0, .int .i64 0, .int .i64 0] 40) := ⟨_, rfl⟩
  have hBW : Below w.heap.size w W := by subst hW; exact (Below.refl _ _).alloc (Nat.le_refl _) _
  have hs : w.heap.size < W.heap.size := by subst hW; simp
  have hZ0 : W.heap[w.heap.size]? = some (.cells #[.int .i64 0, .int .i64 0, .int .i64 0, .int .i64 0, .int .i64 0, .int .i64 0] 40 (0, 0)) := by subst hW; exact heap_alloc_new w _
  have R0 : W.cell? ⟨b, o, none⟩ = some (.int .i64 x) := (hBW.cell (p := ⟨b, o, none⟩) hb).trans r0
  have R1 : W.cell? ⟨b, o + 1, none⟩ = some (.int .i64 y) := (hBW.cell (p := ⟨b, o + 1, none⟩) hb).trans r1
  have R2 : W.cell? ⟨b, o + 2, none⟩ = some (.int .i64 z) := (hBW.cell (p := ⟨b, o + 2, none⟩) hb).trans r2
  have hbW : b < W.heap.size := Nat.lt_trans hb hs
  rw [← hW]
  clear hW r0 r1 r2
  go_region_held3 (fun w' => w'.cell? ⟨b, o, none⟩ = some (.int .i64 x) ∧ w'.cell? ⟨b, o + 1, none⟩ = some (.int .i64 y) ∧ w'.cell? ⟨b, o + 2, none⟩ = some (.int .i64 z)) (first | exact ⟨R0, R1, R2⟩ | go_keep) (fail)
  rename_i hHeld
  clear hHeld
  obtain ⟨V, hV⟩ : ∃ V, V = (W.alloc (.cells #[.int .i64 x, .int .i64 y, .int .i64 z, .int .i64 x, .int .i64 y, .int .i64 z] 40)).drew := ⟨_, rfl⟩
  have hBV : Below w.heap.size w V := by subst hV; exact (hBW.alloc hBW.size _).drew
  have hG : V.heap[W.heap.size]? = some (.cells #[.int .i64 x, .int .i64 y, .int .i64 z, .int .i64 x, .int .i64 y, .int .i64 z] 40 (0, 0)) := by subst hV; exact heap_alloc_new W _
  rw [← hV]
  have hZV : V.heap[w.heap.size]? = some (.cells #[.int .i64 0, .int .i64 0, .int .i64 0, .int .i64 0, .int .i64 0, .int .i64 0] 40 (0, 0)) := by subst hV; exact (Below.heap_alloc W _ _ hs).trans hZ0
  have hGw : w.heap.size ≤ W.heap.size := Nat.le_of_lt hs
  have hGn : w.heap.size ≠ W.heap.size := Nat.ne_of_lt hs
  have hGl : W.heap.size < V.heap.size := by subst hV; simp
  clear hV R0 R1 R2 hs hBW hbW hZ0
  generalize W.heap.size = G at hG hGw hGn hGl ⊢
  go_wp2
  go_loopw [15] (fun i wr => ∃ (k : Nat) (B : Cel × Cel), k ≤ l.length ∧ i = .int .i64 k ∧ B = bndK (x, y, z) l k ∧ wr.heap[G]? = some (.cells #[.int .i64 B.1.1, .int .i64 B.1.2.1, .int .i64 B.1.2.2, .int .i64 B.2.1, .int .i64 B.2.2.1, .int .i64 B.2.2.2] 40 (0, 0)) ∧ wr.heap[w.heap.size]? = some (.cells #[.int .i64 0, .int .i64 0, .int .i64 0, .int .i64 0, .int .i64 0, .int .i64 0] 40 (0, 0)) ∧ Below w.heap.size w wr ∧ G < wr.heap.size) (fun i _ => l.length - (intOf i).toNat)
  case atStart => exact ⟨0, ((x, y, z), (x, y, z)), Nat.zero_le _, rfl, rfl, hG, hZV, hBV, hGl⟩
  case round =>
    obtain ⟨k, ⟨⟨lx, ly, lz⟩, ⟨ux, uy, uz⟩⟩, hk, rfl, hBk, hg, hz, hBel, hGl1⟩ := hrel
    dsimp only at hg
    rename World => w1
    rcases Nat.lt_or_eq_of_le hk with hkn | rfl
    · obtain ⟨b', o', x', y', z', e', -, hb', hc', r0, r1, r2⟩ := hl.out.cells hkn
      obtain ⟨rfl, rfl⟩ : b' = b ∧ o' = o := by injection e' with e'; injection e' with e1 e2; exact ⟨e1.symm, e2.symm⟩
      have hst := bndK_succ (h := (x, y, z)) hc'
      rw [← hBk] at hst
      have R0 := (hBel.cell (p := ⟨b', _, none⟩) hb).trans r0
      have R1 := (hBel.cell (p := ⟨b', _, none⟩) hb).trans r1
      have R2 := (hBel.cell (p := ⟨b', _, none⟩) hb).trans r2
      have hk0 : (0 : Int) ≤ k := by omega
      have hkl : (k : Int) < l.length := by omega
      have Hst := Lib.hid hst
      obtain ⟨w2, hw2⟩ : ∃ w2, w2 = w1.alloc (.cells #[.int .i64 x', .int .i64 y', .int .i64 z'] 38) := ⟨_, rfl⟩
      have hB12 : Below w1.heap.size w1 w2 := by subst hw2; exact (Below.refl _ _).alloc (Nat.le_refl _) _
      have d0 : w2.cell? ⟨w1.heap.size, 0, none⟩ = some (.int .i64 x') := by subst hw2; go_simp
      have d1 : w2.cell? ⟨w1.heap.size, 1, none⟩ = some (.int .i64 y') := by subst hw2; go_simp
      have d2 : w2.cell? ⟨w1.heap.size, 2, none⟩ = some (.int .i64 z') := by subst hw2; go_simp
      have hg2 : w2.heap[G]? = _ := (hB12.block G hGl1).trans hg
      have hz2 : w2.heap[w.heap.size]? = _ := (hB12.block _ (by have := hBel.size; omega)).trans hz
      have hB2 := hBel.trans (hB12.mono hBel.size)
      have hGne : G ≠ w1.heap.size := by omega
      have hG2 : G < w2.heap.size := Nat.lt_of_lt_of_le hGl1 hB12.size
      have cl := fun j => cell_of_row w2 G j _ _ _ hg2
      have c0 := cl 0
      have c1 := cl 1
      have c2 := cl 2
      have c3 := cl 3
      have c4 := cl 4
      have c5 := cl 5
      have fz := fun j => frozen_of_row w2 G j _ _ hg2
      simp at c0 c1 c2 c3 c4 c5
      clear hc hh hG hZV hBV r0 r1 r2 e' cl hst hBk hg hz hB12 hBel hc' hb' hl
      go_upto_region 5 with fail
      rw [← hw2]
      clear hw2 R0 R1 R2
      have hg3 := heap_setCell_same _ G 2 _ _ (.int .i64 (min lz z')) (heap_setCell_same _ G 1 _ _ (.int .i64 (min ly y')) (heap_setCell_same _ G 0 _ _ (.int .i64 (min lx x')) hg2))
      have hz3 := (heap_setCell_other _ ⟨G, 2, none⟩ w.heap.size (.int .i64 (min lz z')) hGn).trans ((heap_setCell_other _ ⟨G, 1, none⟩ w.heap.size (.int .i64 (min ly y')) hGn).trans ((heap_setCell_other _ ⟨G, 0, none⟩ w.heap.size (.int .i64 (min lx x')) hGn).trans hz2))
      have hB3 := ((hB2.setCell (p := ⟨G, 0, none⟩) hGw (.int .i64 (min lx x'))).setCell (p := ⟨G, 1, none⟩) hGw (.int .i64 (min ly y'))).setCell (p := ⟨G, 2, none⟩) hGw (.int .i64 (min lz z'))
      have hG3 : G < (((w2.setCell ⟨G, 0, none⟩ (.int .i64 (min lx x'))).setCell ⟨G, 1, none⟩ (.int .i64 (min ly y'))).setCell ⟨G, 2, none⟩ (.int .i64 (min lz z'))).heap.size := by simpa [World.setCell] using hG2
      have e0 : (((w2.setCell ⟨G, 0, none⟩ (.int .i64 (min lx x'))).setCell ⟨G, 1, none⟩ (.int .i64 (min ly y'))).setCell ⟨G, 2, none⟩ (.int .i64 (min lz z'))).cell? ⟨w1.heap.size, 0, none⟩ = some (.int .i64 x') := by go_simp
      have e1 : (((w2.setCell ⟨G, 0, none⟩ (.int .i64 (min lx x'))).setCell ⟨G, 1, none⟩ (.int .i64 (min ly y'))).setCell ⟨G, 2, none⟩ (.int .i64 (min lz z'))).cell? ⟨w1.heap.size, 1, none⟩ = some (.int .i64 y') := by go_simp
      have e2 : (((w2.setCell ⟨G, 0, none⟩ (.int .i64 (min lx x'))).setCell ⟨G, 1, none⟩ (.int .i64 (min ly y'))).setCell ⟨G, 2, none⟩ (.int .i64 (min lz z'))).cell? ⟨w1.heap.size, 2, none⟩ = some (.int .i64 z') := by go_simp
      simp at hg3
      clear hg2 hz2 hB2
      go_upto_region 6 with fail
      generalize ((w2.setCell ⟨G, 0, none⟩ (.int .i64 (min lx x'))).setCell ⟨G, 1, none⟩ (.int .i64 (min ly y'))).setCell ⟨G, 2, none⟩ (.int .i64 (min lz z')) = w3 at hg3 hz3 hB3 hG3 e0 e1 e2 ⊢
      clear fz c0 c1 c2 c3 c4 c5 d0 d1 d2 hG2
      have cl := fun j => cell_of_row w3 G j _ _ _ hg3
      have c3 := cl 3
      have c4 := cl 4
      have c5 := cl 5
      have fz := fun j => frozen_of_row w3 G j _ _ hg3
      simp at c3 c4 c5
      clear cl
      have hg4 := heap_setCell_same _ G 5 _ _ (.int .i64 (max uz z')) (heap_setCell_same _ G 4 _ _ (.int .i64 (max uy y')) (heap_setCell_same _ G 3 _ _ (.int .i64 (max ux x')) hg3))
      have hz4 := (heap_setCell_other _ ⟨G, 5, none⟩ w.heap.size (.int .i64 (max uz z')) hGn).trans ((heap_setCell_other _ ⟨G, 4, none⟩ w.heap.size (.int .i64 (max uy y')) hGn).trans ((heap_setCell_other _ ⟨G, 3, none⟩ w.heap.size (.int .i64 (max ux x')) hGn).trans hz3))
      have hB4 := ((hB3.setCell (p := ⟨G, 3, none⟩) hGw (.int .i64 (max ux x'))).setCell (p := ⟨G, 4, none⟩) hGw (.int .i64 (max uy y'))).setCell (p := ⟨G, 5, none⟩) hGw (.int .i64 (max uz z'))
      simp at hg4
      have Hg4 := Lib.hid hg4
      have Hz4 := Lib.hid hz4
      clear hg3 hz3 hB3 hg4 hz4
      go_wp2
      exact ⟨⟨k + 1, ((min lx x', min ly y', min lz z'), (max ux x', max uy y', max uz z')), hkn, rfl, Hst.out.symm, Hg4.out, Hz4.out, hB4, by simpa [World.setCell] using hG3⟩, by simp [intOf]; omega⟩
    · have cl := fun j => cell_of_row w1 G j _ _ _ hg
      have c0 := cl 0
      have c1 := cl 1
      have c2 := cl 2
      have c3 := cl 3
      have c4 := cl 4
      have c5 := cl 5
      simp at c0 c1 c2 c3 c4 c5
      have zl := fun j => cell_of_row w1 w.heap.size j _ _ _ hz
      have z0 := zl 0
      have z1 := zl 1
      have z2 := zl 2
      have z3 := zl 3
      have z4 := zl 4
      have z5 := zl 5
      simp at z0 z1 z2 z3 z4 z5
      have fz := fun j => frozen_of_row w1 w.heap.size j _ _ hz
      have hz' := heap_setCell_same _ w.heap.size 5 _ _ (.int .i64 uz) (heap_setCell_same _ w.heap.size 4 _ _ (.int .i64 uy) (heap_setCell_same _ w.heap.size 3 _ _ (.int .i64 ux) (heap_setCell_same _ w.heap.size 2 _ _ (.int .i64 lz) (heap_setCell_same _ w.heap.size 1 _ _ (.int .i64 ly) (heap_setCell_same _ w.heap.size 0 _ _ (.int .i64 lx) hz)))))
      simp at hz'
      have hle := Nat.le_refl w.heap.size
      have hB' := (((((hBel.setCell (p := ⟨w.heap.size, 0, none⟩) hle (.int .i64 lx)).setCell (p := ⟨w.heap.size, 1, none⟩) hle (.int .i64 ly)).setCell (p := ⟨w.heap.size, 2, none⟩) hle (.int .i64 lz)).setCell (p := ⟨w.heap.size, 3, none⟩) hle (.int .i64 ux)).setCell (p := ⟨w.heap.size, 4, none⟩) hle (.int .i64 uy)).setCell (p := ⟨w.heap.size, 5, none⟩) hle (.int .i64 uz)
      have HBk := Lib.hid hBk
      have Hz' := Lib.hid hz'
      clear hl hc hh hG hZV hBV cl hBk zl hz hz' hg
      go_wp2
      have hfin := HBk.out
      refine bodyPost_ret (results_cell_row rfl _ _ _ 40 #[.int .i64 lx, .int .i64 ly, .int .i64 lz, .int .i64 ux, .int .i64 uy, .int .i64 uz] (0, 0) _ rfl Hz'.out Tryz.underlying40 rfl (by kernel_rfl)) rfl ?_
      refine ⟨?_, hB'⟩
      rw [← hfin]
      rfl
end Go.Proofs
end

section
/- grid.Bound, of a set with cells. -/
namespace Go.Proofs
open Go.RowKit
set_option maxHeartbeats 8000000
set_option maxRecDepth 1000000
theorem Bound_ok (l : List Cel) (h : Cel) (v : Value) (w : World) (hl : Sl w v l) (hh : l[0]? = some h) (hc : chkI l = 0) :
    Calls Tryz.prog 25 #[v] w fun e w' => e = .returned (.tuple #[boxV (bndK h l l.length), .int .i64 0]) ∧ Below w.heap.size w w' := by
  have la := (chkI_zero.1 hc).1
  have hB0 : Below w.heap.size w (w.alloc (.cells #[.int .i64 0, .int .i64 0, .int .i64 0, .int .i64 0, .int .i64 0, .int .i64 0] 40)) := (Below.refl _ _).alloc (Nat.le_refl _) _
  have h1 := gridCheckG l v _ (hl.below hB0) (by unfold maxLen; omega)
  rw [hc] at h1
  have hb := fun W (hW : Below w.heap.size w W) => bound_ok l h v W (hl.below hW) hh (by omega)
  have hpos : 0 < l.length := (List.getElem?_eq_some_iff.1 hh).1
  obtain ⟨A, cap, rfl⟩ := hl.form
  have hn0 : (((l.length : Nat) : Int) == 0) = false := by rw [beq_eq_false_iff_ne]; omega
  generalize bndK h l l.length = B at hb ⊢
  obtain ⟨⟨lx, ly, lz⟩, ⟨ux, uy, uz⟩⟩ := B
  unfold boxV at hb ⊢
  dsimp only at hb ⊢
  have hz0 : (w.alloc (.cells #[.int .i64 0, .int .i64 0, .int .i64 0, .int .i64 0, .int .i64 0, .int .i64 0] 40)).heap[w.heap.size]? = some (.cells #[.int .i64 0, .int .i64 0, .int .i64 0, .int .i64 0, .int .i64 0, .int .i64 0] 40 (0, 0)) := heap_alloc_new w _
  have hlt : w.heap.size < (w.alloc (.cells #[.int .i64 0, .int .i64 0, .int .i64 0, .int .i64 0, .int .i64 0, .int .i64 0] 40)).heap.size := by simp
  clear hl hh hc la
  go_enter Tryz.func25, Tryz.ntmps25
  generalize l.length = n at h1 hb hn0 hpos ⊢
  obtain ⟨W, hW⟩ : ∃ W, W = w.alloc (.cells #[.int .i64 0, .int .i64 0, .int .i64 0, .int .i64 0, .int .i64 0, .int .i64 0] 40) := ⟨_, rfl⟩
  rw [← hW] at h1 hB0 hz0 hlt
  go_wp2_with fail
  rw [← hW]
  clear hW
  refine h1.mono ?_
  rintro e w2 ⟨rfl, hB2⟩
  have hB02 := hB0.trans (hB2.mono hB0.size)
  have hb2 := hb w2 hB02
  have hlt2 : w.heap.size < w2.heap.size := Nat.lt_of_lt_of_le hlt hB2.size
  have hz2 := (hB2.block _ hlt).trans hz0
  clear h1 hb hB0 hB2 hz0
  go_wp2_with fail
  refine hb2.mono ?_
  rintro e w3 ⟨rfl, hB3⟩
  have hB03 := hB02.trans (hB3.mono hB02.size)
  have hz := (hB3.block _ hlt2).trans hz2
  have zl := fun j => cell_of_row w3 w.heap.size j _ _ _ hz
  have z0 := zl 0
  have z1 := zl 1
  have z2 := zl 2
  have z3 := zl 3
  have z4 := zl 4
  have z5 := zl 5
  simp at z0 z1 z2 z3 z4 z5
  have fz := fun j => frozen_of_row w3 w.heap.size j _ _ hz
  have hle := Nat.le_refl w.heap.size
  have hB' := (((((hB03.setCell (p := ⟨w.heap.size, 0, none⟩) hle (.int .i64 lx)).setCell (p := ⟨w.heap.size, 1, none⟩) hle (.int .i64 ly)).setCell (p := ⟨w.heap.size, 2, none⟩) hle (.int .i64 lz)).setCell (p := ⟨w.heap.size, 3, none⟩) hle (.int .i64 ux)).setCell (p := ⟨w.heap.size, 4, none⟩) hle (.int .i64 uy)).setCell (p := ⟨w.heap.size, 5, none⟩) hle (.int .i64 uz)
  have hz' := heap_setCell_same _ w.heap.size 5 _ _ (.int .i64 uz) (heap_setCell_same _ w.heap.size 4 _ _ (.int .i64 uy) (heap_setCell_same _ w.heap.size 3 _ _ (.int .i64 ux) (heap_setCell_same _ w.heap.size 2 _ _ (.int .i64 lz) (heap_setCell_same _ w.heap.size 1 _ _ (.int .i64 ly) (heap_setCell_same _ w.heap.size 0 _ _ (.int .i64 lx) hz)))))
  simp at hz'
  have Hz' := Lib.hid hz'
  clear hb2 hB3 hz2 hz zl hz'
  go_wp2
  have yl := fun j => cell_of_row _ w.heap.size j _ _ _ Hz'.out
  exact bodyPost_ret (v := .tuple #[.agg #[.int .i64 lx, .int .i64 ly, .int .i64 lz, .int .i64 ux, .int .i64 uy, .int .i64 uz], .int .i64 0]) (by simp [results, Tryz.results25, go_sem, yl]) rfl ⟨rfl, hB'⟩
end Go.Proofs
end

section
/- The errors of grid.Bound. -/
namespace Go.Proofs
open Go.RowKit
set_option maxHeartbeats 8000000
set_option maxRecDepth 1000000
def boxO : Cel × Cel := ((0, 0, 0), (0, 0, 0))
theorem boundE (l : List Cel) (v : Value) (w : World) (hl : Sl w v l) (hn : l.length ≤ maxLen) (r : Int) (hc : chkI l = r) (h0 : r ≠ 0) :
    Calls Tryz.prog 25 #[v] w fun e w' => e = .returned (.tuple #[boxV boxO, .int .i64 r]) ∧ Below w.heap.size w w' := by
  have hB0 : Below w.heap.size w (w.alloc (.cells #[.int .i64 0, .int .i64 0, .int .i64 0, .int .i64 0, .int .i64 0, .int .i64 0] 40)) := (Below.refl _ _).alloc (Nat.le_refl _) _
  have h1 := gridCheckG l v _ (hl.below hB0) hn
  rw [hc] at h1
  have hne : (r != 0) = true := by rw [bne_iff_ne]; exact h0
  have hz0 : (w.alloc (.cells #[.int .i64 0, .int .i64 0, .int .i64 0, .int .i64 0, .int .i64 0, .int .i64 0] 40)).heap[w.heap.size]? = some (.cells #[.int .i64 0, .int .i64 0, .int .i64 0, .int .i64 0, .int .i64 0, .int .i64 0] 40 (0, 0)) := heap_alloc_new w _
  have hlt : w.heap.size < (w.alloc (.cells #[.int .i64 0, .int .i64 0, .int .i64 0, .int .i64 0, .int .i64 0, .int .i64 0] 40)).heap.size := by simp
  unfold boxV boxO
  dsimp only
  clear hl hc hn h0
  go_enter Tryz.func25, Tryz.ntmps25
  obtain ⟨W, hW⟩ : ∃ W, W = w.alloc (.cells #[.int .i64 0, .int .i64 0, .int .i64 0, .int .i64 0, .int .i64 0, .int .i64 0] 40) := ⟨_, rfl⟩
  rw [← hW] at h1 hB0 hz0 hlt
  go_wp2_with fail
  rw [← hW]
  clear hW
  refine h1.mono ?_
  rintro e w3 ⟨rfl, hB3⟩
  have hB03 := hB0.trans (hB3.mono hB0.size)
  have hz := (hB3.block _ hlt).trans hz0
  have zl := fun j => cell_of_row w3 w.heap.size j _ _ _ hz
  have z0 := zl 0
  have z1 := zl 1
  have z2 := zl 2
  have z3 := zl 3
  have z4 := zl 4
  have z5 := zl 5
  simp at z0 z1 z2 z3 z4 z5
  have fz := fun j => frozen_of_row w3 w.heap.size j _ _ hz
  have hle := Nat.le_refl w.heap.size
  have hB' := (((((hB03.setCell (p := ⟨w.heap.size, 0, none⟩) hle (.int .i64 0)).setCell (p := ⟨w.heap.size, 1, none⟩) hle (.int .i64 0)).setCell (p := ⟨w.heap.size, 2, none⟩) hle (.int .i64 0)).setCell (p := ⟨w.heap.size, 3, none⟩) hle (.int .i64 0)).setCell (p := ⟨w.heap.size, 4, none⟩) hle (.int .i64 0)).setCell (p := ⟨w.heap.size, 5, none⟩) hle (.int .i64 0)
  have hz' := heap_setCell_same _ w.heap.size 5 _ _ (.int .i64 0) (heap_setCell_same _ w.heap.size 4 _ _ (.int .i64 0) (heap_setCell_same _ w.heap.size 3 _ _ (.int .i64 0) (heap_setCell_same _ w.heap.size 2 _ _ (.int .i64 0) (heap_setCell_same _ w.heap.size 1 _ _ (.int .i64 0) (heap_setCell_same _ w.heap.size 0 _ _ (.int .i64 0) hz)))))
  simp at hz'
  have Hz' := Lib.hid hz'
  clear h1 hB3 hz zl hz' hz0
  go_wp2
  have yl := fun j => cell_of_row _ w.heap.size j _ _ _ Hz'.out
  exact bodyPost_ret (v := .tuple #[.agg #[.int .i64 0, .int .i64 0, .int .i64 0, .int .i64 0, .int .i64 0, .int .i64 0], .int .i64 r]) (by simp [results, Tryz.results25, go_sem, yl]) rfl ⟨rfl, hB'⟩
theorem bound0 (v : Value) (w : World) (hl : Sl w v []) :
    Calls Tryz.prog 25 #[v] w fun e w' => e = .returned (.tuple #[boxV boxO, .int .i64 12]) ∧ Below w.heap.size w w' := by
  have hB0 : Below w.heap.size w (w.alloc (.cells #[.int .i64 0, .int .i64 0, .int .i64 0, .int .i64 0, .int .i64 0, .int .i64 0] 40)) := (Below.refl _ _).alloc (Nat.le_refl _) _
  have h1 := gridCheckG [] v _ (hl.below hB0) (by simp)
  have hc : chkI [] = 0 := by unfold chkI chkFrom; rfl
  rw [hc] at h1
  obtain ⟨A, cap, rfl⟩ := hl.form
  have hz0 : (w.alloc (.cells #[.int .i64 0, .int .i64 0, .int .i64 0, .int .i64 0, .int .i64 0, .int .i64 0] 40)).heap[w.heap.size]? = some (.cells #[.int .i64 0, .int .i64 0, .int .i64 0, .int .i64 0, .int .i64 0, .int .i64 0] 40 (0, 0)) := heap_alloc_new w _
  have hlt : w.heap.size < (w.alloc (.cells #[.int .i64 0, .int .i64 0, .int .i64 0, .int .i64 0, .int .i64 0, .int .i64 0] 40)).heap.size := by simp
  unfold boxV boxO
  dsimp only
  clear hl hc
  go_enter Tryz.func25, Tryz.ntmps25
  obtain ⟨W, hW⟩ : ∃ W, W = w.alloc (.cells #[.int .i64 0, .int .i64 0, .int .i64 0, .int .i64 0, .int .i64 0, .int .i64 0] 40) := ⟨_, rfl⟩
  rw [← hW] at h1 hB0 hz0 hlt
  go_wp2_with fail
  rw [← hW]
  clear hW
  refine h1.mono ?_
  rintro e w3 ⟨rfl, hB3⟩
  have hB03 := hB0.trans (hB3.mono hB0.size)
  have hz := (hB3.block _ hlt).trans hz0
  have zl := fun j => cell_of_row w3 w.heap.size j _ _ _ hz
  have z0 := zl 0
  have z1 := zl 1
  have z2 := zl 2
  have z3 := zl 3
  have z4 := zl 4
  have z5 := zl 5
  simp at z0 z1 z2 z3 z4 z5
  have fz := fun j => frozen_of_row w3 w.heap.size j _ _ hz
  have hle := Nat.le_refl w.heap.size
  have hB' := (((((hB03.setCell (p := ⟨w.heap.size, 0, none⟩) hle (.int .i64 0)).setCell (p := ⟨w.heap.size, 1, none⟩) hle (.int .i64 0)).setCell (p := ⟨w.heap.size, 2, none⟩) hle (.int .i64 0)).setCell (p := ⟨w.heap.size, 3, none⟩) hle (.int .i64 0)).setCell (p := ⟨w.heap.size, 4, none⟩) hle (.int .i64 0)).setCell (p := ⟨w.heap.size, 5, none⟩) hle (.int .i64 0)
  have hz' := heap_setCell_same _ w.heap.size 5 _ _ (.int .i64 0) (heap_setCell_same _ w.heap.size 4 _ _ (.int .i64 0) (heap_setCell_same _ w.heap.size 3 _ _ (.int .i64 0) (heap_setCell_same _ w.heap.size 2 _ _ (.int .i64 0) (heap_setCell_same _ w.heap.size 1 _ _ (.int .i64 0) (heap_setCell_same _ w.heap.size 0 _ _ (.int .i64 0) hz)))))
  simp at hz'
  have Hz' := Lib.hid hz'
  clear h1 hB3 hz zl hz' hz0
  go_wp2
  have yl := fun j => cell_of_row _ w.heap.size j _ _ _ Hz'.out
  exact bodyPost_ret (v := .tuple #[.agg #[.int .i64 0, .int .i64 0, .int .i64 0, .int .i64 0, .int .i64 0, .int .i64 0], .int .i64 12]) (by simp [results, Tryz.results25, go_sem, yl]) rfl ⟨rfl, hB'⟩
end Go.Proofs
end
