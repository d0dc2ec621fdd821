import Derived.Test.YtedjohdoenncbaaGreatDoorBlock
import Derived.Test.YtedjohdoenncbaaGreatDoorUnionR
import Derived.Test.YtedjohdoenncbaaGreatDoorCut
section
/- The reference's CheckBox, of any box. -/
namespace Go.Proofs
open Go.RowKit
set_option maxHeartbeats 8000000
set_option maxRecDepth 1000000
def boxE (b : Cel × Cel) : Int := if (badC b.1 || badC b.2) = true then 3 else if b.2.1 < b.1.1 ∨ b.2.2.1 < b.1.2.1 ∨ b.2.2.2 < b.1.2.2 then 11 else if 4096 < sizeB b then 5 else 0
theorem cbox1 (lx ly lz ux uy uz : Int) (w : World) (b1 : badC (lx, ly, lz) = true) :
    Calls Tryz.prog 27 #[boxV ((lx, ly, lz), (ux, uy, uz))] w fun e w' => e = .returned (.int .i64 3) ∧ Below w.heap.size w w' := by
  have c1 := fun W => refCheckCellG lx ly lz W
  rw [b1] at c1
  simp only [if_true] at c1
  unfold boxV
  dsimp only
  have hB1 : Below w.heap.size w (w.alloc (.cells #[.int .i64 lx, .int .i64 ly, .int .i64 lz, .int .i64 ux, .int .i64 uy, .int .i64 uz] 41)) := (Below.refl _ _).alloc (Nat.le_refl _) _
  obtain ⟨W, hW⟩ : ∃ W, W = w.alloc (.cells #[.int .i64 lx, .int .i64 ly, .int .i64 lz, .int .i64 ux, .int .i64 uy, .int .i64 uz] 41) := ⟨_, rfl⟩
  have d0 : W.cell? ⟨w.heap.size, 0, none⟩ = some (.int .i64 lx) := by subst hW; go_simp
  have d1 : W.cell? ⟨w.heap.size, 1, none⟩ = some (.int .i64 ly) := by subst hW; go_simp
  have d2 : W.cell? ⟨w.heap.size, 2, none⟩ = some (.int .i64 lz) := by subst hW; go_simp
  have d3 : W.cell? ⟨w.heap.size, 3, none⟩ = some (.int .i64 ux) := by subst hW; go_simp
  have d4 : W.cell? ⟨w.heap.size, 4, none⟩ = some (.int .i64 uy) := by subst hW; go_simp
  have d5 : W.cell? ⟨w.heap.size, 5, none⟩ = some (.int .i64 uz) := by subst hW; go_simp
  have hlt : w.heap.size < W.heap.size := by subst hW; simp
  rw [← hW] at hB1
  clear b1
  go_enter Tryz.func27, Tryz.ntmps27
  go_wp2_with fail
  rw [← hW]
  clear hW
  refine (c1 W).mono ?_
  rintro e w2 ⟨rfl, hB2⟩
  have hB02 := hB1.trans (hB2.mono hB1.size)
  clear c1
  go_wp2
  go_ret
  exact ⟨rfl, hB02⟩
theorem cbox2 (lx ly lz ux uy uz : Int) (w : World) (b1 : badC (lx, ly, lz) = false) (b2 : badC (ux, uy, uz) = true) :
    Calls Tryz.prog 27 #[boxV ((lx, ly, lz), (ux, uy, uz))] w fun e w' => e = .returned (.int .i64 3) ∧ Below w.heap.size w w' := by
  have c1 := fun W => refCheckCellG lx ly lz W
  rw [b1] at c1
  have c2 := fun W => refCheckCellG ux uy uz W
  rw [b2] at c2
  simp only [Bool.false_eq_true, if_false] at c1
  simp only [if_true] at c2
  unfold boxV
  dsimp only
  have hB1 : Below w.heap.size w (w.alloc (.cells #[.int .i64 lx, .int .i64 ly, .int .i64 lz, .int .i64 ux, .int .i64 uy, .int .i64 uz] 41)) := (Below.refl _ _).alloc (Nat.le_refl _) _
  obtain ⟨W, hW⟩ : ∃ W, W = w.alloc (.cells #[.int .i64 lx, .int .i64 ly, .int .i64 lz, .int .i64 ux, .int .i64 uy, .int .i64 uz] 41) := ⟨_, rfl⟩
  have d0 : W.cell? ⟨w.heap.size, 0, none⟩ = some (.int .i64 lx) := by subst hW; go_simp
  have d1 : W.cell? ⟨w.heap.size, 1, none⟩ = some (.int .i64 ly) := by subst hW; go_simp
  have d2 : W.cell? ⟨w.heap.size, 2, none⟩ = some (.int .i64 lz) := by subst hW; go_simp
  have d3 : W.cell? ⟨w.heap.size, 3, none⟩ = some (.int .i64 ux) := by subst hW; go_simp
  have d4 : W.cell? ⟨w.heap.size, 4, none⟩ = some (.int .i64 uy) := by subst hW; go_simp
  have d5 : W.cell? ⟨w.heap.size, 5, none⟩ = some (.int .i64 uz) := by subst hW; go_simp
  have hlt : w.heap.size < W.heap.size := by subst hW; simp
  rw [← hW] at hB1
  clear b1 b2
  go_enter Tryz.func27, Tryz.ntmps27
  go_wp2_with fail
  rw [← hW]
  clear hW
  refine (c1 W).mono ?_
  rintro e w2 ⟨rfl, hB2⟩
  have hB02 := hB1.trans (hB2.mono hB1.size)
  have e0 := (hB2.cell (p := ⟨w.heap.size, 0, none⟩) hlt).trans d0
  have e1 := (hB2.cell (p := ⟨w.heap.size, 1, none⟩) hlt).trans d1
  have e2 := (hB2.cell (p := ⟨w.heap.size, 2, none⟩) hlt).trans d2
  have e3 := (hB2.cell (p := ⟨w.heap.size, 3, none⟩) hlt).trans d3
  have e4 := (hB2.cell (p := ⟨w.heap.size, 4, none⟩) hlt).trans d4
  have e5 := (hB2.cell (p := ⟨w.heap.size, 5, none⟩) hlt).trans d5
  have hlt2 : w.heap.size < w2.heap.size := Nat.lt_of_lt_of_le hlt hB2.size
  clear c1 d0 d1 d2 d3 d4 d5 hB1 hB2 hlt
  go_wp2_with fail
  refine (c2 _).mono ?_
  rintro e w3 ⟨rfl, hB3⟩
  have d0 := (hB3.cell (p := ⟨w.heap.size, 0, none⟩) hlt2).trans e0
  have d1 := (hB3.cell (p := ⟨w.heap.size, 1, none⟩) hlt2).trans e1
  have d2 := (hB3.cell (p := ⟨w.heap.size, 2, none⟩) hlt2).trans e2
  have d3 := (hB3.cell (p := ⟨w.heap.size, 3, none⟩) hlt2).trans e3
  have d4 := (hB3.cell (p := ⟨w.heap.size, 4, none⟩) hlt2).trans e4
  have d5 := (hB3.cell (p := ⟨w.heap.size, 5, none⟩) hlt2).trans e5
  have hB03 := hB02.trans (hB3.mono hB02.size)
  clear c2 e0 e1 e2 e3 e4 e5 hB02 hB3 hlt2
  go_wp2
  go_ret
  exact ⟨rfl, hB03⟩
theorem cbox3 (lx ly lz ux uy uz : Int) (w : World) (b1 : badC (lx, ly, lz) = false) (b2 : badC (ux, uy, uz) = false) (_ : lx > ux) :
    Calls Tryz.prog 27 #[boxV ((lx, ly, lz), (ux, uy, uz))] w fun e w' => e = .returned (.int .i64 11) ∧ Below w.heap.size w w' := by
  have c1 := fun W => refCheckCellG lx ly lz W
  rw [b1] at c1
  have c2 := fun W => refCheckCellG ux uy uz W
  rw [b2] at c2
  simp only [Bool.false_eq_true, if_false] at c1 c2
  unfold boxV
  dsimp only
  have hB1 : Below w.heap.size w (w.alloc (.cells #[.int .i64 lx, .int .i64 ly, .int .i64 lz, .int .i64 ux, .int .i64 uy, .int .i64 uz] 41)) := (Below.refl _ _).alloc (Nat.le_refl _) _
  obtain ⟨W, hW⟩ : ∃ W, W = w.alloc (.cells #[.int .i64 lx, .int .i64 ly, .int .i64 lz, .int .i64 ux, .int .i64 uy, .int .i64 uz] 41) := ⟨_, rfl⟩
  have d0 : W.cell? ⟨w.heap.size, 0, none⟩ = some (.int .i64 lx) := by subst hW; go_simp
  have d1 : W.cell? ⟨w.heap.size, 1, none⟩ = some (.int .i64 ly) := by subst hW; go_simp
  have d2 : W.cell? ⟨w.heap.size, 2, none⟩ = some (.int .i64 lz) := by subst hW; go_simp
  have d3 : W.cell? ⟨w.heap.size, 3, none⟩ = some (.int .i64 ux) := by subst hW; go_simp
  have d4 : W.cell? ⟨w.heap.size, 4, none⟩ = some (.int .i64 uy) := by subst hW; go_simp
  have d5 : W.cell? ⟨w.heap.size, 5, none⟩ = some (.int .i64 uz) := by subst hW; go_simp
  have hlt : w.heap.size < W.heap.size := by subst hW; simp
  rw [← hW] at hB1
  clear b1 b2
  go_enter Tryz.func27, Tryz.ntmps27
  go_wp2_with fail
  rw [← hW]
  clear hW
  refine (c1 W).mono ?_
  rintro e w2 ⟨rfl, hB2⟩
  have hB02 := hB1.trans (hB2.mono hB1.size)
  have e0 := (hB2.cell (p := ⟨w.heap.size, 0, none⟩) hlt).trans d0
  have e1 := (hB2.cell (p := ⟨w.heap.size, 1, none⟩) hlt).trans d1
  have e2 := (hB2.cell (p := ⟨w.heap.size, 2, none⟩) hlt).trans d2
  have e3 := (hB2.cell (p := ⟨w.heap.size, 3, none⟩) hlt).trans d3
  have e4 := (hB2.cell (p := ⟨w.heap.size, 4, none⟩) hlt).trans d4
  have e5 := (hB2.cell (p := ⟨w.heap.size, 5, none⟩) hlt).trans d5
  have hlt2 : w.heap.size < w2.heap.size := Nat.lt_of_lt_of_le hlt hB2.size
  clear c1 d0 d1 d2 d3 d4 d5 hB1 hB2 hlt
  go_wp2_with fail
  refine (c2 _).mono ?_
  rintro e w3 ⟨rfl, hB3⟩
  have d0 := (hB3.cell (p := ⟨w.heap.size, 0, none⟩) hlt2).trans e0
  have d1 := (hB3.cell (p := ⟨w.heap.size, 1, none⟩) hlt2).trans e1
  have d2 := (hB3.cell (p := ⟨w.heap.size, 2, none⟩) hlt2).trans e2
  have d3 := (hB3.cell (p := ⟨w.heap.size, 3, none⟩) hlt2).trans e3
  have d4 := (hB3.cell (p := ⟨w.heap.size, 4, none⟩) hlt2).trans e4
  have d5 := (hB3.cell (p := ⟨w.heap.size, 5, none⟩) hlt2).trans e5
  have hB03 := hB02.trans (hB3.mono hB02.size)
  clear c2 e0 e1 e2 e3 e4 e5 hB02 hB3 hlt2
  go_wp2
  go_ret
  exact ⟨rfl, hB03⟩
theorem cbox4 (lx ly lz ux uy uz : Int) (w : World) (b1 : badC (lx, ly, lz) = false) (b2 : badC (ux, uy, uz) = false) (_ : ¬ lx > ux) (_ : ly > uy) :
    Calls Tryz.prog 27 #[boxV ((lx, ly, lz), (ux, uy, uz))] w fun e w' => e = .returned (.int .i64 11) ∧ Below w.heap.size w w' := by
  have c1 := fun W => refCheckCellG lx ly lz W
  rw [b1] at c1
  have c2 := fun W => refCheckCellG ux uy uz W
  rw [b2] at c2
  simp only [Bool.false_eq_true, if_false] at c1 c2
  unfold boxV
  dsimp only
  have hB1 : Below w.heap.size w (w.alloc (.cells #[.int .i64 lx, .int .i64 ly, .int .i64 lz, .int .i64 ux, .int .i64 uy, .int .i64 uz] 41)) := (Below.refl _ _).alloc (Nat.le_refl _) _
  obtain ⟨W, hW⟩ : ∃ W, W = w.alloc (.cells #[.int .i64 lx, .int .i64 ly, .int .i64 lz, .int .i64 ux, .int .i64 uy, .int .i64 uz] 41) := ⟨_, rfl⟩
  have d0 : W.cell? ⟨w.heap.size, 0, none⟩ = some (.int .i64 lx) := by subst hW; go_simp
  have d1 : W.cell? ⟨w.heap.size, 1, none⟩ = some (.int .i64 ly) := by subst hW; go_simp
  have d2 : W.cell? ⟨w.heap.size, 2, none⟩ = some (.int .i64 lz) := by subst hW; go_simp
  have d3 : W.cell? ⟨w.heap.size, 3, none⟩ = some (.int .i64 ux) := by subst hW; go_simp
  have d4 : W.cell? ⟨w.heap.size, 4, none⟩ = some (.int .i64 uy) := by subst hW; go_simp
  have d5 : W.cell? ⟨w.heap.size, 5, none⟩ = some (.int .i64 uz) := by subst hW; go_simp
  have hlt : w.heap.size < W.heap.size := by subst hW; simp
  rw [← hW] at hB1
  clear b1 b2
  go_enter Tryz.func27, Tryz.ntmps27
  go_wp2_with fail
  rw [← hW]
  clear hW
  refine (c1 W).mono ?_
  rintro e w2 ⟨rfl, hB2⟩
  have hB02 := hB1.trans (hB2.mono hB1.size)
  have e0 := (hB2.cell (p := ⟨w.heap.size, 0, none⟩) hlt).trans d0
  have e1 := (hB2.cell (p := ⟨w.heap.size, 1, none⟩) hlt).trans d1
  have e2 := (hB2.cell (p := ⟨w.heap.size, 2, none⟩) hlt).trans d2
  have e3 := (hB2.cell (p := ⟨w.heap.size, 3, none⟩) hlt).trans d3
  have e4 := (hB2.cell (p := ⟨w.heap.size, 4, none⟩) hlt).trans d4
  have e5 := (hB2.cell (p := ⟨w.heap.size, 5, none⟩) hlt).trans d5
  have hlt2 : w.heap.size < w2.heap.size := Nat.lt_of_lt_of_le hlt hB2.size
  clear c1 d0 d1 d2 d3 d4 d5 hB1 hB2 hlt
  go_wp2_with fail
  refine (c2 _).mono ?_
  rintro e w3 ⟨rfl, hB3⟩
  have d0 := (hB3.cell (p := ⟨w.heap.size, 0, none⟩) hlt2).trans e0
  have d1 := (hB3.cell (p := ⟨w.heap.size, 1, none⟩) hlt2).trans e1
  have d2 := (hB3.cell (p := ⟨w.heap.size, 2, none⟩) hlt2).trans e2
  have d3 := (hB3.cell (p := ⟨w.heap.size, 3, none⟩) hlt2).trans e3
  have d4 := (hB3.cell (p := ⟨w.heap.size, 4, none⟩) hlt2).trans e4
  have d5 := (hB3.cell (p := ⟨w.heap.size, 5, none⟩) hlt2).trans e5
  have hB03 := hB02.trans (hB3.mono hB02.size)
  clear c2 e0 e1 e2 e3 e4 e5 hB02 hB3 hlt2
  go_wp2
  go_ret
  exact ⟨rfl, hB03⟩
theorem cbox5 (lx ly lz ux uy uz : Int) (w : World) (b1 : badC (lx, ly, lz) = false) (b2 : badC (ux, uy, uz) = false) (_ : ¬ lx > ux) (_ : ¬ ly > uy) (_ : lz > uz) :
    Calls Tryz.prog 27 #[boxV ((lx, ly, lz), (ux, uy, uz))] w fun e w' => e = .returned (.int .i64 11) ∧ Below w.heap.size w w' := by
  have c1 := fun W => refCheckCellG lx ly lz W
  rw [b1] at c1
  have c2 := fun W => refCheckCellG ux uy uz W
  rw [b2] at c2
  simp only [Bool.false_eq_true, if_false] at c1 c2
  unfold boxV
  dsimp only
  have hB1 : Below w.heap.size w (w.alloc (.cells #[.int .i64 lx, .int .i64 ly, .int .i64 lz, .int .i64 ux, .int .i64 uy, .int .i64 uz] 41)) := (Below.refl _ _).alloc (Nat.le_refl _) _
  obtain ⟨W, hW⟩ : ∃ W, W = w.alloc (.cells #[.int .i64 lx, .int .i64 ly, .int .i64 lz, .int .i64 ux, .int .i64 uy, .int .i64 uz] 41) := ⟨_, rfl⟩
  have d0 : W.cell? ⟨w.heap.size, 0, none⟩ = some (.int .i64 lx) := by subst hW; go_simp
  have d1 : W.cell? ⟨w.heap.size, 1, none⟩ = some (.int .i64 ly) := by subst hW; go_simp
  have d2 : W.cell? ⟨w.heap.size, 2, none⟩ = some (.int .i64 lz) := by subst hW; go_simp
  have d3 : W.cell? ⟨w.heap.size, 3, none⟩ = some (.int .i64 ux) := by subst hW; go_simp
  have d4 : W.cell? ⟨w.heap.size, 4, none⟩ = some (.int .i64 uy) := by subst hW; go_simp
  have d5 : W.cell? ⟨w.heap.size, 5, none⟩ = some (.int .i64 uz) := by subst hW; go_simp
  have hlt : w.heap.size < W.heap.size := by subst hW; simp
  rw [← hW] at hB1
  clear b1 b2
  go_enter Tryz.func27, Tryz.ntmps27
  go_wp2_with fail
  rw [← hW]
  clear hW
  refine (c1 W).mono ?_
  rintro e w2 ⟨rfl, hB2⟩
  have hB02 := hB1.trans (hB2.mono hB1.size)
  have e0 := (hB2.cell (p := ⟨w.heap.size, 0, none⟩) hlt).trans d0
  have e1 := (hB2.cell (p := ⟨w.heap.size, 1, none⟩) hlt).trans d1
  have e2 := (hB2.cell (p := ⟨w.heap.size, 2, none⟩) hlt).trans d2
  have e3 := (hB2.cell (p := ⟨w.heap.size, 3, none⟩) hlt).trans d3
  have e4 := (hB2.cell (p := ⟨w.heap.size, 4, none⟩) hlt).trans d4
  have e5 := (hB2.cell (p := ⟨w.heap.size, 5, none⟩) hlt).trans d5
  have hlt2 : w.heap.size < w2.heap.size := Nat.lt_of_lt_of_le hlt hB2.size
  clear c1 d0 d1 d2 d3 d4 d5 hB1 hB2 hlt
  go_wp2_with fail
  refine (c2 _).mono ?_
  rintro e w3 ⟨rfl, hB3⟩
  have d0 := (hB3.cell (p := ⟨w.heap.size, 0, none⟩) hlt2).trans e0
  have d1 := (hB3.cell (p := ⟨w.heap.size, 1, none⟩) hlt2).trans e1
  have d2 := (hB3.cell (p := ⟨w.heap.size, 2, none⟩) hlt2).trans e2
  have d3 := (hB3.cell (p := ⟨w.heap.size, 3, none⟩) hlt2).trans e3
  have d4 := (hB3.cell (p := ⟨w.heap.size, 4, none⟩) hlt2).trans e4
  have d5 := (hB3.cell (p := ⟨w.heap.size, 5, none⟩) hlt2).trans e5
  have hB03 := hB02.trans (hB3.mono hB02.size)
  clear c2 e0 e1 e2 e3 e4 e5 hB02 hB3 hlt2
  go_wp2
  go_ret
  exact ⟨rfl, hB03⟩
theorem cbox6 (lx ly lz ux uy uz : Int) (w : World) (b1 : badC (lx, ly, lz) = false) (b2 : badC (ux, uy, uz) = false) (_ : ¬ lx > ux) (_ : ¬ ly > uy) (_ : ¬ lz > uz) (hs : sizeB ((lx, ly, lz), (ux, uy, uz)) > 4096) :
    Calls Tryz.prog 27 #[boxV ((lx, ly, lz), (ux, uy, uz))] w fun e w' => e = .returned (.int .i64 5) ∧ Below w.heap.size w w' := by
  have c1 := fun W => refCheckCellG lx ly lz W
  rw [b1] at c1
  have c2 := fun W => refCheckCellG ux uy uz W
  rw [b2] at c2
  simp only [Bool.false_eq_true, if_false] at c1 c2
  have hz := fun W => size_ok ((lx, ly, lz), (ux, uy, uz)) (badC_near.1 b1) (badC_near.1 b2) W
  generalize sizeB ((lx, ly, lz), (ux, uy, uz)) = S at hs hz
  unfold boxV at hz
  dsimp only at hz
  unfold boxV
  dsimp only
  have hB1 : Below w.heap.size w (w.alloc (.cells #[.int .i64 lx, .int .i64 ly, .int .i64 lz, .int .i64 ux, .int .i64 uy, .int .i64 uz] 41)) := (Below.refl _ _).alloc (Nat.le_refl _) _
  obtain ⟨W, hW⟩ : ∃ W, W = w.alloc (.cells #[.int .i64 lx, .int .i64 ly, .int .i64 lz, .int .i64 ux, .int .i64 uy, .int .i64 uz] 41) := ⟨_, rfl⟩
  have d0 : W.cell? ⟨w.heap.size, 0, none⟩ = some (.int .i64 lx) := by subst hW; go_simp
  have d1 : W.cell? ⟨w.heap.size, 1, none⟩ = some (.int .i64 ly) := by subst hW; go_simp
  have d2 : W.cell? ⟨w.heap.size, 2, none⟩ = some (.int .i64 lz) := by subst hW; go_simp
  have d3 : W.cell? ⟨w.heap.size, 3, none⟩ = some (.int .i64 ux) := by subst hW; go_simp
  have d4 : W.cell? ⟨w.heap.size, 4, none⟩ = some (.int .i64 uy) := by subst hW; go_simp
  have d5 : W.cell? ⟨w.heap.size, 5, none⟩ = some (.int .i64 uz) := by subst hW; go_simp
  have hlt : w.heap.size < W.heap.size := by subst hW; simp
  rw [← hW] at hB1
  clear b1 b2
  go_enter Tryz.func27, Tryz.ntmps27
  go_wp2_with fail
  rw [← hW]
  clear hW
  refine (c1 W).mono ?_
  rintro e w2 ⟨rfl, hB2⟩
  have hB02 := hB1.trans (hB2.mono hB1.size)
  have e0 := (hB2.cell (p := ⟨w.heap.size, 0, none⟩) hlt).trans d0
  have e1 := (hB2.cell (p := ⟨w.heap.size, 1, none⟩) hlt).trans d1
  have e2 := (hB2.cell (p := ⟨w.heap.size, 2, none⟩) hlt).trans d2
  have e3 := (hB2.cell (p := ⟨w.heap.size, 3, none⟩) hlt).trans d3
  have e4 := (hB2.cell (p := ⟨w.heap.size, 4, none⟩) hlt).trans d4
  have e5 := (hB2.cell (p := ⟨w.heap.size, 5, none⟩) hlt).trans d5
  have hlt2 : w.heap.size < w2.heap.size := Nat.lt_of_lt_of_le hlt hB2.size
  clear c1 d0 d1 d2 d3 d4 d5 hB1 hB2 hlt
  go_wp2_with fail
  refine (c2 _).mono ?_
  rintro e w3 ⟨rfl, hB3⟩
  have d0 := (hB3.cell (p := ⟨w.heap.size, 0, none⟩) hlt2).trans e0
  have d1 := (hB3.cell (p := ⟨w.heap.size, 1, none⟩) hlt2).trans e1
  have d2 := (hB3.cell (p := ⟨w.heap.size, 2, none⟩) hlt2).trans e2
  have d3 := (hB3.cell (p := ⟨w.heap.size, 3, none⟩) hlt2).trans e3
  have d4 := (hB3.cell (p := ⟨w.heap.size, 4, none⟩) hlt2).trans e4
  have d5 := (hB3.cell (p := ⟨w.heap.size, 5, none⟩) hlt2).trans e5
  have hB03 := hB02.trans (hB3.mono hB02.size)
  clear c2 e0 e1 e2 e3 e4 e5 hB02 hB3 hlt2
  go_wp2_with (go_at_call 28; refine (hz _).mono ?_; rintro e w4 ⟨rfl, hB4⟩)
  go_ret
  exact ⟨rfl, hB03.trans (hB4.mono hB03.size)⟩
theorem checkBoxG (b : Cel × Cel) (w : World) :
    Calls Tryz.prog 27 #[boxV b] w fun e w' => e = .returned (.int .i64 (boxE b)) ∧ Below w.heap.size w w' := by
  obtain ⟨⟨lx, ly, lz⟩, ⟨ux, uy, uz⟩⟩ := b
  unfold boxE
  cases b1 : badC (lx, ly, lz) with
  | true => exact cbox1 lx ly lz ux uy uz w b1
  | false =>
    cases b2 : badC (ux, uy, uz) with
    | true => exact cbox2 lx ly lz ux uy uz w b1 b2
    | false =>
      simp only [Bool.or_self, Bool.false_eq_true, if_false]
      by_cases h1 : lx > ux
      · rw [if_pos (by omega)]
        exact cbox3 lx ly lz ux uy uz w b1 b2 h1
      · by_cases h2 : ly > uy
        · rw [if_pos (by omega)]
          exact cbox4 lx ly lz ux uy uz w b1 b2 h1 h2
        · by_cases h3 : lz > uz
          · rw [if_pos (by omega)]
            exact cbox5 lx ly lz ux uy uz w b1 b2 h1 h2 h3
          · rw [if_neg (by omega)]
            by_cases h4 : sizeB ((lx, ly, lz), (ux, uy, uz)) > 4096
            · rw [if_pos h4]
              exact cbox6 lx ly lz ux uy uz w b1 b2 h1 h2 h3 h4
            · rw [if_neg h4]
              exact checkBox_ok ((lx, ly, lz), (ux, uy, uz)) (badC_near.1 b1) (badC_near.1 b2) (by unfold Wide; dsimp only; omega) (by omega) w
end Go.Proofs
end

section
/- The errors of grid.Block. -/
namespace Go.Proofs
open Go.RowKit
set_option maxHeartbeats 8000000
set_option maxRecDepth 1000000
theorem gblk1 (lx ly lz ux uy uz : Int) (w : World) (r1 r2 : Int) (b1 : (if badC (lx, ly, lz) = true then (3 : Int) else 0) = r1) (b2 : (if badC (ux, uy, uz) = true then (3 : Int) else 0) = r2) (hor : orI r1 r2 0 = 3) :
    Calls Tryz.prog 29 #[boxV ((lx, ly, lz), (ux, uy, uz))] w fun e w' => e = .returned (.tuple #[.slice none 0 0, .int .i64 3]) ∧ Below w.heap.size w w' := by
  have cc : ∀ W, Calls Tryz.prog 77 #[.agg #[.int .i64 lx, .int .i64 ly, .int .i64 lz]] W fun e w' => e = .returned (.int .i64 r1) ∧ Below W.heap.size W w' := fun W => by
    have := checkCellG lx ly lz W
    rwa [b1] at this
  have cc2 : ∀ W, Calls Tryz.prog 77 #[.agg #[.int .i64 ux, .int .i64 uy, .int .i64 uz]] W fun e w' => e = .returned (.int .i64 r2) ∧ Below W.heap.size W w' := fun W => by
    have := checkCellG ux uy uz W
    rwa [b2] at this
  clear b1 b2
  unfold boxV
  dsimp only
  have hB1 : Below w.heap.size w (w.alloc (.cells #[.int .i64 lx, .int .i64 ly, .int .i64 lz, .int .i64 ux, .int .i64 uy, .int .i64 uz] 40)) := (Below.refl _ _).alloc (Nat.le_refl _) _
  obtain ⟨W, hW⟩ : ∃ W, W = w.alloc (.cells #[.int .i64 lx, .int .i64 ly, .int .i64 lz, .int .i64 ux, .int .i64 uy, .int .i64 uz] 40) := ⟨_, rfl⟩
  have d0 : W.cell? ⟨w.heap.size, 0, none⟩ = some (.int .i64 lx) := by subst hW; go_simp
  have d1 : W.cell? ⟨w.heap.size, 1, none⟩ = some (.int .i64 ly) := by subst hW; go_simp
  have d2 : W.cell? ⟨w.heap.size, 2, none⟩ = some (.int .i64 lz) := by subst hW; go_simp
  have d3 : W.cell? ⟨w.heap.size, 3, none⟩ = some (.int .i64 ux) := by subst hW; go_simp
  have d4 : W.cell? ⟨w.heap.size, 4, none⟩ = some (.int .i64 uy) := by subst hW; go_simp
  have d5 : W.cell? ⟨w.heap.size, 5, none⟩ = some (.int .i64 uz) := by subst hW; go_simp
  have hlt : w.heap.size < W.heap.size := by subst hW; simp
  have hk : ∀ W', Below W.heap.size W W' → W'.cell? ⟨w.heap.size, 0, none⟩ = some (.int .i64 lx) ∧ W'.cell? ⟨w.heap.size, 1, none⟩ = some (.int .i64 ly) ∧ W'.cell? ⟨w.heap.size, 2, none⟩ = some (.int .i64 lz) ∧ W'.cell? ⟨w.heap.size, 3, none⟩ = some (.int .i64 ux) ∧ W'.cell? ⟨w.heap.size, 4, none⟩ = some (.int .i64 uy) ∧ W'.cell? ⟨w.heap.size, 5, none⟩ = some (.int .i64 uz) := fun W' h =>
    ⟨(h.cell (p := ⟨w.heap.size, 0, none⟩) hlt).trans d0, (h.cell (p := ⟨w.heap.size, 1, none⟩) hlt).trans d1, (h.cell (p := ⟨w.heap.size, 2, none⟩) hlt).trans d2, (h.cell (p := ⟨w.heap.size, 3, none⟩) hlt).trans d3, (h.cell (p := ⟨w.heap.size, 4, none⟩) hlt).trans d4, (h.cell (p := ⟨w.heap.size, 5, none⟩) hlt).trans d5⟩
  rw [← hW] at hB1
  go_enter Tryz.func29, Tryz.ntmps29
  go_wp2
  rw [← hW]
  clear hW
  have hX : Below W.heap.size W W.drew := (Below.refl _ _).drew
  go_region_held3 (fun w' => w'.cell? ⟨w.heap.size, 0, none⟩ = some (.int .i64 lx) ∧ w'.cell? ⟨w.heap.size, 1, none⟩ = some (.int .i64 ly) ∧ w'.cell? ⟨w.heap.size, 2, none⟩ = some (.int .i64 lz) ∧ w'.cell? ⟨w.heap.size, 3, none⟩ = some (.int .i64 ux) ∧ w'.cell? ⟨w.heap.size, 4, none⟩ = some (.int .i64 uy) ∧ w'.cell? ⟨w.heap.size, 5, none⟩ = some (.int .i64 uz)) (first | exact hkk | exact ⟨d0, d1, d2, d3, d4, d5⟩ | go_keep) (first
    | (go_at_call 77; (first | (with_reducible refine (cc _).mono ?_) | (with_reducible refine (cc2 _).mono ?_)); rintro e w4 ⟨rfl, hB4⟩; have hX := hX.trans (hB4.mono hX.size); have hkk := hk _ hX)
    | (go_at_call 81; refine (first2_ok r1 r2 _ _ _ ?_ ?_).mono ?_; (go_simp); (go_simp); rintro e w5 ⟨rfl, hw5⟩; subst hw5))
  rename_i hHeld
  clear hHeld
  have hX5 := hX.alloc hX.size (.cells #[.int .i64 r1, .int .i64 r2] 27)
  go_wp2
  go_ret2
  exact ⟨rfl, hB1.trans (hX5.mono hB1.size)⟩
theorem gblk3 (lx ly lz ux uy uz : Int) (w : World) (b1 : badC (lx, ly, lz) = false) (b2 : badC (ux, uy, uz) = false) (_ : lx > ux) :
    Calls Tryz.prog 29 #[boxV ((lx, ly, lz), (ux, uy, uz))] w fun e w' => e = .returned (.tuple #[.slice none 0 0, .int .i64 11]) ∧ Below w.heap.size w w' := by
  have cc : ∀ W, Calls Tryz.prog 77 #[.agg #[.int .i64 lx, .int .i64 ly, .int .i64 lz]] W fun e w' => e = .returned (.int .i64 0) ∧ Below W.heap.size W w' := fun W => by
    have := checkCellG lx ly lz W
    rwa [b1] at this
  have cc2 : ∀ W, Calls Tryz.prog 77 #[.agg #[.int .i64 ux, .int .i64 uy, .int .i64 uz]] W fun e w' => e = .returned (.int .i64 0) ∧ Below W.heap.size W w' := fun W => by
    have := checkCellG ux uy uz W
    rwa [b2] at this
  clear b1 b2
  unfold boxV
  dsimp only
  have hB1 : Below w.heap.size w (w.alloc (.cells #[.int .i64 lx, .int .i64 ly, .int .i64 lz, .int .i64 ux, .int .i64 uy, .int .i64 uz] 40)) := (Below.refl _ _).alloc (Nat.le_refl _) _
  obtain ⟨W, hW⟩ : ∃ W, W = w.alloc (.cells #[.int .i64 lx, .int .i64 ly, .int .i64 lz, .int .i64 ux, .int .i64 uy, .int .i64 uz] 40) := ⟨_, rfl⟩
  have d0 : W.cell? ⟨w.heap.size, 0, none⟩ = some (.int .i64 lx) := by subst hW; go_simp
  have d1 : W.cell? ⟨w.heap.size, 1, none⟩ = some (.int .i64 ly) := by subst hW; go_simp
  have d2 : W.cell? ⟨w.heap.size, 2, none⟩ = some (.int .i64 lz) := by subst hW; go_simp
  have d3 : W.cell? ⟨w.heap.size, 3, none⟩ = some (.int .i64 ux) := by subst hW; go_simp
  have d4 : W.cell? ⟨w.heap.size, 4, none⟩ = some (.int .i64 uy) := by subst hW; go_simp
  have d5 : W.cell? ⟨w.heap.size, 5, none⟩ = some (.int .i64 uz) := by subst hW; go_simp
  have hlt : w.heap.size < W.heap.size := by subst hW; simp
  have hk : ∀ W', Below W.heap.size W W' → W'.cell? ⟨w.heap.size, 0, none⟩ = some (.int .i64 lx) ∧ W'.cell? ⟨w.heap.size, 1, none⟩ = some (.int .i64 ly) ∧ W'.cell? ⟨w.heap.size, 2, none⟩ = some (.int .i64 lz) ∧ W'.cell? ⟨w.heap.size, 3, none⟩ = some (.int .i64 ux) ∧ W'.cell? ⟨w.heap.size, 4, none⟩ = some (.int .i64 uy) ∧ W'.cell? ⟨w.heap.size, 5, none⟩ = some (.int .i64 uz) := fun W' h =>
    ⟨(h.cell (p := ⟨w.heap.size, 0, none⟩) hlt).trans d0, (h.cell (p := ⟨w.heap.size, 1, none⟩) hlt).trans d1, (h.cell (p := ⟨w.heap.size, 2, none⟩) hlt).trans d2, (h.cell (p := ⟨w.heap.size, 3, none⟩) hlt).trans d3, (h.cell (p := ⟨w.heap.size, 4, none⟩) hlt).trans d4, (h.cell (p := ⟨w.heap.size, 5, none⟩) hlt).trans d5⟩
  rw [← hW] at hB1
  go_enter Tryz.func29, Tryz.ntmps29
  go_wp2
  rw [← hW]
  clear hW
  have hX : Below W.heap.size W W.drew := (Below.refl _ _).drew
  go_region_held3 (fun w' => w'.cell? ⟨w.heap.size, 0, none⟩ = some (.int .i64 lx) ∧ w'.cell? ⟨w.heap.size, 1, none⟩ = some (.int .i64 ly) ∧ w'.cell? ⟨w.heap.size, 2, none⟩ = some (.int .i64 lz) ∧ w'.cell? ⟨w.heap.size, 3, none⟩ = some (.int .i64 ux) ∧ w'.cell? ⟨w.heap.size, 4, none⟩ = some (.int .i64 uy) ∧ w'.cell? ⟨w.heap.size, 5, none⟩ = some (.int .i64 uz)) (first | exact hkk | exact ⟨d0, d1, d2, d3, d4, d5⟩ | go_keep) (first
    | (go_at_call 77; (first | (with_reducible refine (cc _).mono ?_) | (with_reducible refine (cc2 _).mono ?_)); rintro e w4 ⟨rfl, hB4⟩; have hX := hX.trans (hB4.mono hX.size); have hkk := hk _ hX)
    | (go_at_call 81; refine (first2_ok 0 0 _ _ _ ?_ ?_).mono ?_; (go_simp); (go_simp); rintro e w5 ⟨rfl, hw5⟩; subst hw5))
  rename_i hHeld
  clear hHeld
  have hX5 := hX.alloc hX.size (.cells #[.int .i64 0, .int .i64 0] 27)
  have hor : orI 0 0 0 = 0 := by decide
  rw [hor]
  obtain ⟨W5, hW5⟩ : ∃ W5, W5 = w4.alloc (.cells #[.int .i64 0, .int .i64 0] 27) := ⟨_, rfl⟩
  rw [← hW5] at hX5 ⊢
  clear hkk hX hB4 hW5 d0 d1 d2 d3 d4 d5 hor
  obtain ⟨d0, d1, d2, d3, d4, d5⟩ := hk W5 hX5
  have hB5 := hB1.trans (hX5.mono hB1.size)
  have hlt5 := Nat.lt_of_lt_of_le hlt hX5.size
  go_wp2
  go_ret2
  exact ⟨rfl, hB5⟩
theorem gblk4 (lx ly lz ux uy uz : Int) (w : World) (b1 : badC (lx, ly, lz) = false) (b2 : badC (ux, uy, uz) = false) (_ : ¬ lx > ux) (_ : ly > uy) :
    Calls Tryz.prog 29 #[boxV ((lx, ly, lz), (ux, uy, uz))] w fun e w' => e = .returned (.tuple #[.slice none 0 0, .int .i64 11]) ∧ Below w.heap.size w w' := by
  have cc : ∀ W, Calls Tryz.prog 77 #[.agg #[.int .i64 lx, .int .i64 ly, .int .i64 lz]] W fun e w' => e = .returned (.int .i64 0) ∧ Below W.heap.size W w' := fun W => by
    have := checkCellG lx ly lz W
    rwa [b1] at this
  have cc2 : ∀ W, Calls Tryz.prog 77 #[.agg #[.int .i64 ux, .int .i64 uy, .int .i64 uz]] W fun e w' => e = .returned (.int .i64 0) ∧ Below W.heap.size W w' := fun W => by
    have := checkCellG ux uy uz W
    rwa [b2] at this
  clear b1 b2
  unfold boxV
  dsimp only
  have hB1 : Below w.heap.size w (w.alloc (.cells #[.int .i64 lx, .int .i64 ly, .int .i64 lz, .int .i64 ux, .int .i64 uy, .int .i64 uz] 40)) := (Below.refl _ _).alloc (Nat.le_refl _) _
  obtain ⟨W, hW⟩ : ∃ W, W = w.alloc (.cells #[.int .i64 lx, .int .i64 ly, .int .i64 lz, .int .i64 ux, .int .i64 uy, .int .i64 uz] 40) := ⟨_, rfl⟩
  have d0 : W.cell? ⟨w.heap.size, 0, none⟩ = some (.int .i64 lx) := by subst hW; go_simp
  have d1 : W.cell? ⟨w.heap.size, 1, none⟩ = some (.int .i64 ly) := by subst hW; go_simp
  have d2 : W.cell? ⟨w.heap.size, 2, none⟩ = some (.int .i64 lz) := by subst hW; go_simp
  have d3 : W.cell? ⟨w.heap.size, 3, none⟩ = some (.int .i64 ux) := by subst hW; go_simp
  have d4 : W.cell? ⟨w.heap.size, 4, none⟩ = some (.int .i64 uy) := by subst hW; go_simp
  have d5 : W.cell? ⟨w.heap.size, 5, none⟩ = some (.int .i64 uz) := by subst hW; go_simp
  have hlt : w.heap.size < W.heap.size := by subst hW; simp
  have hk : ∀ W', Below W.heap.size W W' → W'.cell? ⟨w.heap.size, 0, none⟩ = some (.int .i64 lx) ∧ W'.cell? ⟨w.heap.size, 1, none⟩ = some (.int .i64 ly) ∧ W'.cell? ⟨w.heap.size, 2, none⟩ = some (.int .i64 lz) ∧ W'.cell? ⟨w.heap.size, 3, none⟩ = some (.int .i64 ux) ∧ W'.cell? ⟨w.heap.size, 4, none⟩ = some (.int .i64 uy) ∧ W'.cell? ⟨w.heap.size, 5, none⟩ = some (.int .i64 uz) := fun W' h =>
    ⟨(h.cell (p := ⟨w.heap.size, 0, none⟩) hlt).trans d0, (h.cell (p := ⟨w.heap.size, 1, none⟩) hlt).trans d1, (h.cell (p := ⟨w.heap.size, 2, none⟩) hlt).trans d2, (h.cell (p := ⟨w.heap.size, 3, none⟩) hlt).trans d3, (h.cell (p := ⟨w.heap.size, 4, none⟩) hlt).trans d4, (h.cell (p := ⟨w.heap.size, 5, none⟩) hlt).trans d5⟩
  rw [← hW] at hB1
  go_enter Tryz.func29, Tryz.ntmps29
  go_wp2
  rw [← hW]
  clear hW
  have hX : Below W.heap.size W W.drew := (Below.refl _ _).drew
  go_region_held3 (fun w' => w'.cell? ⟨w.heap.size, 0, none⟩ = some (.int .i64 lx) ∧ w'.cell? ⟨w.heap.size, 1, none⟩ = some (.int .i64 ly) ∧ w'.cell? ⟨w.heap.size, 2, none⟩ = some (.int .i64 lz) ∧ w'.cell? ⟨w.heap.size, 3, none⟩ = some (.int .i64 ux) ∧ w'.cell? ⟨w.heap.size, 4, none⟩ = some (.int .i64 uy) ∧ w'.cell? ⟨w.heap.size, 5, none⟩ = some (.int .i64 uz)) (first | exact hkk | exact ⟨d0, d1, d2, d3, d4, d5⟩ | go_keep) (first
    | (go_at_call 77; (first | (with_reducible refine (cc _).mono ?_) | (with_reducible refine (cc2 _).mono ?_)); rintro e w4 ⟨rfl, hB4⟩; have hX := hX.trans (hB4.mono hX.size); have hkk := hk _ hX)
    | (go_at_call 81; refine (first2_ok 0 0 _ _ _ ?_ ?_).mono ?_; (go_simp); (go_simp); rintro e w5 ⟨rfl, hw5⟩; subst hw5))
  rename_i hHeld
  clear hHeld
  have hX5 := hX.alloc hX.size (.cells #[.int .i64 0, .int .i64 0] 27)
  have hor : orI 0 0 0 = 0 := by decide
  rw [hor]
  obtain ⟨W5, hW5⟩ : ∃ W5, W5 = w4.alloc (.cells #[.int .i64 0, .int .i64 0] 27) := ⟨_, rfl⟩
  rw [← hW5] at hX5 ⊢
  clear hkk hX hB4 hW5 d0 d1 d2 d3 d4 d5 hor
  obtain ⟨d0, d1, d2, d3, d4, d5⟩ := hk W5 hX5
  have hB5 := hB1.trans (hX5.mono hB1.size)
  have hlt5 := Nat.lt_of_lt_of_le hlt hX5.size
  go_wp2
  go_ret2
  exact ⟨rfl, hB5⟩
theorem gblk5 (lx ly lz ux uy uz : Int) (w : World) (b1 : badC (lx, ly, lz) = false) (b2 : badC (ux, uy, uz) = false) (_ : ¬ lx > ux) (_ : ¬ ly > uy) (_ : lz > uz) :
    Calls Tryz.prog 29 #[boxV ((lx, ly, lz), (ux, uy, uz))] w fun e w' => e = .returned (.tuple #[.slice none 0 0, .int .i64 11]) ∧ Below w.heap.size w w' := by
  have cc : ∀ W, Calls Tryz.prog 77 #[.agg #[.int .i64 lx, .int .i64 ly, .int .i64 lz]] W fun e w' => e = .returned (.int .i64 0) ∧ Below W.heap.size W w' := fun W => by
    have := checkCellG lx ly lz W
    rwa [b1] at this
  have cc2 : ∀ W, Calls Tryz.prog 77 #[.agg #[.int .i64 ux, .int .i64 uy, .int .i64 uz]] W fun e w' => e = .returned (.int .i64 0) ∧ Below W.heap.size W w' := fun W => by
    have := checkCellG ux uy uz W
    rwa [b2] at this
  clear b1 b2
  unfold boxV
  dsimp only
  have hB1 : Below w.heap.size w (w.alloc (.cells #[.int .i64 lx, .int .i64 ly, .int .i64 lz, .int .i64 ux, .int .i64 uy, .int .i64 uz] 40)) := (Below.refl _ _).alloc (Nat.le_refl _) _
  obtain ⟨W, hW⟩ : ∃ W, W = w.alloc (.cells #[.int .i64 lx, .int .i64 ly, .int .i64 lz, .int .i64 ux, .int .i64 uy, .int .i64 uz] 40) := ⟨_, rfl⟩
  have d0 : W.cell? ⟨w.heap.size, 0, none⟩ = some (.int .i64 lx) := by subst hW; go_simp
  have d1 : W.cell? ⟨w.heap.size, 1, none⟩ = some (.int .i64 ly) := by subst hW; go_simp
  have d2 : W.cell? ⟨w.heap.size, 2, none⟩ = some (.int .i64 lz) := by subst hW; go_simp
  have d3 : W.cell? ⟨w.heap.size, 3, none⟩ = some (.int .i64 ux) := by subst hW; go_simp
  have d4 : W.cell? ⟨w.heap.size, 4, none⟩ = some (.int .i64 uy) := by subst hW; go_simp
  have d5 : W.cell? ⟨w.heap.size, 5, none⟩ = some (.int .i64 uz) := by subst hW; go_simp
  have hlt : w.heap.size < W.heap.size := by subst hW; simp
  have hk : ∀ W', Below W.heap.size W W' → W'.cell? ⟨w.heap.size, 0, none⟩ = some (.int .i64 lx) ∧ W'.cell? ⟨w.heap.size, 1, none⟩ = some (.int .i64 ly) ∧ W'.cell? ⟨w.heap.size, 2, none⟩ = some (.int .i64 lz) ∧ W'.cell? ⟨w.heap.size, 3, none⟩ = some (.int .i64 ux) ∧ W'.cell? ⟨w.heap.size, 4, none⟩ = some (.int .i64 uy) ∧ W'.cell? ⟨w.heap.size, 5, none⟩ = some (.int .i64 uz) := fun W' h =>
    ⟨(h.cell (p := ⟨w.heap.size, 0, none⟩) hlt).trans d0, (h.cell (p := ⟨w.heap.size, 1, none⟩) hlt).trans d1, (h.cell (p := ⟨w.heap.size, 2, none⟩) hlt).trans d2, (h.cell (p := ⟨w.heap.size, 3, none⟩) hlt).trans d3, (h.cell (p := ⟨w.heap.size, 4, none⟩) hlt).trans d4, (h.cell (p := ⟨w.heap.size, 5, none⟩) hlt).trans d5⟩
  rw [← hW] at hB1
  go_enter Tryz.func29, Tryz.ntmps29
  go_wp2
  rw [← hW]
  clear hW
  have hX : Below W.heap.size W W.drew := (Below.refl _ _).drew
  go_region_held3 (fun w' => w'.cell? ⟨w.heap.size, 0, none⟩ = some (.int .i64 lx) ∧ w'.cell? ⟨w.heap.size, 1, none⟩ = some (.int .i64 ly) ∧ w'.cell? ⟨w.heap.size, 2, none⟩ = some (.int .i64 lz) ∧ w'.cell? ⟨w.heap.size, 3, none⟩ = some (.int .i64 ux) ∧ w'.cell? ⟨w.heap.size, 4, none⟩ = some (.int .i64 uy) ∧ w'.cell? ⟨w.heap.size, 5, none⟩ = some (.int .i64 uz)) (first | exact hkk | exact ⟨d0, d1, d2, d3, d4, d5⟩ | go_keep) (first
    | (go_at_call 77; (first | (with_reducible refine (cc _).mono ?_) | (with_reducible refine (cc2 _).mono ?_)); rintro e w4 ⟨rfl, hB4⟩; have hX := hX.trans (hB4.mono hX.size); have hkk := hk _ hX)
    | (go_at_call 81; refine (first2_ok 0 0 _ _ _ ?_ ?_).mono ?_; (go_simp); (go_simp); rintro e w5 ⟨rfl, hw5⟩; subst hw5))
  rename_i hHeld
  clear hHeld
  have hX5 := hX.alloc hX.size (.cells #[.int .i64 0, .int .i64 0] 27)
  have hor : orI 0 0 0 = 0 := by decide
  rw [hor]
  obtain ⟨W5, hW5⟩ : ∃ W5, W5 = w4.alloc (.cells #[.int .i64 0, .int .i64 0] 27) := ⟨_, rfl⟩
  rw [← hW5] at hX5 ⊢
  clear hkk hX hB4 hW5 d0 d1 d2 d3 d4 d5 hor
  obtain ⟨d0, d1, d2, d3, d4, d5⟩ := hk W5 hX5
  have hB5 := hB1.trans (hX5.mono hB1.size)
  have hlt5 := Nat.lt_of_lt_of_le hlt hX5.size
  go_wp2
  go_ret2
  exact ⟨rfl, hB5⟩
theorem gblk6 (lx ly lz ux uy uz : Int) (w : World) (b1 : badC (lx, ly, lz) = false) (b2 : badC (ux, uy, uz) = false) (_ : ¬ lx > ux) (_ : ¬ ly > uy) (_ : ¬ lz > uz) (hs : sizeB ((lx, ly, lz), (ux, uy, uz)) > 4096) :
    Calls Tryz.prog 29 #[boxV ((lx, ly, lz), (ux, uy, uz))] w fun e w' => e = .returned (.tuple #[.slice none 0 0, .int .i64 5]) ∧ Below w.heap.size w w' := by
  have cc : ∀ W, Calls Tryz.prog 77 #[.agg #[.int .i64 lx, .int .i64 ly, .int .i64 lz]] W fun e w' => e = .returned (.int .i64 0) ∧ Below W.heap.size W w' := fun W => by
    have := checkCellG lx ly lz W
    rwa [b1] at this
  have cc2 : ∀ W, Calls Tryz.prog 77 #[.agg #[.int .i64 ux, .int .i64 uy, .int .i64 uz]] W fun e w' => e = .returned (.int .i64 0) ∧ Below W.heap.size W w' := fun W => by
    have := checkCellG ux uy uz W
    rwa [b2] at this
  have hvol := vol_ok ((lx, ly, lz), (ux, uy, uz)) (badC_near.1 b1) (badC_near.1 b2)
  generalize sizeB ((lx, ly, lz), (ux, uy, uz)) = S at hs hvol
  unfold boxV at hvol
  dsimp only at hvol
  clear b1 b2
  unfold boxV
  dsimp only
  have hB1 : Below w.heap.size w (w.alloc (.cells #[.int .i64 lx, .int .i64 ly, .int .i64 lz, .int .i64 ux, .int .i64 uy, .int .i64 uz] 40)) := (Below.refl _ _).alloc (Nat.le_refl _) _
  obtain ⟨W, hW⟩ : ∃ W, W = w.alloc (.cells #[.int .i64 lx, .int .i64 ly, .int .i64 lz, .int .i64 ux, .int .i64 uy, .int .i64 uz] 40) := ⟨_, rfl⟩
  have d0 : W.cell? ⟨w.heap.size, 0, none⟩ = some (.int .i64 lx) := by subst hW; go_simp
  have d1 : W.cell? ⟨w.heap.size, 1, none⟩ = some (.int .i64 ly) := by subst hW; go_simp
  have d2 : W.cell? ⟨w.heap.size, 2, none⟩ = some (.int .i64 lz) := by subst hW; go_simp
  have d3 : W.cell? ⟨w.heap.size, 3, none⟩ = some (.int .i64 ux) := by subst hW; go_simp
  have d4 : W.cell? ⟨w.heap.size, 4, none⟩ = some (.int .i64 uy) := by subst hW; go_simp
  have d5 : W.cell? ⟨w.heap.size, 5, none⟩ = some (.int .i64 uz) := by subst hW; go_simp
  have hlt : w.heap.size < W.heap.size := by subst hW; simp
  have hk : ∀ W', Below W.heap.size W W' → W'.cell? ⟨w.heap.size, 0, none⟩ = some (.int .i64 lx) ∧ W'.cell? ⟨w.heap.size, 1, none⟩ = some (.int .i64 ly) ∧ W'.cell? ⟨w.heap.size, 2, none⟩ = some (.int .i64 lz) ∧ W'.cell? ⟨w.heap.size, 3, none⟩ = some (.int .i64 ux) ∧ W'.cell? ⟨w.heap.size, 4, none⟩ = some (.int .i64 uy) ∧ W'.cell? ⟨w.heap.size, 5, none⟩ = some (.int .i64 uz) := fun W' h =>
    ⟨(h.cell (p := ⟨w.heap.size, 0, none⟩) hlt).trans d0, (h.cell (p := ⟨w.heap.size, 1, none⟩) hlt).trans d1, (h.cell (p := ⟨w.heap.size, 2, none⟩) hlt).trans d2, (h.cell (p := ⟨w.heap.size, 3, none⟩) hlt).trans d3, (h.cell (p := ⟨w.heap.size, 4, none⟩) hlt).trans d4, (h.cell (p := ⟨w.heap.size, 5, none⟩) hlt).trans d5⟩
  rw [← hW] at hB1
  go_enter Tryz.func29, Tryz.ntmps29
  go_wp2
  rw [← hW]
  clear hW
  have hX : Below W.heap.size W W.drew := (Below.refl _ _).drew
  go_region_held3 (fun w' => w'.cell? ⟨w.heap.size, 0, none⟩ = some (.int .i64 lx) ∧ w'.cell? ⟨w.heap.size, 1, none⟩ = some (.int .i64 ly) ∧ w'.cell? ⟨w.heap.size, 2, none⟩ = some (.int .i64 lz) ∧ w'.cell? ⟨w.heap.size, 3, none⟩ = some (.int .i64 ux) ∧ w'.cell? ⟨w.heap.size, 4, none⟩ = some (.int .i64 uy) ∧ w'.cell? ⟨w.heap.size, 5, none⟩ = some (.int .i64 uz)) (first | exact hkk | exact ⟨d0, d1, d2, d3, d4, d5⟩ | go_keep) (first
    | (go_at_call 77; (first | (with_reducible refine (cc _).mono ?_) | (with_reducible refine (cc2 _).mono ?_)); rintro e w4 ⟨rfl, hB4⟩; have hX := hX.trans (hB4.mono hX.size); have hkk := hk _ hX)
    | (go_at_call 81; refine (first2_ok 0 0 _ _ _ ?_ ?_).mono ?_; (go_simp); (go_simp); rintro e w5 ⟨rfl, hw5⟩; subst hw5))
  rename_i hHeld
  clear hHeld
  have hX5 := hX.alloc hX.size (.cells #[.int .i64 0, .int .i64 0] 27)
  have hor : orI 0 0 0 = 0 := by decide
  rw [hor]
  obtain ⟨W5, hW5⟩ : ∃ W5, W5 = w4.alloc (.cells #[.int .i64 0, .int .i64 0] 27) := ⟨_, rfl⟩
  rw [← hW5] at hX5 ⊢
  clear hkk hX hB4 hW5 d0 d1 d2 d3 d4 d5 hor
  obtain ⟨d0, d1, d2, d3, d4, d5⟩ := hk W5 hX5
  have hB5 := hB1.trans (hX5.mono hB1.size)
  have hlt5 := Nat.lt_of_lt_of_le hlt hX5.size
  go_wp2_with (go_at_call 85; refine (hvol _).mono ?_; rintro e w6 ⟨rfl, hB6⟩)
  go_ret2
  exact ⟨rfl, hB5.trans (hB6.mono hB5.size)⟩
theorem blockE (b : Cel × Cel) (w : World) (h : boxE b ≠ 0) :
    Calls Tryz.prog 29 #[boxV b] w fun e w' => e = .returned (.tuple #[.slice none 0 0, .int .i64 (boxE b)]) ∧ Below w.heap.size w w' := by
  obtain ⟨⟨lx, ly, lz⟩, ⟨ux, uy, uz⟩⟩ := b
  revert h
  unfold boxE
  cases b1 : badC (lx, ly, lz) with
  | true => intro _; exact gblk1 lx ly lz ux uy uz w 3 _ (by rw [b1]; rfl) rfl (by unfold orI; rfl)
  | false =>
    cases b2 : badC (ux, uy, uz) with
    | true => intro _; exact gblk1 lx ly lz ux uy uz w 0 3 (by rw [b1]; rfl) (by rw [b2]; rfl) (by unfold orI; rfl)
    | false =>
      simp only [Bool.or_self, Bool.false_eq_true, if_false]
      by_cases h1 : lx > ux
      · rw [if_pos (by omega)]
        intro _
        exact gblk3 lx ly lz ux uy uz w b1 b2 h1
      · by_cases h2 : ly > uy
        · rw [if_pos (by omega)]
          intro _
          exact gblk4 lx ly lz ux uy uz w b1 b2 h1 h2
        · by_cases h3 : lz > uz
          · rw [if_pos (by omega)]
            intro _
            exact gblk5 lx ly lz ux uy uz w b1 b2 h1 h2 h3
          · rw [if_neg (by omega)]
            by_cases h4 : sizeB ((lx, ly, lz), (ux, uy, uz)) > 4096
            · rw [if_pos h4]
              intro _
              exact gblk6 lx ly lz ux uy uz w b1 b2 h1 h2 h3 h4
            · rw [if_neg h4]
              intro h
              exact absurd rfl h
end Go.Proofs
end

section
/- The reference's Block, of a box with cells. -/
namespace Go.Proofs
open Go.RowKit
set_option maxHeartbeats 8000000
set_option maxRecDepth 1000000
theorem upFrom_step {a u : Int} (h : a ≤ u) : upFrom a (u + 1 - a).toNat = a :: upFrom (a + 1) (u + 1 - (a + 1)).toNat := by
  have e : (u + 1 - a).toNat = (u + 1 - (a + 1)).toNat + 1 := by omega
  rw [e]
  rfl
theorem upFrom_end {a u : Int} (h : ¬ a ≤ u) : upFrom a (u + 1 - a).toNat = [] := by
  have e : (u + 1 - a).toNat = 0 := by omega
  rw [e]
  rfl
theorem refBlock_ok (b : Cel × Cel) (h1 : Near b.1 1000) (h2 : Near b.2 1000) (hlen : (boxL b).length ≤ 400000) (w : World) :
    Calls Tryz.prog 30 #[boxV b] w fun e w' => ∃ v, e = .returned v ∧ Own w' w.heap.size v (boxL b) ∧ Below w.heap.size w w' := by
  obtain ⟨⟨lx, ly, lz⟩, ⟨ux, uy, uz⟩⟩ := b
  have hL : boxL ((lx, ly, lz), (ux, uy, uz)) = rowX ly lz (uy + 1 - ly).toNat (uz + 1 - lz).toNat lx (ux + 1 - lx).toNat := rfl
  generalize boxL ((lx, ly, lz), (ux, uy, uz)) = xs at hL hlen ⊢
  unfold Near at h1 h2
  dsimp only at h1 h2
  unfold boxV
  dsimp only
  obtain ⟨W, hW⟩ : ∃ W, W = w.alloc (.cells #[.int .i64 lx, .int .i64 ly, .int .i64 lz, .int .i64 ux, .int .i64 uy, .int .i64 uz] 41) := ⟨_, rfl⟩
  have hBW : Below w.heap.size w W := by subst hW; exact (Below.refl _ _).alloc (Nat.le_refl _) _
  have d0 : W.cell? ⟨w.heap.size, 0, none⟩ = some (.int .i64 lx) := by subst hW; go_simp
  have d1 : W.cell? ⟨w.heap.size, 1, none⟩ = some (.int .i64 ly) := by subst hW; go_simp
  have d2 : W.cell? ⟨w.heap.size, 2, none⟩ = some (.int .i64 lz) := by subst hW; go_simp
  have d3 : W.cell? ⟨w.heap.size, 3, none⟩ = some (.int .i64 ux) := by subst hW; go_simp
  have d4 : W.cell? ⟨w.heap.size, 4, none⟩ = some (.int .i64 uy) := by subst hW; go_simp
  have d5 : W.cell? ⟨w.heap.size, 5, none⟩ = some (.int .i64 uz) := by subst hW; go_simp
  have hlt : w.heap.size < W.heap.size := by subst hW; simp
  have kk : ∀ W', Below W.heap.size W W' → W'.cell? ⟨w.heap.size, 1, none⟩ = some (.int .i64 ly) ∧ W'.cell? ⟨w.heap.size, 2, none⟩ = some (.int .i64 lz) ∧ W'.cell? ⟨w.heap.size, 3, none⟩ = some (.int .i64 ux) ∧ W'.cell? ⟨w.heap.size, 4, none⟩ = some (.int .i64 uy) ∧ W'.cell? ⟨w.heap.size, 5, none⟩ = some (.int .i64 uz) := fun W' h =>
    ⟨(h.cell (p := ⟨w.heap.size, 1, none⟩) hlt).trans d1, (h.cell (p := ⟨w.heap.size, 2, none⟩) hlt).trans d2, (h.cell (p := ⟨w.heap.size, 3, none⟩) hlt).trans d3, (h.cell (p := ⟨w.heap.size, 4, none⟩) hlt).trans d4, (h.cell (p := ⟨w.heap.size, 5, none⟩) hlt).trans d5⟩
  go_enter Tryz.func30, Tryz.ntmps30
  go_upto_region 2 with fail
  rw [← hW]
  clear hW
  go_wp2
  have HL := Lib.hid hL
  clear hL d1 d2 d3 d4 d5 d0
  go_loopw [3, 4] (fun s i wr => ∃ (x : Int) (out : List Cel), lx ≤ x ∧ (x ≤ ux + 1 ∨ x = lx) ∧ i = .int .i64 x ∧ Own wr W.heap.size s out ∧ Below W.heap.size W wr ∧ xs = out ++ rowX ly lz (uy + 1 - ly).toNat (uz + 1 - lz).toNat x (ux + 1 - x).toNat) (fun _ i _ => (ux + 1 - intOf i).toNat)
  case atStart => exact ⟨lx, [], Int.le_refl _, .inr rfl, rfl, Own.nil _ _, Below.refl _ _, HL.out⟩
  case round =>
    obtain ⟨x, out, hx0, hx1, rfl, hown, hBel, hxs⟩ := hrel
    rename World => w1
    obtain ⟨k1, k2, k3, k4, k5⟩ := kk w1 hBel
    by_cases hx : x ≤ ux
    · have hs : rowX ly lz (uy + 1 - ly).toNat (uz + 1 - lz).toNat x (ux + 1 - x).toNat = rowY x lz (uz + 1 - lz).toNat ly (uy + 1 - ly).toNat ++ rowX ly lz (uy + 1 - ly).toNat (uz + 1 - lz).toNat (x + 1) (ux + 1 - (x + 1)).toNat := by
        unfold rowX
        rw [upFrom_step hx]
        rfl
      rw [hs] at hxs
      obtain ⟨R, hR⟩ : ∃ R, rowX ly lz (uy + 1 - ly).toNat (uz + 1 - lz).toNat (x + 1) (ux + 1 - (x + 1)).toNat = R := ⟨_, rfl⟩
      rw [hR] at hxs
      have HR := Lib.hid hR
      have HX := Lib.hid hxs
      clear hs hR hxs
      go_wp2
      go_loopw [3, 5] (fun s i wr => ∃ (y : Int) (out : List Cel), ly ≤ y ∧ (y ≤ uy + 1 ∨ y = ly) ∧ i = .int .i64 y ∧ Own wr W.heap.size s out ∧ Below W.heap.size W wr ∧ xs = out ++ (rowY x lz (uz + 1 - lz).toNat y (uy + 1 - y).toNat ++ R)) (fun _ i _ => (uy + 1 - intOf i).toNat)
      case atStart => exact ⟨ly, out, Int.le_refl _, .inr rfl, rfl, hown, hBel, HX.out⟩
      case round =>
        obtain ⟨y, out2, hy0, hy1, rfl, hown2, hBel2, hxs2⟩ := hrel
        rename World => w2
        obtain ⟨k1, k2, k3, k4, k5⟩ := kk w2 hBel2
        clear hown hBel HX
        by_cases hy : y ≤ uy
        · have hs : rowY x lz (uz + 1 - lz).toNat y (uy + 1 - y).toNat = rowZ x y lz (uz + 1 - lz).toNat ++ rowY x lz (uz + 1 - lz).toNat (y + 1) (uy + 1 - (y + 1)).toNat := by
            unfold rowY
            rw [upFrom_step hy]
            rfl
          rw [hs, List.append_assoc] at hxs2
          obtain ⟨R2, hR2⟩ : ∃ R2, rowY x lz (uz + 1 - lz).toNat (y + 1) (uy + 1 - (y + 1)).toNat ++ R = R2 := ⟨_, rfl⟩
          rw [hR2] at hxs2
          have HR2 := Lib.hid hR2
          have HX2 := Lib.hid hxs2
          clear hs hR2 hxs2
          go_wp2
          go_loopw [3, 6] (fun s i wr => ∃ (z : Int) (out : List Cel), lz ≤ z ∧ (z ≤ uz + 1 ∨ z = lz) ∧ i = .int .i64 z ∧ Own wr W.heap.size s out ∧ Below W.heap.size W wr ∧ xs = out ++ (rowZ x y z (uz + 1 - z).toNat ++ R2)) (fun _ i _ => (uz + 1 - intOf i).toNat)
          case atStart => exact ⟨lz, out2, Int.le_refl _, .inr rfl, rfl, hown2, hBel2, HX2.out⟩
          case round =>
            obtain ⟨z, out3, hz0, hz1, rfl, hown3, hBel3, hxs3⟩ := hrel
            rename World => w3
            obtain ⟨k1, k2, k3, k4, k5⟩ := kk w3 hBel3
            clear hown2 hBel2 HX2
            by_cases hz : z ≤ uz
            · have hs : rowZ x y z (uz + 1 - z).toNat = (x, y, z) :: rowZ x y (z + 1) (uz + 1 - (z + 1)).toNat := by
                unfold rowZ
                rw [upFrom_step hz]
                rfl
              rw [hs] at hxs3
              have hl3 : out3.length ≤ 400000 := by
                rw [hxs3, List.length_append] at hlen
                omega
              have e : xs = (out3 ++ [(x, y, z)]) ++ (rowZ x y (z + 1) (uz + 1 - (z + 1)).toNat ++ R2) := by
                rw [hxs3]
                simp
              have HX3 := Lib.hid e
              have hown4 := hown3.alloc (.cells #[.int .i64 x, .int .i64 y, .int .i64 z] 38)
              have hBa : Below W.heap.size W (w3.alloc (.cells #[.int .i64 x, .int .i64 y, .int .i64 z] 38)) := hBel3.alloc hBel3.size _
              clear hs hxs3 e
              go_wp2_with (at_builtin; refine wpList_append_sl rfl _ _ rfl W.heap.size ?cE _ _ rfl hown4 _ [(x, y, z)] rfl (.inr ⟨_, 1, rfl, row_one w3 x y z⟩) ?cC ?_)
              case cC => simp; omega
              case cE => exact hBa.size
              intro v1 w4 hown5 hB4
              go_wp2
              exact ⟨⟨z + 1, out3 ++ [(x, y, z)], by omega, .inl (by omega), rfl, hown5, hBa.trans hB4, HX3.out⟩, by simp [intOf]; omega⟩
            · have hs : rowZ x y z (uz + 1 - z).toNat = [] := by
                unfold rowZ
                rw [upFrom_end hz]
                rfl
              rw [hs, List.nil_append, ← HR2.out] at hxs3
              have HX3 := Lib.hid hxs3
              clear hs hxs3
              go_wp2
              exact ⟨⟨y + 1, out3, by omega, .inl (by omega), rfl, hown3, hBel3, HX3.out⟩, by simp [intOf]; omega⟩
        · have hs : rowY x lz (uz + 1 - lz).toNat y (uy + 1 - y).toNat = [] := by
            unfold rowY
            rw [upFrom_end hy]
            rfl
          rw [hs, List.nil_append, ← HR.out] at hxs2
          have HX2 := Lib.hid hxs2
          clear hs hxs2
          go_wp2
          exact ⟨⟨x + 1, out2, by omega, .inl (by omega), rfl, hown2, hBel2, HX2.out⟩, by simp [intOf]; omega⟩
    · have hs : rowX ly lz (uy + 1 - ly).toNat (uz + 1 - lz).toNat x (ux + 1 - x).toNat = [] := by
        unfold rowX
        rw [upFrom_end hx]
        rfl
      rw [hs, List.append_nil] at hxs
      have HX := Lib.hid hxs
      clear hs hxs
      go_wp2
      go_ret
      exact ⟨_, rfl, by rw [HX.out]; exact hown.mono hBW.size, hBW.trans (hBel.mono hBW.size)⟩
end Go.Proofs
end
