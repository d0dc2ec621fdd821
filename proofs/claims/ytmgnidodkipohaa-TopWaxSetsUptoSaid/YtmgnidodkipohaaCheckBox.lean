/- The reference's CheckBox, of a right box. -/
import Derived.Test.YtmgnidodkipohaaFewR
namespace Go.Proofs
open Go.RowKit
set_option maxHeartbeats 8000000
set_option maxRecDepth 1000000
def Wide (b : Cel × Cel) : Prop := b.1.1 ≤ b.2.1 ∧ b.1.2.1 ≤ b.2.2.1 ∧ b.1.2.2 ≤ b.2.2.2
theorem checkBox_ok (b : Cel × Cel) (h1 : Near b.1 1000) (h2 : Near b.2 1000) (hw : Wide b) (hs : sizeB b ≤ 4096) (w : World) :
    Calls Try.prog 16 #[boxV b] w fun e w' => e = .returned (.int .i64 0) ∧ Below w.heap.size w w' := by
  have b1 := badC_near.2 h1
  have b2 := badC_near.2 h2
  obtain ⟨⟨lx, ly, lz⟩, ⟨ux, uy, uz⟩⟩ := b
  have c1 := fun W => refCheckCellG lx ly lz W
  have c2 := fun W => refCheckCellG ux uy uz W
  dsimp only at b1 b2
  rw [b1] at c1
  rw [b2] at c2
  simp only [Bool.false_eq_true, if_false] at c1 c2
  have hz := fun W => size_ok ((lx, ly, lz), (ux, uy, uz)) h1 h2 W
  unfold Wide at hw
  obtain ⟨w1, w2, w3⟩ := hw
  dsimp only at w1 w2 w3
  generalize sizeB ((lx, ly, lz), (ux, uy, uz)) = S at hs hz
  unfold boxV at hz ⊢
  dsimp only at hz ⊢
  have hB1 : Below w.heap.size w (w.alloc (.cells #[.int .i64 lx, .int .i64 ly, .int .i64 lz, .int .i64 ux, .int .i64 uy, .int .i64 uz] 38)) := (Below.refl _ _).alloc (Nat.le_refl _) _
  obtain ⟨W, hW⟩ : ∃ W, W = w.alloc (.cells #[.int .i64 lx, .int .i64 ly, .int .i64 lz, .int .i64 ux, .int .i64 uy, .int .i64 uz] 38) := ⟨_, rfl⟩
  have d0 : W.cell? ⟨w.heap.size, 0, none⟩ = some (.int .i64 lx) := by subst hW; go_simp
  have d1 : W.cell? ⟨w.heap.size, 1, none⟩ = some (.int .i64 ly) := by subst hW; go_simp
  have d2 : W.cell? ⟨w.heap.size, 2, none⟩ = some (.int .i64 lz) := by subst hW; go_simp
  have d3 : W.cell? ⟨w.heap.size, 3, none⟩ = some (.int .i64 ux) := by subst hW; go_simp
  have d4 : W.cell? ⟨w.heap.size, 4, none⟩ = some (.int .i64 uy) := by subst hW; go_simp
  have d5 : W.cell? ⟨w.heap.size, 5, none⟩ = some (.int .i64 uz) := by subst hW; go_simp
  have hlt : w.heap.size < W.heap.size := by subst hW; simp
  rw [← hW] at hB1
  clear b1 b2 h1 h2
  go_enter Try.func16, Try.ntmps16
  go_wp2_with fail
  rw [← hW]
  clear hW
  refine (c1 W).mono ?_
  rintro e w2 ⟨rfl, hB2⟩
  have e0 := (hB2.cell (p := ⟨w.heap.size, 0, none⟩) hlt).trans d0
  have e1 := (hB2.cell (p := ⟨w.heap.size, 1, none⟩) hlt).trans d1
  have e2 := (hB2.cell (p := ⟨w.heap.size, 2, none⟩) hlt).trans d2
  have e3 := (hB2.cell (p := ⟨w.heap.size, 3, none⟩) hlt).trans d3
  have e4 := (hB2.cell (p := ⟨w.heap.size, 4, none⟩) hlt).trans d4
  have e5 := (hB2.cell (p := ⟨w.heap.size, 5, none⟩) hlt).trans d5
  have hlt2 : w.heap.size < w2.heap.size := Nat.lt_of_lt_of_le hlt hB2.size
  have hB02 := hB1.trans (hB2.mono hB1.size)
  clear c1 d0 d1 d2 d3 d4 d5 hB1 hB2 hlt
  go_wp2_with fail
  refine (c2 _).mono ?_
  rintro e w3 ⟨rfl, hB3⟩
  have d0 := (hB3.cell (p := ⟨w.heap.size, 0, none⟩) hlt2).trans e0
  have d1 := (hB3.cell (p := ⟨w.heap.size, 1, none⟩) hlt2).trans e1
  have d2 := (hB3.cell (p := ⟨w.heap.size, 2, none⟩) hlt2).trans e2
  have d3 := (hB3.cell (p := ⟨w.heap.size, 3, none⟩) hlt2).trans e3
  have d4 := (hB3.cell (p := ⟨w.heap.size, 4, none⟩) hlt2).trans e4
  have d5 := (hB3.cell (p := ⟨w.heap.size, 5, none⟩) hlt2).trans e5
  have hB03 := hB02.trans (hB3.mono hB02.size)
  clear c2 e0 e1 e2 e3 e4 e5 hB02 hB3 hlt2
  go_wp2_with (go_at_call 19; refine (hz _).mono ?_; rintro e w4 ⟨rfl, hB4⟩)
  go_ret
  exact ⟨rfl, hB03.trans (hB4.mono hB03.size)⟩
end Go.Proofs
