/- The reference's Near. -/
import Derived.Test.YtokhbkhoidpefaaGreatDoorMvd
import Derived.Test.YtokhbkhoidpefaaGreatDoorNb
import Derived.Deep.RegionHeld3
namespace Go.Proofs
open Go.RowKit
set_option maxHeartbeats 8000000
set_option maxRecDepth 1000000
theorem refNear_ok (c : Cel) (hc : Near c 3000) (w : World) :
    Calls Tryz.prog 90 #[cellV c] w fun e w' => ∃ v', e = .returned v' ∧ Own w' w.heap.size v' (nearL c) ∧ Below w.heap.size w w' := by
  obtain ⟨x, y, z⟩ := c
  unfold Near at hc
  unfold cellV
  dsimp only at hc ⊢
  have m1 := fun W => refMoved_ok x y z (-1) 0 0 W (by omega) (by omega) (by omega)
  have m2 := fun W => refMoved_ok x y z 0 (-1) 0 W (by omega) (by omega) (by omega)
  have m3 := fun W => refMoved_ok x y z 0 0 (-1) W (by omega) (by omega) (by omega)
  have m4 := fun W => refMoved_ok x y z 0 0 1 W (by omega) (by omega) (by omega)
  have m5 := fun W => refMoved_ok x y z 0 1 0 W (by omega) (by omega) (by omega)
  have m6 := fun W => refMoved_ok x y z 1 0 0 W (by omega) (by omega) (by omega)
  have ex : x + -1 = x - 1 := rfl
  have ey : y + -1 = y - 1 := rfl
  have ez : z + -1 = z - 1 := rfl
  simp only [Int.add_zero, ex, ey, ez] at m1 m2 m3 m4 m5 m6
  clear ex ey ez hc
  obtain ⟨W, hW⟩ : ∃ W, W = w.alloc (.cells #[.int .i64 x, .int .i64 y, .int .i64 z] 24) := ⟨_, rfl⟩
  have hBW : Below w.heap.size w W := by subst hW; exact (Below.refl _ _).alloc (Nat.le_refl _) _
  have e0 : W.cell? ⟨w.heap.size, 0, none⟩ = some (.int .i64 x) := by subst hW; go_simp
  have e1 : W.cell? ⟨w.heap.size, 1, none⟩ = some (.int .i64 y) := by subst hW; go_simp
  have e2 : W.cell? ⟨w.heap.size, 2, none⟩ = some (.int .i64 z) := by subst hW; go_simp
  have hs : w.heap.size < W.heap.size := by subst hW; simp
  have kS : ∀ W', Below W.heap.size W W' → W'.cell? ⟨w.heap.size, 0, none⟩ = some (.int .i64 x) ∧ W'.cell? ⟨w.heap.size, 1, none⟩ = some (.int .i64 y) ∧ W'.cell? ⟨w.heap.size, 2, none⟩ = some (.int .i64 z) := fun W' h => ⟨(h.cell (p := ⟨w.heap.size, _, none⟩) hs).trans e0, (h.cell (p := ⟨w.heap.size, _, none⟩) hs).trans e1, (h.cell (p := ⟨w.heap.size, _, none⟩) hs).trans e2⟩
  have hX : Below W.heap.size W W.drew := (Below.refl _ _).drew
  have hS0 := kS _ hX
  go_enter Tryz.func90, Tryz.ntmps90
  go_wp2
  rw [← hW]
  clear hW
  go_region_held3 (fun w' => w'.cell? ⟨w.heap.size, 0, none⟩ = some (.int .i64 x) ∧ w'.cell? ⟨w.heap.size, 1, none⟩ = some (.int .i64 y) ∧ w'.cell? ⟨w.heap.size, 2, none⟩ = some (.int .i64 z)) (first | exact hS0 | exact hS1 | exact kS _ (hX.alloc hX.size _) | go_keep) (first
    | (go_at_call 77; first
        | (with_reducible refine (m1 _).mono ?_; rintro e w1 ⟨rfl, hB⟩; replace hX := hX.trans (hB.mono hX.size); have hS1 := kS _ hX; clear hB)
        | (with_reducible refine (m2 _).mono ?_; rintro e w2 ⟨rfl, hB⟩; replace hX := hX.trans (hB.mono hX.size); have hS1 := kS _ hX; clear hB)
        | (with_reducible refine (m3 _).mono ?_; rintro e w3 ⟨rfl, hB⟩; replace hX := hX.trans (hB.mono hX.size); have hS1 := kS _ hX; clear hB)
        | (with_reducible refine (m4 _).mono ?_; rintro e w4 ⟨rfl, hB⟩; replace hX := hX.trans (hB.mono hX.size); have hS1 := kS _ hX; clear hB)
        | (with_reducible refine (m5 _).mono ?_; rintro e w5 ⟨rfl, hB⟩; replace hX := hX.trans (hB.mono hX.size); have hS1 := kS _ hX; clear hB)
        | (with_reducible refine (m6 _).mono ?_; rintro e w6 ⟨rfl, hB⟩; replace hX := hX.trans (hB.mono hX.size); have hS1 := kS _ hX; clear hB)))
  have hO : Own (w6.alloc (.cells #[.int .i64 (x - 1), .int .i64 y, .int .i64 z, .int .i64 x, .int .i64 (y - 1), .int .i64 z, .int .i64 x, .int .i64 y, .int .i64 (z - 1), .int .i64 x, .int .i64 y, .int .i64 (z + 1), .int .i64 x, .int .i64 (y + 1), .int .i64 z, .int .i64 (x + 1), .int .i64 y, .int .i64 z] 24)) W.heap.size (.slice (some ⟨w6.heap.size, 0, none⟩) 6 6) (nearL (x, y, z)) := World.ownsRow_lit w6 _ 6 hX.size (by unfold maxLen; omega) rfl
  have hB6 := hBW.trans ((hX.alloc hX.size (.cells #[.int .i64 (x - 1), .int .i64 y, .int .i64 z, .int .i64 x, .int .i64 (y - 1), .int .i64 z, .int .i64 x, .int .i64 y, .int .i64 (z - 1), .int .i64 x, .int .i64 y, .int .i64 (z + 1), .int .i64 x, .int .i64 (y + 1), .int .i64 z, .int .i64 (x + 1), .int .i64 y, .int .i64 z] 24)).mono hBW.size)
  clear e0 e1 e2 kS hS0 hS1 m1 m2 m3 m4 m5 m6
  go_wp2
  go_ret
  exact ⟨_, rfl, hO.lower hBW.size, hB6⟩
end Go.Proofs
