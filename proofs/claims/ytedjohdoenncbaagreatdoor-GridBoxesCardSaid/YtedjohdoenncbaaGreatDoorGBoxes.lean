import Derived.Test.YtedjohdoenncbaaGreatDoorG3
import Derived.Test.YtedjohdoenncbaaGreatDoorBlockR
import Derived.Test.YtedjohdoenncbaaGreatDoorBoundE
import Derived.Test.YtedjohdoenncbaaGreatDoorEqBox
import Derived.Test.YtedjohdoenncbaaGreatDoorHeldF
/- GridBoxes: the walk. -/
namespace Go.Proofs
open Go.RowKit
set_option maxHeartbeats 16000000
set_option maxRecDepth 1000000
theorem gboxes_out (A : Option Addr) (n ka : Nat) (lx ly lz ux uy uz : Int) (w : World) (kA : AwakeAt w) (h1 : shortB n 80 = false) :
    Calls Tryz.prog 4 #[.slice A n ka, boxV ((lx, ly, lz), (ux, uy, uz))] w fun e w' => e = .returned (.bool true) ∧ Below w.heap.size w w' := by
  unfold boxV
  dsimp only
  obtain ⟨W0, hW⟩ : ∃ W0, W0 = (w.alloc (.cells #[.int .i64 lx, .int .i64 ly, .int .i64 lz, .int .i64 ux, .int .i64 uy, .int .i64 uz] 40)).alloc (.cells #[.int .i64 lx, .int .i64 ly, .int .i64 lz, .int .i64 ux, .int .i64 uy, .int .i64 uz] 41) := ⟨_, rfl⟩
  have hK0 : Below w.heap.size w W0 := by subst hW; exact ((Below.refl _ _).alloc (Nat.le_refl _) _).alloc (by simp) _
  have k0 := kA W0 hK0
  have k1 := fun W => short_false h1 A ka W
  clear h1
  go_enter Tryz.func4, Tryz.ntmps4
  go_wp2_with fail
  rw [← hW]
  clear hW
  refine k0.mono ?_
  rintro e w1 ⟨rfl, hB1⟩
  have hK1 := hK0.trans (hB1.mono hK0.size)
  go_wp2_with fail
  refine (k1 _).mono ?_
  rintro e w' ⟨rfl, rfl⟩
  have k2 := kA w' hK1
  go_wp2_with fail
  refine k2.mono ?_
  rintro e w2 ⟨rfl, hB2⟩
  go_wp2
  go_ret
  exact ⟨rfl, hK1.trans (hB2.mono hK1.size)⟩
theorem gboxes_11 (l : List Cel) (A : Option Addr) (ka : Nat) (lx ly lz ux uy uz : Int) (w : World) (kA : AwakeAt w) (ha : Sl w (.slice A l.length ka) l) (h1 : shortB l.length 80 = true) (r : Int) (hr : chkI l = r) (h0 : r ≠ 0) (E : Int) (hE : boxE ((lx, ly, lz), (ux, uy, uz)) = E) (hE0 : E ≠ 0) :
    Calls Tryz.prog 4 #[.slice A l.length ka, boxV ((lx, ly, lz), (ux, uy, uz))] w fun e w' => e = .returned (.bool true) ∧ Below w.heap.size w w' := by
  have la := short_len h1 (by omega)
  obtain ⟨W0, hW⟩ : ∃ W0, W0 = (w.alloc (.cells #[.int .i64 lx, .int .i64 ly, .int .i64 lz, .int .i64 ux, .int .i64 uy, .int .i64 uz] 40)).alloc (.cells #[.int .i64 lx, .int .i64 ly, .int .i64 lz, .int .i64 ux, .int .i64 uy, .int .i64 uz] 41) := ⟨_, rfl⟩
  have hK0 : Below w.heap.size w W0 := by subst hW; exact ((Below.refl _ _).alloc (Nat.le_refl _) _).alloc (by simp) _
  have d0 : W0.cell? ⟨w.heap.size, 0, none⟩ = some (.int .i64 lx) := by subst hW; go_simp
  have d1 : W0.cell? ⟨w.heap.size, 1, none⟩ = some (.int .i64 ly) := by subst hW; go_simp
  have d2 : W0.cell? ⟨w.heap.size, 2, none⟩ = some (.int .i64 lz) := by subst hW; go_simp
  have d3 : W0.cell? ⟨w.heap.size, 3, none⟩ = some (.int .i64 ux) := by subst hW; go_simp
  have d4 : W0.cell? ⟨w.heap.size, 4, none⟩ = some (.int .i64 uy) := by subst hW; go_simp
  have d5 : W0.cell? ⟨w.heap.size, 5, none⟩ = some (.int .i64 uz) := by subst hW; go_simp
  have x0 : W0.cell? ⟨w.heap.size + 1, 0, none⟩ = some (.int .i64 lx) := by subst hW; go_simp
  have x1 : W0.cell? ⟨w.heap.size + 1, 1, none⟩ = some (.int .i64 ly) := by subst hW; go_simp
  have x2 : W0.cell? ⟨w.heap.size + 1, 2, none⟩ = some (.int .i64 lz) := by subst hW; go_simp
  have x3 : W0.cell? ⟨w.heap.size + 1, 3, none⟩ = some (.int .i64 ux) := by subst hW; go_simp
  have x4 : W0.cell? ⟨w.heap.size + 1, 4, none⟩ = some (.int .i64 uy) := by subst hW; go_simp
  have x5 : W0.cell? ⟨w.heap.size + 1, 5, none⟩ = some (.int .i64 uz) := by subst hW; go_simp
  have hlt : w.heap.size + 1 < W0.heap.size := by subst hW; simp
  have hlt' : w.heap.size < W0.heap.size := by omega
  have kk : ∀ W', Below W0.heap.size W0 W' → (W'.cell? ⟨w.heap.size, 0, none⟩ = some (.int .i64 lx) ∧ W'.cell? ⟨w.heap.size, 1, none⟩ = some (.int .i64 ly) ∧ W'.cell? ⟨w.heap.size, 2, none⟩ = some (.int .i64 lz) ∧ W'.cell? ⟨w.heap.size, 3, none⟩ = some (.int .i64 ux) ∧ W'.cell? ⟨w.heap.size, 4, none⟩ = some (.int .i64 uy) ∧ W'.cell? ⟨w.heap.size, 5, none⟩ = some (.int .i64 uz)) ∧ (W'.cell? ⟨w.heap.size + 1, 0, none⟩ = some (.int .i64 lx) ∧ W'.cell? ⟨w.heap.size + 1, 1, none⟩ = some (.int .i64 ly) ∧ W'.cell? ⟨w.heap.size + 1, 2, none⟩ = some (.int .i64 lz) ∧ W'.cell? ⟨w.heap.size + 1, 3, none⟩ = some (.int .i64 ux) ∧ W'.cell? ⟨w.heap.size + 1, 4, none⟩ = some (.int .i64 uy) ∧ W'.cell? ⟨w.heap.size + 1, 5, none⟩ = some (.int .i64 uz)) := fun W' h => ⟨⟨(h.cell (p := ⟨w.heap.size, 0, none⟩) hlt').trans d0, (h.cell (p := ⟨w.heap.size, 1, none⟩) hlt').trans d1, (h.cell (p := ⟨w.heap.size, 2, none⟩) hlt').trans d2, (h.cell (p := ⟨w.heap.size, 3, none⟩) hlt').trans d3, (h.cell (p := ⟨w.heap.size, 4, none⟩) hlt').trans d4, (h.cell (p := ⟨w.heap.size, 5, none⟩) hlt').trans d5⟩, ⟨(h.cell (p := ⟨w.heap.size + 1, 0, none⟩) hlt).trans x0, (h.cell (p := ⟨w.heap.size + 1, 1, none⟩) hlt).trans x1, (h.cell (p := ⟨w.heap.size + 1, 2, none⟩) hlt).trans x2, (h.cell (p := ⟨w.heap.size + 1, 3, none⟩) hlt).trans x3, (h.cell (p := ⟨w.heap.size + 1, 4, none⟩) hlt).trans x4, (h.cell (p := ⟨w.heap.size + 1, 5, none⟩) hlt).trans x5⟩⟩
  have hX0 := fun W (h : Below W0.heap.size W0 W) => hK0.trans (h.mono hK0.size)
  have k0 := kA W0 hK0
  have kS := fun W => short_true h1 A ka W
  have kC := fun W (h : Below W0.heap.size W0 W) => refCheckG l _ W (ha.below (hX0 W h)) (by unfold maxLen; omega)
  have kCB := fun W => checkBoxG ((lx, ly, lz), (ux, uy, uz)) W
  rw [hE] at kCB
  have kB := fun W (h : Below W0.heap.size W0 W) => boundE l _ W (ha.below (hX0 W h)) (by unfold maxLen; omega) r hr h0
  rw [hr] at kC
  have hln : l.length ≠ 0 := fun e => by
    have : l = [] := List.eq_nil_of_length_eq_zero e
    subst this
    exact h0 (by rw [← hr]; rfl)
  have hn0 : (((l.length : Nat) : Int) == 0) = false := by rw [beq_eq_false_iff_ne]; omega
  have kW := fun W => when_ok false 12 W
  have kF := fun blk W => firstL2 r 0 blk 2 W
  have e5 : fstI [r, 0] = r := by simp only [fstI]; split <;> simp_all
  rw [e5] at kF
  have heq := fun W => eqBoxG 0 0 0 0 0 0 W
  have hne : (r != 0) = true := by rw [bne_iff_ne]; exact h0
  have hrr : (r != r) = false := by simp
  have hr0 : (r == 0) = false := by rw [beq_eq_false_iff_ne]; exact h0
  unfold boxO at kB
  clear hln e5 hr h0
  have kBl := fun W => blockE ((lx, ly, lz), (ux, uy, uz)) W (by rw [hE]; exact hE0)
  rw [hE] at kBl
  have kBad := fun W => cells_bad none none 0 0 0 E hE0 W
  have hEn : (E != 0) = true := by rw [bne_iff_ne]; exact hE0
  have hE1 : (E == 0) = false := by rw [beq_eq_false_iff_ne]; exact hE0
  unfold boxV at kBl
  dsimp only at kBl
  clear hE hE0
  unfold boxV at kB kCB ⊢
  dsimp only at kB kCB ⊢
  clear kA ha h1 la d0 d1 d2 d3 d4 d5 x0 x1 x2 x3 x4 x5
  go_enter Tryz.func4, Tryz.ntmps4
  go_wp2_with fail
  rw [← hW]
  clear hW
  refine k0.mono ?_
  rintro e w1 ⟨rfl, hX1⟩
  go_wp2_with fail
  refine (kS _).mono ?_
  rintro e w1a ⟨rfl, hw1a⟩
  subst hw1a
  have q1 := kB _ hX1
  go_wp2_with fail
  refine q1.mono ?_
  rintro e w2 ⟨rfl, hB2⟩
  have hX2 := hX1.trans (hB2.mono hX1.size)
  obtain ⟨W2, hW2⟩ : ∃ W2, W2 = w2.alloc (.cells #[.int .i64 0, .int .i64 0, .int .i64 0, .int .i64 0, .int .i64 0, .int .i64 0] 40) := ⟨_, rfl⟩
  have y0 : W2.cell? ⟨w2.heap.size, 0, none⟩ = some (.int .i64 0) := by subst hW2; go_simp
  have y1 : W2.cell? ⟨w2.heap.size, 1, none⟩ = some (.int .i64 0) := by subst hW2; go_simp
  have y2 : W2.cell? ⟨w2.heap.size, 2, none⟩ = some (.int .i64 0) := by subst hW2; go_simp
  have y3 : W2.cell? ⟨w2.heap.size, 3, none⟩ = some (.int .i64 0) := by subst hW2; go_simp
  have y4 : W2.cell? ⟨w2.heap.size, 4, none⟩ = some (.int .i64 0) := by subst hW2; go_simp
  have y5 : W2.cell? ⟨w2.heap.size, 5, none⟩ = some (.int .i64 0) := by subst hW2; go_simp
  have hX3 : Below W0.heap.size W0 W2 := by subst hW2; exact hX2.alloc hX2.size _
  have hlo : w2.heap.size < W2.heap.size := by subst hW2; simp
  have ko : ∀ W', Below W2.heap.size W2 W' → W'.cell? ⟨w2.heap.size, 0, none⟩ = some (.int .i64 0) ∧ W'.cell? ⟨w2.heap.size, 1, none⟩ = some (.int .i64 0) ∧ W'.cell? ⟨w2.heap.size, 2, none⟩ = some (.int .i64 0) ∧ W'.cell? ⟨w2.heap.size, 3, none⟩ = some (.int .i64 0) ∧ W'.cell? ⟨w2.heap.size, 4, none⟩ = some (.int .i64 0) ∧ W'.cell? ⟨w2.heap.size, 5, none⟩ = some (.int .i64 0) := fun W' h => ⟨(h.cell (p := ⟨w2.heap.size, 0, none⟩) hlo).trans y0, (h.cell (p := ⟨w2.heap.size, 1, none⟩) hlo).trans y1, (h.cell (p := ⟨w2.heap.size, 2, none⟩) hlo).trans y2, (h.cell (p := ⟨w2.heap.size, 3, none⟩) hlo).trans y3, (h.cell (p := ⟨w2.heap.size, 4, none⟩) hlo).trans y4, (h.cell (p := ⟨w2.heap.size, 5, none⟩) hlo).trans y5⟩
  have q2 := kC _ hX3
  clear kB kC hB2 hX1 hX2 q1 y0 y1 y2 y3 y4 y5
  go_wp2_with fail
  rw [← hW2]
  clear hW2
  refine q2.mono ?_
  rintro e w3 ⟨rfl, hO3⟩
  have hX4 := hX3.trans (hO3.mono hX3.size)
  go_wp2_with fail
  refine (kW _).mono ?_
  rintro e w3a ⟨rfl, hw3a⟩
  subst hw3a
  go_wp2_with fail
  refine (kF _ _ (by go_simp) (by go_simp)).mono ?_
  rintro e w4 ⟨rfl, hw4⟩
  have hO4 : Below W2.heap.size W2 w4 := by subst hw4; exact hO3.alloc hO3.size _
  have hX5 : Below W0.heap.size W0 w4 := hX3.trans (hO4.mono hX3.size)
  clear hw4 hO3 hX4 kF kW q2
  obtain ⟨y0, y1, y2, y3, y4, y5⟩ := ko w4 hO4
  go_wp2_with fail
  go_quiet (fail)
  rename Nat => qa
  obtain ⟨W5, hW5⟩ : ∃ W5, W5 = w4.drewN qa := ⟨_, rfl⟩
  have hX6 : Below W0.heap.size W0 W5 := by subst hW5; exact ⟨hX5.os, hX5.tape, hX5.output, hX5.size, hX5.block⟩
  rw [← hW5]
  clear hW5 hX5 hO4 ko y0 y1 y2 y3 y4 y5 heq
  obtain ⟨⟨d0, d1, d2, d3, d4, d5⟩, ⟨x0, x1, x2, x3, x4, x5⟩⟩ := kk W5 hX6
  go_wp2_with fail
  refine (kCB _).mono ?_
  rintro e w6 ⟨rfl, hB6⟩
  have hX7 := hX6.trans (hB6.mono hX6.size)
  clear d0 d1 d2 d3 d4 d5 x0 x1 x2 x3 x4 x5 hB6 kCB
  obtain ⟨⟨d0, d1, d2, d3, d4, d5⟩, ⟨x0, x1, x2, x3, x4, x5⟩⟩ := kk w6 hX7
  go_wp2_with fail
  refine (kBl _).mono ?_
  rintro e w7 ⟨rfl, hB7⟩
  have hX8 := hX7.trans (hB7.mono hX7.size)
  go_wp2_with fail
  refine (kBad _).mono ?_
  rintro e w8 ⟨rfl, hw8⟩
  subst hw8
  go_wp2
  go_ret
  exact ⟨rfl, hX0 _ hX8⟩
theorem gboxes_12 (l : List Cel) (A : Option Addr) (ka : Nat) (lx ly lz ux uy uz : Int) (w : World) (kA : AwakeAt w) (ha : Sl w (.slice A l.length ka) l) (h1 : shortB l.length 80 = true) (r : Int) (hr : chkI l = r) (h0 : r ≠ 0) (hE : boxE ((lx, ly, lz), (ux, uy, uz)) = 0) (n1 : Near (lx, ly, lz) 1000) (n2 : Near (ux, uy, uz) 1000) (S : Int) (hS : sizeB ((lx, ly, lz), (ux, uy, uz)) = S) (hS6 : S > 600) :
    Calls Tryz.prog 4 #[.slice A l.length ka, boxV ((lx, ly, lz), (ux, uy, uz))] w fun e w' => e = .returned (.bool true) ∧ Below w.heap.size w w' := by
  have la := short_len h1 (by omega)
  obtain ⟨W0, hW⟩ : ∃ W0, W0 = (w.alloc (.cells #[.int .i64 lx, .int .i64 ly, .int .i64 lz, .int .i64 ux, .int .i64 uy, .int .i64 uz] 40)).alloc (.cells #[.int .i64 lx, .int .i64 ly, .int .i64 lz, .int .i64 ux, .int .i64 uy, .int .i64 uz] 41) := ⟨_, rfl⟩
  have hK0 : Below w.heap.size w W0 := by subst hW; exact ((Below.refl _ _).alloc (Nat.le_refl _) _).alloc (by simp) _
  have d0 : W0.cell? ⟨w.heap.size, 0, none⟩ = some (.int .i64 lx) := by subst hW; go_simp
  have d1 : W0.cell? ⟨w.heap.size, 1, none⟩ = some (.int .i64 ly) := by subst hW; go_simp
  have d2 : W0.cell? ⟨w.heap.size, 2, none⟩ = some (.int .i64 lz) := by subst hW; go_simp
  have d3 : W0.cell? ⟨w.heap.size, 3, none⟩ = some (.int .i64 ux) := by subst hW; go_simp
  have d4 : W0.cell? ⟨w.heap.size, 4, none⟩ = some (.int .i64 uy) := by subst hW; go_simp
  have d5 : W0.cell? ⟨w.heap.size, 5, none⟩ = some (.int .i64 uz) := by subst hW; go_simp
  have x0 : W0.cell? ⟨w.heap.size + 1, 0, none⟩ = some (.int .i64 lx) := by subst hW; go_simp
  have x1 : W0.cell? ⟨w.heap.size + 1, 1, none⟩ = some (.int .i64 ly) := by subst hW; go_simp
  have x2 : W0.cell? ⟨w.heap.size + 1, 2, none⟩ = some (.int .i64 lz) := by subst hW; go_simp
  have x3 : W0.cell? ⟨w.heap.size + 1, 3, none⟩ = some (.int .i64 ux) := by subst hW; go_simp
  have x4 : W0.cell? ⟨w.heap.size + 1, 4, none⟩ = some (.int .i64 uy) := by subst hW; go_simp
  have x5 : W0.cell? ⟨w.heap.size + 1, 5, none⟩ = some (.int .i64 uz) := by subst hW; go_simp
  have hlt : w.heap.size + 1 < W0.heap.size := by subst hW; simp
  have hlt' : w.heap.size < W0.heap.size := by omega
  have kk : ∀ W', Below W0.heap.size W0 W' → (W'.cell? ⟨w.heap.size, 0, none⟩ = some (.int .i64 lx) ∧ W'.cell? ⟨w.heap.size, 1, none⟩ = some (.int .i64 ly) ∧ W'.cell? ⟨w.heap.size, 2, none⟩ = some (.int .i64 lz) ∧ W'.cell? ⟨w.heap.size, 3, none⟩ = some (.int .i64 ux) ∧ W'.cell? ⟨w.heap.size, 4, none⟩ = some (.int .i64 uy) ∧ W'.cell? ⟨w.heap.size, 5, none⟩ = some (.int .i64 uz)) ∧ (W'.cell? ⟨w.heap.size + 1, 0, none⟩ = some (.int .i64 lx) ∧ W'.cell? ⟨w.heap.size + 1, 1, none⟩ = some (.int .i64 ly) ∧ W'.cell? ⟨w.heap.size + 1, 2, none⟩ = some (.int .i64 lz) ∧ W'.cell? ⟨w.heap.size + 1, 3, none⟩ = some (.int .i64 ux) ∧ W'.cell? ⟨w.heap.size + 1, 4, none⟩ = some (.int .i64 uy) ∧ W'.cell? ⟨w.heap.size + 1, 5, none⟩ = some (.int .i64 uz)) := fun W' h => ⟨⟨(h.cell (p := ⟨w.heap.size, 0, none⟩) hlt').trans d0, (h.cell (p := ⟨w.heap.size, 1, none⟩) hlt').trans d1, (h.cell (p := ⟨w.heap.size, 2, none⟩) hlt').trans d2, (h.cell (p := ⟨w.heap.size, 3, none⟩) hlt').trans d3, (h.cell (p := ⟨w.heap.size, 4, none⟩) hlt').trans d4, (h.cell (p := ⟨w.heap.size, 5, none⟩) hlt').trans d5⟩, ⟨(h.cell (p := ⟨w.heap.size + 1, 0, none⟩) hlt).trans x0, (h.cell (p := ⟨w.heap.size + 1, 1, none⟩) hlt).trans x1, (h.cell (p := ⟨w.heap.size + 1, 2, none⟩) hlt).trans x2, (h.cell (p := ⟨w.heap.size + 1, 3, none⟩) hlt).trans x3, (h.cell (p := ⟨w.heap.size + 1, 4, none⟩) hlt).trans x4, (h.cell (p := ⟨w.heap.size + 1, 5, none⟩) hlt).trans x5⟩⟩
  have hX0 := fun W (h : Below W0.heap.size W0 W) => hK0.trans (h.mono hK0.size)
  have k0 := kA W0 hK0
  have kS := fun W => short_true h1 A ka W
  have kC := fun W (h : Below W0.heap.size W0 W) => refCheckG l _ W (ha.below (hX0 W h)) (by unfold maxLen; omega)
  have kCB := fun W => checkBoxG ((lx, ly, lz), (ux, uy, uz)) W
  rw [hE] at kCB
  have kB := fun W (h : Below W0.heap.size W0 W) => boundE l _ W (ha.below (hX0 W h)) (by unfold maxLen; omega) r hr h0
  rw [hr] at kC
  have hln : l.length ≠ 0 := fun e => by
    have : l = [] := List.eq_nil_of_length_eq_zero e
    subst this
    exact h0 (by rw [← hr]; rfl)
  have hn0 : (((l.length : Nat) : Int) == 0) = false := by rw [beq_eq_false_iff_ne]; omega
  have kW := fun W => when_ok false 12 W
  have kF := fun blk W => firstL2 r 0 blk 2 W
  have e5 : fstI [r, 0] = r := by simp only [fstI]; split <;> simp_all
  rw [e5] at kF
  have heq := fun W => eqBoxG 0 0 0 0 0 0 W
  have hne : (r != 0) = true := by rw [bne_iff_ne]; exact h0
  have hrr : (r != r) = false := by simp
  have hr0 : (r == 0) = false := by rw [beq_eq_false_iff_ne]; exact h0
  unfold boxO at kB
  clear hln e5 hr h0
  have kSz := fun W => size_ok ((lx, ly, lz), (ux, uy, uz)) n1 n2 W
  rw [hS] at kSz
  unfold boxV at kSz
  dsimp only at kSz
  clear hE hS n1 n2
  unfold boxV at kB kCB ⊢
  dsimp only at kB kCB ⊢
  clear kA ha h1 la d0 d1 d2 d3 d4 d5 x0 x1 x2 x3 x4 x5
  go_enter Tryz.func4, Tryz.ntmps4
  go_wp2_with fail
  rw [← hW]
  clear hW
  refine k0.mono ?_
  rintro e w1 ⟨rfl, hX1⟩
  go_wp2_with fail
  refine (kS _).mono ?_
  rintro e w1a ⟨rfl, hw1a⟩
  subst hw1a
  have q1 := kB _ hX1
  go_wp2_with fail
  refine q1.mono ?_
  rintro e w2 ⟨rfl, hB2⟩
  have hX2 := hX1.trans (hB2.mono hX1.size)
  obtain ⟨W2, hW2⟩ : ∃ W2, W2 = w2.alloc (.cells #[.int .i64 0, .int .i64 0, .int .i64 0, .int .i64 0, .int .i64 0, .int .i64 0] 40) := ⟨_, rfl⟩
  have y0 : W2.cell? ⟨w2.heap.size, 0, none⟩ = some (.int .i64 0) := by subst hW2; go_simp
  have y1 : W2.cell? ⟨w2.heap.size, 1, none⟩ = some (.int .i64 0) := by subst hW2; go_simp
  have y2 : W2.cell? ⟨w2.heap.size, 2, none⟩ = some (.int .i64 0) := by subst hW2; go_simp
  have y3 : W2.cell? ⟨w2.heap.size, 3, none⟩ = some (.int .i64 0) := by subst hW2; go_simp
  have y4 : W2.cell? ⟨w2.heap.size, 4, none⟩ = some (.int .i64 0) := by subst hW2; go_simp
  have y5 : W2.cell? ⟨w2.heap.size, 5, none⟩ = some (.int .i64 0) := by subst hW2; go_simp
  have hX3 : Below W0.heap.size W0 W2 := by subst hW2; exact hX2.alloc hX2.size _
  have hlo : w2.heap.size < W2.heap.size := by subst hW2; simp
  have ko : ∀ W', Below W2.heap.size W2 W' → W'.cell? ⟨w2.heap.size, 0, none⟩ = some (.int .i64 0) ∧ W'.cell? ⟨w2.heap.size, 1, none⟩ = some (.int .i64 0) ∧ W'.cell? ⟨w2.heap.size, 2, none⟩ = some (.int .i64 0) ∧ W'.cell? ⟨w2.heap.size, 3, none⟩ = some (.int .i64 0) ∧ W'.cell? ⟨w2.heap.size, 4, none⟩ = some (.int .i64 0) ∧ W'.cell? ⟨w2.heap.size, 5, none⟩ = some (.int .i64 0) := fun W' h => ⟨(h.cell (p := ⟨w2.heap.size, 0, none⟩) hlo).trans y0, (h.cell (p := ⟨w2.heap.size, 1, none⟩) hlo).trans y1, (h.cell (p := ⟨w2.heap.size, 2, none⟩) hlo).trans y2, (h.cell (p := ⟨w2.heap.size, 3, none⟩) hlo).trans y3, (h.cell (p := ⟨w2.heap.size, 4, none⟩) hlo).trans y4, (h.cell (p := ⟨w2.heap.size, 5, none⟩) hlo).trans y5⟩
  have q2 := kC _ hX3
  clear kB kC hB2 hX1 hX2 q1 y0 y1 y2 y3 y4 y5
  go_wp2_with fail
  rw [← hW2]
  clear hW2
  refine q2.mono ?_
  rintro e w3 ⟨rfl, hO3⟩
  have hX4 := hX3.trans (hO3.mono hX3.size)
  go_wp2_with fail
  refine (kW _).mono ?_
  rintro e w3a ⟨rfl, hw3a⟩
  subst hw3a
  go_wp2_with fail
  refine (kF _ _ (by go_simp) (by go_simp)).mono ?_
  rintro e w4 ⟨rfl, hw4⟩
  have hO4 : Below W2.heap.size W2 w4 := by subst hw4; exact hO3.alloc hO3.size _
  have hX5 : Below W0.heap.size W0 w4 := hX3.trans (hO4.mono hX3.size)
  clear hw4 hO3 hX4 kF kW q2
  obtain ⟨y0, y1, y2, y3, y4, y5⟩ := ko w4 hO4
  go_wp2_with fail
  go_quiet (fail)
  rename Nat => qa
  obtain ⟨W5, hW5⟩ : ∃ W5, W5 = w4.drewN qa := ⟨_, rfl⟩
  have hX6 : Below W0.heap.size W0 W5 := by subst hW5; exact ⟨hX5.os, hX5.tape, hX5.output, hX5.size, hX5.block⟩
  rw [← hW5]
  clear hW5 hX5 hO4 ko y0 y1 y2 y3 y4 y5 heq
  obtain ⟨⟨d0, d1, d2, d3, d4, d5⟩, ⟨x0, x1, x2, x3, x4, x5⟩⟩ := kk W5 hX6
  go_wp2_with fail
  refine (kCB _).mono ?_
  rintro e w6 ⟨rfl, hB6⟩
  have hX7 := hX6.trans (hB6.mono hX6.size)
  clear d0 d1 d2 d3 d4 d5 x0 x1 x2 x3 x4 x5 hB6 kCB
  obtain ⟨⟨d0, d1, d2, d3, d4, d5⟩, ⟨x0, x1, x2, x3, x4, x5⟩⟩ := kk w6 hX7
  go_wp2_with fail
  refine (kSz _).mono ?_
  rintro e w7 ⟨rfl, hB7⟩
  have hX8 := hX7.trans (hB7.mono hX7.size)
  go_wp2
  go_ret
  exact ⟨rfl, hX0 _ hX8⟩
theorem gboxes_13 (l : List Cel) (A : Option Addr) (ka : Nat) (lx ly lz ux uy uz : Int) (w : World) (kA : AwakeAt w) (ha : Sl w (.slice A l.length ka) l) (h1 : shortB l.length 80 = true) (r : Int) (hr : chkI l = r) (h0 : r ≠ 0) (hE : boxE ((lx, ly, lz), (ux, uy, uz)) = 0) (n1 : Near (lx, ly, lz) 1000) (n2 : Near (ux, uy, uz) 1000) (hwd : Wide ((lx, ly, lz), (ux, uy, uz))) (S : Int) (hS : sizeB ((lx, ly, lz), (ux, uy, uz)) = S) (hS6 : ¬ S > 600) :
    Calls Tryz.prog 4 #[.slice A l.length ka, boxV ((lx, ly, lz), (ux, uy, uz))] w fun e w' => e = .returned (.bool true) ∧ Below w.heap.size w w' := by
  have la := short_len h1 (by omega)
  obtain ⟨W0, hW⟩ : ∃ W0, W0 = (w.alloc (.cells #[.int .i64 lx, .int .i64 ly, .int .i64 lz, .int .i64 ux, .int .i64 uy, .int .i64 uz] 40)).alloc (.cells #[.int .i64 lx, .int .i64 ly, .int .i64 lz, .int .i64 ux, .int .i64 uy, .int .i64 uz] 41) := ⟨_, rfl⟩
  have hK0 : Below w.heap.size w W0 := by subst hW; exact ((Below.refl _ _).alloc (Nat.le_refl _) _).alloc (by simp) _
  have d0 : W0.cell? ⟨w.heap.size, 0, none⟩ = some (.int .i64 lx) := by subst hW; go_simp
  have d1 : W0.cell? ⟨w.heap.size, 1, none⟩ = some (.int .i64 ly) := by subst hW; go_simp
  have d2 : W0.cell? ⟨w.heap.size, 2, none⟩ = some (.int .i64 lz) := by subst hW; go_simp
  have d3 : W0.cell? ⟨w.heap.size, 3, none⟩ = some (.int .i64 ux) := by subst hW; go_simp
  have d4 : W0.cell? ⟨w.heap.size, 4, none⟩ = some (.int .i64 uy) := by subst hW; go_simp
  have d5 : W0.cell? ⟨w.heap.size, 5, none⟩ = some (.int .i64 uz) := by subst hW; go_simp
  have x0 : W0.cell? ⟨w.heap.size + 1, 0, none⟩ = some (.int .i64 lx) := by subst hW; go_simp
  have x1 : W0.cell? ⟨w.heap.size + 1, 1, none⟩ = some (.int .i64 ly) := by subst hW; go_simp
  have x2 : W0.cell? ⟨w.heap.size + 1, 2, none⟩ = some (.int .i64 lz) := by subst hW; go_simp
  have x3 : W0.cell? ⟨w.heap.size + 1, 3, none⟩ = some (.int .i64 ux) := by subst hW; go_simp
  have x4 : W0.cell? ⟨w.heap.size + 1, 4, none⟩ = some (.int .i64 uy) := by subst hW; go_simp
  have x5 : W0.cell? ⟨w.heap.size + 1, 5, none⟩ = some (.int .i64 uz) := by subst hW; go_simp
  have hlt : w.heap.size + 1 < W0.heap.size := by subst hW; simp
  have hlt' : w.heap.size < W0.heap.size := by omega
  have kk : ∀ W', Below W0.heap.size W0 W' → (W'.cell? ⟨w.heap.size, 0, none⟩ = some (.int .i64 lx) ∧ W'.cell? ⟨w.heap.size, 1, none⟩ = some (.int .i64 ly) ∧ W'.cell? ⟨w.heap.size, 2, none⟩ = some (.int .i64 lz) ∧ W'.cell? ⟨w.heap.size, 3, none⟩ = some (.int .i64 ux) ∧ W'.cell? ⟨w.heap.size, 4, none⟩ = some (.int .i64 uy) ∧ W'.cell? ⟨w.heap.size, 5, none⟩ = some (.int .i64 uz)) ∧ (W'.cell? ⟨w.heap.size + 1, 0, none⟩ = some (.int .i64 lx) ∧ W'.cell? ⟨w.heap.size + 1, 1, none⟩ = some (.int .i64 ly) ∧ W'.cell? ⟨w.heap.size + 1, 2, none⟩ = some (.int .i64 lz) ∧ W'.cell? ⟨w.heap.size + 1, 3, none⟩ = some (.int .i64 ux) ∧ W'.cell? ⟨w.heap.size + 1, 4, none⟩ = some (.int .i64 uy) ∧ W'.cell? ⟨w.heap.size + 1, 5, none⟩ = some (.int .i64 uz)) := fun W' h => ⟨⟨(h.cell (p := ⟨w.heap.size, 0, none⟩) hlt').trans d0, (h.cell (p := ⟨w.heap.size, 1, none⟩) hlt').trans d1, (h.cell (p := ⟨w.heap.size, 2, none⟩) hlt').trans d2, (h.cell (p := ⟨w.heap.size, 3, none⟩) hlt').trans d3, (h.cell (p := ⟨w.heap.size, 4, none⟩) hlt').trans d4, (h.cell (p := ⟨w.heap.size, 5, none⟩) hlt').trans d5⟩, ⟨(h.cell (p := ⟨w.heap.size + 1, 0, none⟩) hlt).trans x0, (h.cell (p := ⟨w.heap.size + 1, 1, none⟩) hlt).trans x1, (h.cell (p := ⟨w.heap.size + 1, 2, none⟩) hlt).trans x2, (h.cell (p := ⟨w.heap.size + 1, 3, none⟩) hlt).trans x3, (h.cell (p := ⟨w.heap.size + 1, 4, none⟩) hlt).trans x4, (h.cell (p := ⟨w.heap.size + 1, 5, none⟩) hlt).trans x5⟩⟩
  have hX0 := fun W (h : Below W0.heap.size W0 W) => hK0.trans (h.mono hK0.size)
  have k0 := kA W0 hK0
  have kS := fun W => short_true h1 A ka W
  have kC := fun W (h : Below W0.heap.size W0 W) => refCheckG l _ W (ha.below (hX0 W h)) (by unfold maxLen; omega)
  have kCB := fun W => checkBoxG ((lx, ly, lz), (ux, uy, uz)) W
  rw [hE] at kCB
  have kB := fun W (h : Below W0.heap.size W0 W) => boundE l _ W (ha.below (hX0 W h)) (by unfold maxLen; omega) r hr h0
  rw [hr] at kC
  have hln : l.length ≠ 0 := fun e => by
    have : l = [] := List.eq_nil_of_length_eq_zero e
    subst this
    exact h0 (by rw [← hr]; rfl)
  have hn0 : (((l.length : Nat) : Int) == 0) = false := by rw [beq_eq_false_iff_ne]; omega
  have kW := fun W => when_ok false 12 W
  have kF := fun blk W => firstL2 r 0 blk 2 W
  have e5 : fstI [r, 0] = r := by simp only [fstI]; split <;> simp_all
  rw [e5] at kF
  have heq := fun W => eqBoxG 0 0 0 0 0 0 W
  have hne : (r != 0) = true := by rw [bne_iff_ne]; exact h0
  have hrr : (r != r) = false := by simp
  have hr0 : (r == 0) = false := by rw [beq_eq_false_iff_ne]; exact h0
  unfold boxO at kB
  clear hln e5 hr h0
  have kSz := fun W => size_ok ((lx, ly, lz), (ux, uy, uz)) n1 n2 W
  have hlen := len_boxL ((lx, ly, lz), (ux, uy, uz)) hwd
  rw [hS] at kSz hlen
  have kBl := fun W => block_ok ((lx, ly, lz), (ux, uy, uz)) n1 n2 hwd (by omega) W
  have kRBl := fun W => refBlock_ok ((lx, ly, lz), (ux, uy, uz)) n1 n2 (by omega) W
  generalize boxL ((lx, ly, lz), (ux, uy, uz)) = XS at kBl kRBl hlen
  have hXS : XS.length ≤ 4096 := by omega
  unfold boxV at kSz kBl kRBl
  dsimp only at kSz kBl kRBl
  clear hE hS n1 n2 hwd hlen
  unfold boxV at kB kCB ⊢
  dsimp only at kB kCB ⊢
  clear kA ha h1 la d0 d1 d2 d3 d4 d5 x0 x1 x2 x3 x4 x5
  go_enter Tryz.func4, Tryz.ntmps4
  go_wp2_with fail
  rw [← hW]
  clear hW
  refine k0.mono ?_
  rintro e w1 ⟨rfl, hX1⟩
  go_wp2_with fail
  refine (kS _).mono ?_
  rintro e w1a ⟨rfl, hw1a⟩
  subst hw1a
  have q1 := kB _ hX1
  go_wp2_with fail
  refine q1.mono ?_
  rintro e w2 ⟨rfl, hB2⟩
  have hX2 := hX1.trans (hB2.mono hX1.size)
  obtain ⟨W2, hW2⟩ : ∃ W2, W2 = w2.alloc (.cells #[.int .i64 0, .int .i64 0, .int .i64 0, .int .i64 0, .int .i64 0, .int .i64 0] 40) := ⟨_, rfl⟩
  have y0 : W2.cell? ⟨w2.heap.size, 0, none⟩ = some (.int .i64 0) := by subst hW2; go_simp
  have y1 : W2.cell? ⟨w2.heap.size, 1, none⟩ = some (.int .i64 0) := by subst hW2; go_simp
  have y2 : W2.cell? ⟨w2.heap.size, 2, none⟩ = some (.int .i64 0) := by subst hW2; go_simp
  have y3 : W2.cell? ⟨w2.heap.size, 3, none⟩ = some (.int .i64 0) := by subst hW2; go_simp
  have y4 : W2.cell? ⟨w2.heap.size, 4, none⟩ = some (.int .i64 0) := by subst hW2; go_simp
  have y5 : W2.cell? ⟨w2.heap.size, 5, none⟩ = some (.int .i64 0) := by subst hW2; go_simp
  have hX3 : Below W0.heap.size W0 W2 := by subst hW2; exact hX2.alloc hX2.size _
  have hlo : w2.heap.size < W2.heap.size := by subst hW2; simp
  have ko : ∀ W', Below W2.heap.size W2 W' → W'.cell? ⟨w2.heap.size, 0, none⟩ = some (.int .i64 0) ∧ W'.cell? ⟨w2.heap.size, 1, none⟩ = some (.int .i64 0) ∧ W'.cell? ⟨w2.heap.size, 2, none⟩ = some (.int .i64 0) ∧ W'.cell? ⟨w2.heap.size, 3, none⟩ = some (.int .i64 0) ∧ W'.cell? ⟨w2.heap.size, 4, none⟩ = some (.int .i64 0) ∧ W'.cell? ⟨w2.heap.size, 5, none⟩ = some (.int .i64 0) := fun W' h => ⟨(h.cell (p := ⟨w2.heap.size, 0, none⟩) hlo).trans y0, (h.cell (p := ⟨w2.heap.size, 1, none⟩) hlo).trans y1, (h.cell (p := ⟨w2.heap.size, 2, none⟩) hlo).trans y2, (h.cell (p := ⟨w2.heap.size, 3, none⟩) hlo).trans y3, (h.cell (p := ⟨w2.heap.size, 4, none⟩) hlo).trans y4, (h.cell (p := ⟨w2.heap.size, 5, none⟩) hlo).trans y5⟩
  have q2 := kC _ hX3
  clear kB kC hB2 hX1 hX2 q1 y0 y1 y2 y3 y4 y5
  go_wp2_with fail
  rw [← hW2]
  clear hW2
  refine q2.mono ?_
  rintro e w3 ⟨rfl, hO3⟩
  have hX4 := hX3.trans (hO3.mono hX3.size)
  go_wp2_with fail
  refine (kW _).mono ?_
  rintro e w3a ⟨rfl, hw3a⟩
  subst hw3a
  go_wp2_with fail
  refine (kF _ _ (by go_simp) (by go_simp)).mono ?_
  rintro e w4 ⟨rfl, hw4⟩
  have hO4 : Below W2.heap.size W2 w4 := by subst hw4; exact hO3.alloc hO3.size _
  have hX5 : Below W0.heap.size W0 w4 := hX3.trans (hO4.mono hX3.size)
  clear hw4 hO3 hX4 kF kW q2
  obtain ⟨y0, y1, y2, y3, y4, y5⟩ := ko w4 hO4
  go_wp2_with fail
  go_quiet (fail)
  rename Nat => qa
  obtain ⟨W5, hW5⟩ : ∃ W5, W5 = w4.drewN qa := ⟨_, rfl⟩
  have hX6 : Below W0.heap.size W0 W5 := by subst hW5; exact ⟨hX5.os, hX5.tape, hX5.output, hX5.size, hX5.block⟩
  rw [← hW5]
  clear hW5 hX5 hO4 ko y0 y1 y2 y3 y4 y5 heq
  obtain ⟨⟨d0, d1, d2, d3, d4, d5⟩, ⟨x0, x1, x2, x3, x4, x5⟩⟩ := kk W5 hX6
  go_wp2_with fail
  refine (kCB _).mono ?_
  rintro e w6 ⟨rfl, hB6⟩
  have hX7 := hX6.trans (hB6.mono hX6.size)
  clear d0 d1 d2 d3 d4 d5 x0 x1 x2 x3 x4 x5 hB6 kCB
  obtain ⟨⟨d0, d1, d2, d3, d4, d5⟩, ⟨x0, x1, x2, x3, x4, x5⟩⟩ := kk w6 hX7
  go_wp2_with fail
  refine (kSz _).mono ?_
  rintro e w7 ⟨rfl, hB7⟩
  have hX8 := hX7.trans (hB7.mono hX7.size)
  clear d0 d1 d2 d3 d4 d5 x0 x1 x2 x3 x4 x5 hB7 kSz
  obtain ⟨⟨d0, d1, d2, d3, d4, d5⟩, ⟨x0, x1, x2, x3, x4, x5⟩⟩ := kk w7 hX8
  go_wp2_with fail
  refine (kBl _).mono ?_
  rintro e w8 ⟨v1, rfl, ho1, hB8⟩
  have hX9 := hX8.trans (hB8.mono hX8.size)
  clear d0 d1 d2 d3 d4 d5 x0 x1 x2 x3 x4 x5 hB8 kBl
  obtain ⟨⟨d0, d1, d2, d3, d4, d5⟩, ⟨x0, x1, x2, x3, x4, x5⟩⟩ := kk w8 hX9
  go_wp2_with fail
  refine (kRBl _).mono ?_
  rintro e w9 ⟨v2, rfl, ho2, hB9⟩
  have hX10 := hX9.trans (hB9.mono hX9.size)
  have q9 := cells_same XS _ _ _ (ho1.sl.below hB9) ho2.sl hXS
  clear d0 d1 d2 d3 d4 d5 x0 x1 x2 x3 x4 x5 hB9 kRBl
  go_wp2_with fail
  refine q9.mono ?_
  rintro e w10 ⟨rfl, hB10⟩
  go_wp2
  go_ret
  exact ⟨rfl, hX0 _ (hX10.trans (hB10.mono hX10.size))⟩
theorem gboxes_21 (l : List Cel) (A : Option Addr) (ka : Nat) (lx ly lz ux uy uz : Int) (w : World) (kA : AwakeAt w) (ha : Sl w (.slice A l.length ka) l) (h1 : shortB l.length 80 = true) (hl0 : l = []) (E : Int) (hE : boxE ((lx, ly, lz), (ux, uy, uz)) = E) (hE0 : E ≠ 0) :
    Calls Tryz.prog 4 #[.slice A l.length ka, boxV ((lx, ly, lz), (ux, uy, uz))] w fun e w' => e = .returned (.bool true) ∧ Below w.heap.size w w' := by
  have la := short_len h1 (by omega)
  obtain ⟨W0, hW⟩ : ∃ W0, W0 = (w.alloc (.cells #[.int .i64 lx, .int .i64 ly, .int .i64 lz, .int .i64 ux, .int .i64 uy, .int .i64 uz] 40)).alloc (.cells #[.int .i64 lx, .int .i64 ly, .int .i64 lz, .int .i64 ux, .int .i64 uy, .int .i64 uz] 41) := ⟨_, rfl⟩
  have hK0 : Below w.heap.size w W0 := by subst hW; exact ((Below.refl _ _).alloc (Nat.le_refl _) _).alloc (by simp) _
  have d0 : W0.cell? ⟨w.heap.size, 0, none⟩ = some (.int .i64 lx) := by subst hW; go_simp
  have d1 : W0.cell? ⟨w.heap.size, 1, none⟩ = some (.int .i64 ly) := by subst hW; go_simp
  have d2 : W0.cell? ⟨w.heap.size, 2, none⟩ = some (.int .i64 lz) := by subst hW; go_simp
  have d3 : W0.cell? ⟨w.heap.size, 3, none⟩ = some (.int .i64 ux) := by subst hW; go_simp
  have d4 : W0.cell? ⟨w.heap.size, 4, none⟩ = some (.int .i64 uy) := by subst hW; go_simp
  have d5 : W0.cell? ⟨w.heap.size, 5, none⟩ = some (.int .i64 uz) := by subst hW; go_simp
  have x0 : W0.cell? ⟨w.heap.size + 1, 0, none⟩ = some (.int .i64 lx) := by subst hW; go_simp
  have x1 : W0.cell? ⟨w.heap.size + 1, 1, none⟩ = some (.int .i64 ly) := by subst hW; go_simp
  have x2 : W0.cell? ⟨w.heap.size + 1, 2, none⟩ = some (.int .i64 lz) := by subst hW; go_simp
  have x3 : W0.cell? ⟨w.heap.size + 1, 3, none⟩ = some (.int .i64 ux) := by subst hW; go_simp
  have x4 : W0.cell? ⟨w.heap.size + 1, 4, none⟩ = some (.int .i64 uy) := by subst hW; go_simp
  have x5 : W0.cell? ⟨w.heap.size + 1, 5, none⟩ = some (.int .i64 uz) := by subst hW; go_simp
  have hlt : w.heap.size + 1 < W0.heap.size := by subst hW; simp
  have hlt' : w.heap.size < W0.heap.size := by omega
  have kk : ∀ W', Below W0.heap.size W0 W' → (W'.cell? ⟨w.heap.size, 0, none⟩ = some (.int .i64 lx) ∧ W'.cell? ⟨w.heap.size, 1, none⟩ = some (.int .i64 ly) ∧ W'.cell? ⟨w.heap.size, 2, none⟩ = some (.int .i64 lz) ∧ W'.cell? ⟨w.heap.size, 3, none⟩ = some (.int .i64 ux) ∧ W'.cell? ⟨w.heap.size, 4, none⟩ = some (.int .i64 uy) ∧ W'.cell? ⟨w.heap.size, 5, none⟩ = some (.int .i64 uz)) ∧ (W'.cell? ⟨w.heap.size + 1, 0, none⟩ = some (.int .i64 lx) ∧ W'.cell? ⟨w.heap.size + 1, 1, none⟩ = some (.int .i64 ly) ∧ W'.cell? ⟨w.heap.size + 1, 2, none⟩ = some (.int .i64 lz) ∧ W'.cell? ⟨w.heap.size + 1, 3, none⟩ = some (.int .i64 ux) ∧ W'.cell? ⟨w.heap.size + 1, 4, none⟩ = some (.int .i64 uy) ∧ W'.cell? ⟨w.heap.size + 1, 5, none⟩ = some (.int .i64 uz)) := fun W' h => ⟨⟨(h.cell (p := ⟨w.heap.size, 0, none⟩) hlt').trans d0, (h.cell (p := ⟨w.heap.size, 1, none⟩) hlt').trans d1, (h.cell (p := ⟨w.heap.size, 2, none⟩) hlt').trans d2, (h.cell (p := ⟨w.heap.size, 3, none⟩) hlt').trans d3, (h.cell (p := ⟨w.heap.size, 4, none⟩) hlt').trans d4, (h.cell (p := ⟨w.heap.size, 5, none⟩) hlt').trans d5⟩, ⟨(h.cell (p := ⟨w.heap.size + 1, 0, none⟩) hlt).trans x0, (h.cell (p := ⟨w.heap.size + 1, 1, none⟩) hlt).trans x1, (h.cell (p := ⟨w.heap.size + 1, 2, none⟩) hlt).trans x2, (h.cell (p := ⟨w.heap.size + 1, 3, none⟩) hlt).trans x3, (h.cell (p := ⟨w.heap.size + 1, 4, none⟩) hlt).trans x4, (h.cell (p := ⟨w.heap.size + 1, 5, none⟩) hlt).trans x5⟩⟩
  have hX0 := fun W (h : Below W0.heap.size W0 W) => hK0.trans (h.mono hK0.size)
  have k0 := kA W0 hK0
  have kS := fun W => short_true h1 A ka W
  have kC := fun W (h : Below W0.heap.size W0 W) => refCheckG l _ W (ha.below (hX0 W h)) (by unfold maxLen; omega)
  have kCB := fun W => checkBoxG ((lx, ly, lz), (ux, uy, uz)) W
  rw [hE] at kCB
  subst hl0
  have kB := fun W (h : Below W0.heap.size W0 W) => bound0 _ W (ha.below (hX0 W h))
  have hc : chkI [] = 0 := by unfold chkI chkFrom; rfl
  rw [hc] at kC
  have kW := fun W => when_ok true 12 W
  have kF := fun blk W => firstL2 0 12 blk 2 W
  have e5 : fstI [0, 12] = 12 := by simp [fstI]
  rw [e5] at kF
  have heq := fun W => eqBoxG 0 0 0 0 0 0 W
  unfold boxO at kB
  clear e5 hc
  have kBl := fun W => blockE ((lx, ly, lz), (ux, uy, uz)) W (by rw [hE]; exact hE0)
  rw [hE] at kBl
  have kBad := fun W => cells_bad none none 0 0 0 E hE0 W
  have hEn : (E != 0) = true := by rw [bne_iff_ne]; exact hE0
  have hE1 : (E == 0) = false := by rw [beq_eq_false_iff_ne]; exact hE0
  unfold boxV at kBl
  dsimp only at kBl
  clear hE hE0
  unfold boxV at kB kCB ⊢
  dsimp only at kB kCB ⊢
  clear kA ha h1 la d0 d1 d2 d3 d4 d5 x0 x1 x2 x3 x4 x5
  go_enter Tryz.func4, Tryz.ntmps4
  go_wp2_with fail
  rw [← hW]
  clear hW
  refine k0.mono ?_
  rintro e w1 ⟨rfl, hX1⟩
  go_wp2_with fail
  refine (kS _).mono ?_
  rintro e w1a ⟨rfl, hw1a⟩
  subst hw1a
  have q1 := kB _ hX1
  go_wp2_with fail
  refine q1.mono ?_
  rintro e w2 ⟨rfl, hB2⟩
  have hX2 := hX1.trans (hB2.mono hX1.size)
  obtain ⟨W2, hW2⟩ : ∃ W2, W2 = w2.alloc (.cells #[.int .i64 0, .int .i64 0, .int .i64 0, .int .i64 0, .int .i64 0, .int .i64 0] 40) := ⟨_, rfl⟩
  have y0 : W2.cell? ⟨w2.heap.size, 0, none⟩ = some (.int .i64 0) := by subst hW2; go_simp
  have y1 : W2.cell? ⟨w2.heap.size, 1, none⟩ = some (.int .i64 0) := by subst hW2; go_simp
  have y2 : W2.cell? ⟨w2.heap.size, 2, none⟩ = some (.int .i64 0) := by subst hW2; go_simp
  have y3 : W2.cell? ⟨w2.heap.size, 3, none⟩ = some (.int .i64 0) := by subst hW2; go_simp
  have y4 : W2.cell? ⟨w2.heap.size, 4, none⟩ = some (.int .i64 0) := by subst hW2; go_simp
  have y5 : W2.cell? ⟨w2.heap.size, 5, none⟩ = some (.int .i64 0) := by subst hW2; go_simp
  have hX3 : Below W0.heap.size W0 W2 := by subst hW2; exact hX2.alloc hX2.size _
  have hlo : w2.heap.size < W2.heap.size := by subst hW2; simp
  have ko : ∀ W', Below W2.heap.size W2 W' → W'.cell? ⟨w2.heap.size, 0, none⟩ = some (.int .i64 0) ∧ W'.cell? ⟨w2.heap.size, 1, none⟩ = some (.int .i64 0) ∧ W'.cell? ⟨w2.heap.size, 2, none⟩ = some (.int .i64 0) ∧ W'.cell? ⟨w2.heap.size, 3, none⟩ = some (.int .i64 0) ∧ W'.cell? ⟨w2.heap.size, 4, none⟩ = some (.int .i64 0) ∧ W'.cell? ⟨w2.heap.size, 5, none⟩ = some (.int .i64 0) := fun W' h => ⟨(h.cell (p := ⟨w2.heap.size, 0, none⟩) hlo).trans y0, (h.cell (p := ⟨w2.heap.size, 1, none⟩) hlo).trans y1, (h.cell (p := ⟨w2.heap.size, 2, none⟩) hlo).trans y2, (h.cell (p := ⟨w2.heap.size, 3, none⟩) hlo).trans y3, (h.cell (p := ⟨w2.heap.size, 4, none⟩) hlo).trans y4, (h.cell (p := ⟨w2.heap.size, 5, none⟩) hlo).trans y5⟩
  have q2 := kC _ hX3
  clear kB kC hB2 hX1 hX2 q1 y0 y1 y2 y3 y4 y5
  go_wp2_with fail
  rw [← hW2]
  clear hW2
  refine q2.mono ?_
  rintro e w3 ⟨rfl, hO3⟩
  have hX4 := hX3.trans (hO3.mono hX3.size)
  go_wp2_with fail
  refine (kW _).mono ?_
  rintro e w3a ⟨rfl, hw3a⟩
  subst hw3a
  go_wp2_with fail
  refine (kF _ _ (by go_simp) (by go_simp)).mono ?_
  rintro e w4 ⟨rfl, hw4⟩
  have hO4 : Below W2.heap.size W2 w4 := by subst hw4; exact hO3.alloc hO3.size _
  have hX5 : Below W0.heap.size W0 w4 := hX3.trans (hO4.mono hX3.size)
  clear hw4 hO3 hX4 kF kW q2
  obtain ⟨y0, y1, y2, y3, y4, y5⟩ := ko w4 hO4
  go_wp2_with fail
  go_quiet (fail)
  rename Nat => qa
  obtain ⟨W5, hW5⟩ : ∃ W5, W5 = w4.drewN qa := ⟨_, rfl⟩
  have hX6 : Below W0.heap.size W0 W5 := by subst hW5; exact ⟨hX5.os, hX5.tape, hX5.output, hX5.size, hX5.block⟩
  rw [← hW5]
  clear hW5 hX5 hO4 ko y0 y1 y2 y3 y4 y5 heq
  obtain ⟨⟨d0, d1, d2, d3, d4, d5⟩, ⟨x0, x1, x2, x3, x4, x5⟩⟩ := kk W5 hX6
  go_wp2_with fail
  refine (kCB _).mono ?_
  rintro e w6 ⟨rfl, hB6⟩
  have hX7 := hX6.trans (hB6.mono hX6.size)
  clear d0 d1 d2 d3 d4 d5 x0 x1 x2 x3 x4 x5 hB6 kCB
  obtain ⟨⟨d0, d1, d2, d3, d4, d5⟩, ⟨x0, x1, x2, x3, x4, x5⟩⟩ := kk w6 hX7
  go_wp2_with fail
  refine (kBl _).mono ?_
  rintro e w7 ⟨rfl, hB7⟩
  have hX8 := hX7.trans (hB7.mono hX7.size)
  go_wp2_with fail
  refine (kBad _).mono ?_
  rintro e w8 ⟨rfl, hw8⟩
  subst hw8
  go_wp2
  go_ret
  exact ⟨rfl, hX0 _ hX8⟩
theorem gboxes_22 (l : List Cel) (A : Option Addr) (ka : Nat) (lx ly lz ux uy uz : Int) (w : World) (kA : AwakeAt w) (ha : Sl w (.slice A l.length ka) l) (h1 : shortB l.length 80 = true) (hl0 : l = []) (hE : boxE ((lx, ly, lz), (ux, uy, uz)) = 0) (n1 : Near (lx, ly, lz) 1000) (n2 : Near (ux, uy, uz) 1000) (S : Int) (hS : sizeB ((lx, ly, lz), (ux, uy, uz)) = S) (hS6 : S > 600) :
    Calls Tryz.prog 4 #[.slice A l.length ka, boxV ((lx, ly, lz), (ux, uy, uz))] w fun e w' => e = .returned (.bool true) ∧ Below w.heap.size w w' := by
  have la := short_len h1 (by omega)
  obtain ⟨W0, hW⟩ : ∃ W0, W0 = (w.alloc (.cells #[.int .i64 lx, .int .i64 ly, .int .i64 lz, .int .i64 ux, .int .i64 uy, .int .i64 uz] 40)).alloc (.cells #[.int .i64 lx, .int .i64 ly, .int .i64 lz, .int .i64 ux, .int .i64 uy, .int .i64 uz] 41) := ⟨_, rfl⟩
  have hK0 : Below w.heap.size w W0 := by subst hW; exact ((Below.refl _ _).alloc (Nat.le_refl _) _).alloc (by simp) _
  have d0 : W0.cell? ⟨w.heap.size, 0, none⟩ = some (.int .i64 lx) := by subst hW; go_simp
  have d1 : W0.cell? ⟨w.heap.size, 1, none⟩ = some (.int .i64 ly) := by subst hW; go_simp
  have d2 : W0.cell? ⟨w.heap.size, 2, none⟩ = some (.int .i64 lz) := by subst hW; go_simp
  have d3 : W0.cell? ⟨w.heap.size, 3, none⟩ = some (.int .i64 ux) := by subst hW; go_simp
  have d4 : W0.cell? ⟨w.heap.size, 4, none⟩ = some (.int .i64 uy) := by subst hW; go_simp
  have d5 : W0.cell? ⟨w.heap.size, 5, none⟩ = some (.int .i64 uz) := by subst hW; go_simp
  have x0 : W0.cell? ⟨w.heap.size + 1, 0, none⟩ = some (.int .i64 lx) := by subst hW; go_simp
  have x1 : W0.cell? ⟨w.heap.size + 1, 1, none⟩ = some (.int .i64 ly) := by subst hW; go_simp
  have x2 : W0.cell? ⟨w.heap.size + 1, 2, none⟩ = some (.int .i64 lz) := by subst hW; go_simp
  have x3 : W0.cell? ⟨w.heap.size + 1, 3, none⟩ = some (.int .i64 ux) := by subst hW; go_simp
  have x4 : W0.cell? ⟨w.heap.size + 1, 4, none⟩ = some (.int .i64 uy) := by subst hW; go_simp
  have x5 : W0.cell? ⟨w.heap.size + 1, 5, none⟩ = some (.int .i64 uz) := by subst hW; go_simp
  have hlt : w.heap.size + 1 < W0.heap.size := by subst hW; simp
  have hlt' : w.heap.size < W0.heap.size := by omega
  have kk : ∀ W', Below W0.heap.size W0 W' → (W'.cell? ⟨w.heap.size, 0, none⟩ = some (.int .i64 lx) ∧ W'.cell? ⟨w.heap.size, 1, none⟩ = some (.int .i64 ly) ∧ W'.cell? ⟨w.heap.size, 2, none⟩ = some (.int .i64 lz) ∧ W'.cell? ⟨w.heap.size, 3, none⟩ = some (.int .i64 ux) ∧ W'.cell? ⟨w.heap.size, 4, none⟩ = some (.int .i64 uy) ∧ W'.cell? ⟨w.heap.size, 5, none⟩ = some (.int .i64 uz)) ∧ (W'.cell? ⟨w.heap.size + 1, 0, none⟩ = some (.int .i64 lx) ∧ W'.cell? ⟨w.heap.size + 1, 1, none⟩ = some (.int .i64 ly) ∧ W'.cell? ⟨w.heap.size + 1, 2, none⟩ = some (.int .i64 lz) ∧ W'.cell? ⟨w.heap.size + 1, 3, none⟩ = some (.int .i64 ux) ∧ W'.cell? ⟨w.heap.size + 1, 4, none⟩ = some (.int .i64 uy) ∧ W'.cell? ⟨w.heap.size + 1, 5, none⟩ = some (.int .i64 uz)) := fun W' h => ⟨⟨(h.cell (p := ⟨w.heap.size, 0, none⟩) hlt').trans d0, (h.cell (p := ⟨w.heap.size, 1, none⟩) hlt').trans d1, (h.cell (p := ⟨w.heap.size, 2, none⟩) hlt').trans d2, (h.cell (p := ⟨w.heap.size, 3, none⟩) hlt').trans d3, (h.cell (p := ⟨w.heap.size, 4, none⟩) hlt').trans d4, (h.cell (p := ⟨w.heap.size, 5, none⟩) hlt').trans d5⟩, ⟨(h.cell (p := ⟨w.heap.size + 1, 0, none⟩) hlt).trans x0, (h.cell (p := ⟨w.heap.size + 1, 1, none⟩) hlt).trans x1, (h.cell (p := ⟨w.heap.size + 1, 2, none⟩) hlt).trans x2, (h.cell (p := ⟨w.heap.size + 1, 3, none⟩) hlt).trans x3, (h.cell (p := ⟨w.heap.size + 1, 4, none⟩) hlt).trans x4, (h.cell (p := ⟨w.heap.size + 1, 5, none⟩) hlt).trans x5⟩⟩
  have hX0 := fun W (h : Below W0.heap.size W0 W) => hK0.trans (h.mono hK0.size)
  have k0 := kA W0 hK0
  have kS := fun W => short_true h1 A ka W
  have kC := fun W (h : Below W0.heap.size W0 W) => refCheckG l _ W (ha.below (hX0 W h)) (by unfold maxLen; omega)
  have kCB := fun W => checkBoxG ((lx, ly, lz), (ux, uy, uz)) W
  rw [hE] at kCB
  subst hl0
  have kB := fun W (h : Below W0.heap.size W0 W) => bound0 _ W (ha.below (hX0 W h))
  have hc : chkI [] = 0 := by unfold chkI chkFrom; rfl
  rw [hc] at kC
  have kW := fun W => when_ok true 12 W
  have kF := fun blk W => firstL2 0 12 blk 2 W
  have e5 : fstI [0, 12] = 12 := by simp [fstI]
  rw [e5] at kF
  have heq := fun W => eqBoxG 0 0 0 0 0 0 W
  unfold boxO at kB
  clear e5 hc
  have kSz := fun W => size_ok ((lx, ly, lz), (ux, uy, uz)) n1 n2 W
  rw [hS] at kSz
  unfold boxV at kSz
  dsimp only at kSz
  clear hE hS n1 n2
  unfold boxV at kB kCB ⊢
  dsimp only at kB kCB ⊢
  clear kA ha h1 la d0 d1 d2 d3 d4 d5 x0 x1 x2 x3 x4 x5
  go_enter Tryz.func4, Tryz.ntmps4
  go_wp2_with fail
  rw [← hW]
  clear hW
  refine k0.mono ?_
  rintro e w1 ⟨rfl, hX1⟩
  go_wp2_with fail
  refine (kS _).mono ?_
  rintro e w1a ⟨rfl, hw1a⟩
  subst hw1a
  have q1 := kB _ hX1
  go_wp2_with fail
  refine q1.mono ?_
  rintro e w2 ⟨rfl, hB2⟩
  have hX2 := hX1.trans (hB2.mono hX1.size)
  obtain ⟨W2, hW2⟩ : ∃ W2, W2 = w2.alloc (.cells #[.int .i64 0, .int .i64 0, .int .i64 0, .int .i64 0, .int .i64 0, .int .i64 0] 40) := ⟨_, rfl⟩
  have y0 : W2.cell? ⟨w2.heap.size, 0, none⟩ = some (.int .i64 0) := by subst hW2; go_simp
  have y1 : W2.cell? ⟨w2.heap.size, 1, none⟩ = some (.int .i64 0) := by subst hW2; go_simp
  have y2 : W2.cell? ⟨w2.heap.size, 2, none⟩ = some (.int .i64 0) := by subst hW2; go_simp
  have y3 : W2.cell? ⟨w2.heap.size, 3, none⟩ = some (.int .i64 0) := by subst hW2; go_simp
  have y4 : W2.cell? ⟨w2.heap.size, 4, none⟩ = some (.int .i64 0) := by subst hW2; go_simp
  have y5 : W2.cell? ⟨w2.heap.size, 5, none⟩ = some (.int .i64 0) := by subst hW2; go_simp
  have hX3 : Below W0.heap.size W0 W2 := by subst hW2; exact hX2.alloc hX2.size _
  have hlo : w2.heap.size < W2.heap.size := by subst hW2; simp
  have ko : ∀ W', Below W2.heap.size W2 W' → W'.cell? ⟨w2.heap.size, 0, none⟩ = some (.int .i64 0) ∧ W'.cell? ⟨w2.heap.size, 1, none⟩ = some (.int .i64 0) ∧ W'.cell? ⟨w2.heap.size, 2, none⟩ = some (.int .i64 0) ∧ W'.cell? ⟨w2.heap.size, 3, none⟩ = some (.int .i64 0) ∧ W'.cell? ⟨w2.heap.size, 4, none⟩ = some (.int .i64 0) ∧ W'.cell? ⟨w2.heap.size, 5, none⟩ = some (.int .i64 0) := fun W' h => ⟨(h.cell (p := ⟨w2.heap.size, 0, none⟩) hlo).trans y0, (h.cell (p := ⟨w2.heap.size, 1, none⟩) hlo).trans y1, (h.cell (p := ⟨w2.heap.size, 2, none⟩) hlo).trans y2, (h.cell (p := ⟨w2.heap.size, 3, none⟩) hlo).trans y3, (h.cell (p := ⟨w2.heap.size, 4, none⟩) hlo).trans y4, (h.cell (p := ⟨w2.heap.size, 5, none⟩) hlo).trans y5⟩
  have q2 := kC _ hX3
  clear kB kC hB2 hX1 hX2 q1 y0 y1 y2 y3 y4 y5
  go_wp2_with fail
  rw [← hW2]
  clear hW2
  refine q2.mono ?_
  rintro e w3 ⟨rfl, hO3⟩
  have hX4 := hX3.trans (hO3.mono hX3.size)
  go_wp2_with fail
  refine (kW _).mono ?_
  rintro e w3a ⟨rfl, hw3a⟩
  subst hw3a
  go_wp2_with fail
  refine (kF _ _ (by go_simp) (by go_simp)).mono ?_
  rintro e w4 ⟨rfl, hw4⟩
  have hO4 : Below W2.heap.size W2 w4 := by subst hw4; exact hO3.alloc hO3.size _
  have hX5 : Below W0.heap.size W0 w4 := hX3.trans (hO4.mono hX3.size)
  clear hw4 hO3 hX4 kF kW q2
  obtain ⟨y0, y1, y2, y3, y4, y5⟩ := ko w4 hO4
  go_wp2_with fail
  go_quiet (fail)
  rename Nat => qa
  obtain ⟨W5, hW5⟩ : ∃ W5, W5 = w4.drewN qa := ⟨_, rfl⟩
  have hX6 : Below W0.heap.size W0 W5 := by subst hW5; exact ⟨hX5.os, hX5.tape, hX5.output, hX5.size, hX5.block⟩
  rw [← hW5]
  clear hW5 hX5 hO4 ko y0 y1 y2 y3 y4 y5 heq
  obtain ⟨⟨d0, d1, d2, d3, d4, d5⟩, ⟨x0, x1, x2, x3, x4, x5⟩⟩ := kk W5 hX6
  go_wp2_with fail
  refine (kCB _).mono ?_
  rintro e w6 ⟨rfl, hB6⟩
  have hX7 := hX6.trans (hB6.mono hX6.size)
  clear d0 d1 d2 d3 d4 d5 x0 x1 x2 x3 x4 x5 hB6 kCB
  obtain ⟨⟨d0, d1, d2, d3, d4, d5⟩, ⟨x0, x1, x2, x3, x4, x5⟩⟩ := kk w6 hX7
  go_wp2_with fail
  refine (kSz _).mono ?_
  rintro e w7 ⟨rfl, hB7⟩
  have hX8 := hX7.trans (hB7.mono hX7.size)
  go_wp2
  go_ret
  exact ⟨rfl, hX0 _ hX8⟩
theorem gboxes_23 (l : List Cel) (A : Option Addr) (ka : Nat) (lx ly lz ux uy uz : Int) (w : World) (kA : AwakeAt w) (ha : Sl w (.slice A l.length ka) l) (h1 : shortB l.length 80 = true) (hl0 : l = []) (hE : boxE ((lx, ly, lz), (ux, uy, uz)) = 0) (n1 : Near (lx, ly, lz) 1000) (n2 : Near (ux, uy, uz) 1000) (hwd : Wide ((lx, ly, lz), (ux, uy, uz))) (S : Int) (hS : sizeB ((lx, ly, lz), (ux, uy, uz)) = S) (hS6 : ¬ S > 600) :
    Calls Tryz.prog 4 #[.slice A l.length ka, boxV ((lx, ly, lz), (ux, uy, uz))] w fun e w' => e = .returned (.bool true) ∧ Below w.heap.size w w' := by
  have la := short_len h1 (by omega)
  obtain ⟨W0, hW⟩ : ∃ W0, W0 = (w.alloc (.cells #[.int .i64 lx, .int .i64 ly, .int .i64 lz, .int .i64 ux, .int .i64 uy, .int .i64 uz] 40)).alloc (.cells #[.int .i64 lx, .int .i64 ly, .int .i64 lz, .int .i64 ux, .int .i64 uy, .int .i64 uz] 41) := ⟨_, rfl⟩
  have hK0 : Below w.heap.size w W0 := by subst hW; exact ((Below.refl _ _).alloc (Nat.le_refl _) _).alloc (by simp) _
  have d0 : W0.cell? ⟨w.heap.size, 0, none⟩ = some (.int .i64 lx) := by subst hW; go_simp
  have d1 : W0.cell? ⟨w.heap.size, 1, none⟩ = some (.int .i64 ly) := by subst hW; go_simp
  have d2 : W0.cell? ⟨w.heap.size, 2, none⟩ = some (.int .i64 lz) := by subst hW; go_simp
  have d3 : W0.cell? ⟨w.heap.size, 3, none⟩ = some (.int .i64 ux) := by subst hW; go_simp
  have d4 : W0.cell? ⟨w.heap.size, 4, none⟩ = some (.int .i64 uy) := by subst hW; go_simp
  have d5 : W0.cell? ⟨w.heap.size, 5, none⟩ = some (.int .i64 uz) := by subst hW; go_simp
  have x0 : W0.cell? ⟨w.heap.size + 1, 0, none⟩ = some (.int .i64 lx) := by subst hW; go_simp
  have x1 : W0.cell? ⟨w.heap.size + 1, 1, none⟩ = some (.int .i64 ly) := by subst hW; go_simp
  have x2 : W0.cell? ⟨w.heap.size + 1, 2, none⟩ = some (.int .i64 lz) := by subst hW; go_simp
  have x3 : W0.cell? ⟨w.heap.size + 1, 3, none⟩ = some (.int .i64 ux) := by subst hW; go_simp
  have x4 : W0.cell? ⟨w.heap.size + 1, 4, none⟩ = some (.int .i64 uy) := by subst hW; go_simp
  have x5 : W0.cell? ⟨w.heap.size + 1, 5, none⟩ = some (.int .i64 uz) := by subst hW; go_simp
  have hlt : w.heap.size + 1 < W0.heap.size := by subst hW; simp
  have hlt' : w.heap.size < W0.heap.size := by omega
  have kk : ∀ W', Below W0.heap.size W0 W' → (W'.cell? ⟨w.heap.size, 0, none⟩ = some (.int .i64 lx) ∧ W'.cell? ⟨w.heap.size, 1, none⟩ = some (.int .i64 ly) ∧ W'.cell? ⟨w.heap.size, 2, none⟩ = some (.int .i64 lz) ∧ W'.cell? ⟨w.heap.size, 3, none⟩ = some (.int .i64 ux) ∧ W'.cell? ⟨w.heap.size, 4, none⟩ = some (.int .i64 uy) ∧ W'.cell? ⟨w.heap.size, 5, none⟩ = some (.int .i64 uz)) ∧ (W'.cell? ⟨w.heap.size + 1, 0, none⟩ = some (.int .i64 lx) ∧ W'.cell? ⟨w.heap.size + 1, 1, none⟩ = some (.int .i64 ly) ∧ W'.cell? ⟨w.heap.size + 1, 2, none⟩ = some (.int .i64 lz) ∧ W'.cell? ⟨w.heap.size + 1, 3, none⟩ = some (.int .i64 ux) ∧ W'.cell? ⟨w.heap.size + 1, 4, none⟩ = some (.int .i64 uy) ∧ W'.cell? ⟨w.heap.size + 1, 5, none⟩ = some (.int .i64 uz)) := fun W' h => ⟨⟨(h.cell (p := ⟨w.heap.size, 0, none⟩) hlt').trans d0, (h.cell (p := ⟨w.heap.size, 1, none⟩) hlt').trans d1, (h.cell (p := ⟨w.heap.size, 2, none⟩) hlt').trans d2, (h.cell (p := ⟨w.heap.size, 3, none⟩) hlt').trans d3, (h.cell (p := ⟨w.heap.size, 4, none⟩) hlt').trans d4, (h.cell (p := ⟨w.heap.size, 5, none⟩) hlt').trans d5⟩, ⟨(h.cell (p := ⟨w.heap.size + 1, 0, none⟩) hlt).trans x0, (h.cell (p := ⟨w.heap.size + 1, 1, none⟩) hlt).trans x1, (h.cell (p := ⟨w.heap.size + 1, 2, none⟩) hlt).trans x2, (h.cell (p := ⟨w.heap.size + 1, 3, none⟩) hlt).trans x3, (h.cell (p := ⟨w.heap.size + 1, 4, none⟩) hlt).trans x4, (h.cell (p := ⟨w.heap.size + 1, 5, none⟩) hlt).trans x5⟩⟩
  have hX0 := fun W (h : Below W0.heap.size W0 W) => hK0.trans (h.mono hK0.size)
  have k0 := kA W0 hK0
  have kS := fun W => short_true h1 A ka W
  have kC := fun W (h : Below W0.heap.size W0 W) => refCheckG l _ W (ha.below (hX0 W h)) (by unfold maxLen; omega)
  have kCB := fun W => checkBoxG ((lx, ly, lz), (ux, uy, uz)) W
  rw [hE] at kCB
  subst hl0
  have kB := fun W (h : Below W0.heap.size W0 W) => bound0 _ W (ha.below (hX0 W h))
  have hc : chkI [] = 0 := by unfold chkI chkFrom; rfl
  rw [hc] at kC
  have kW := fun W => when_ok true 12 W
  have kF := fun blk W => firstL2 0 12 blk 2 W
  have e5 : fstI [0, 12] = 12 := by simp [fstI]
  rw [e5] at kF
  have heq := fun W => eqBoxG 0 0 0 0 0 0 W
  unfold boxO at kB
  clear e5 hc
  have kSz := fun W => size_ok ((lx, ly, lz), (ux, uy, uz)) n1 n2 W
  have hlen := len_boxL ((lx, ly, lz), (ux, uy, uz)) hwd
  rw [hS] at kSz hlen
  have kBl := fun W => block_ok ((lx, ly, lz), (ux, uy, uz)) n1 n2 hwd (by omega) W
  have kRBl := fun W => refBlock_ok ((lx, ly, lz), (ux, uy, uz)) n1 n2 (by omega) W
  generalize boxL ((lx, ly, lz), (ux, uy, uz)) = XS at kBl kRBl hlen
  have hXS : XS.length ≤ 4096 := by omega
  unfold boxV at kSz kBl kRBl
  dsimp only at kSz kBl kRBl
  clear hE hS n1 n2 hwd hlen
  unfold boxV at kB kCB ⊢
  dsimp only at kB kCB ⊢
  clear kA ha h1 la d0 d1 d2 d3 d4 d5 x0 x1 x2 x3 x4 x5
  go_enter Tryz.func4, Tryz.ntmps4
  go_wp2_with fail
  rw [← hW]
  clear hW
  refine k0.mono ?_
  rintro e w1 ⟨rfl, hX1⟩
  go_wp2_with fail
  refine (kS _).mono ?_
  rintro e w1a ⟨rfl, hw1a⟩
  subst hw1a
  have q1 := kB _ hX1
  go_wp2_with fail
  refine q1.mono ?_
  rintro e w2 ⟨rfl, hB2⟩
  have hX2 := hX1.trans (hB2.mono hX1.size)
  obtain ⟨W2, hW2⟩ : ∃ W2, W2 = w2.alloc (.cells #[.int .i64 0, .int .i64 0, .int .i64 0, .int .i64 0, .int .i64 0, .int .i64 0] 40) := ⟨_, rfl⟩
  have y0 : W2.cell? ⟨w2.heap.size, 0, none⟩ = some (.int .i64 0) := by subst hW2; go_simp
  have y1 : W2.cell? ⟨w2.heap.size, 1, none⟩ = some (.int .i64 0) := by subst hW2; go_simp
  have y2 : W2.cell? ⟨w2.heap.size, 2, none⟩ = some (.int .i64 0) := by subst hW2; go_simp
  have y3 : W2.cell? ⟨w2.heap.size, 3, none⟩ = some (.int .i64 0) := by subst hW2; go_simp
  have y4 : W2.cell? ⟨w2.heap.size, 4, none⟩ = some (.int .i64 0) := by subst hW2; go_simp
  have y5 : W2.cell? ⟨w2.heap.size, 5, none⟩ = some (.int .i64 0) := by subst hW2; go_simp
  have hX3 : Below W0.heap.size W0 W2 := by subst hW2; exact hX2.alloc hX2.size _
  have hlo : w2.heap.size < W2.heap.size := by subst hW2; simp
  have ko : ∀ W', Below W2.heap.size W2 W' → W'.cell? ⟨w2.heap.size, 0, none⟩ = some (.int .i64 0) ∧ W'.cell? ⟨w2.heap.size, 1, none⟩ = some (.int .i64 0) ∧ W'.cell? ⟨w2.heap.size, 2, none⟩ = some (.int .i64 0) ∧ W'.cell? ⟨w2.heap.size, 3, none⟩ = some (.int .i64 0) ∧ W'.cell? ⟨w2.heap.size, 4, none⟩ = some (.int .i64 0) ∧ W'.cell? ⟨w2.heap.size, 5, none⟩ = some (.int .i64 0) := fun W' h => ⟨(h.cell (p := ⟨w2.heap.size, 0, none⟩) hlo).trans y0, (h.cell (p := ⟨w2.heap.size, 1, none⟩) hlo).trans y1, (h.cell (p := ⟨w2.heap.size, 2, none⟩) hlo).trans y2, (h.cell (p := ⟨w2.heap.size, 3, none⟩) hlo).trans y3, (h.cell (p := ⟨w2.heap.size, 4, none⟩) hlo).trans y4, (h.cell (p := ⟨w2.heap.size, 5, none⟩) hlo).trans y5⟩
  have q2 := kC _ hX3
  clear kB kC hB2 hX1 hX2 q1 y0 y1 y2 y3 y4 y5
  go_wp2_with fail
  rw [← hW2]
  clear hW2
  refine q2.mono ?_
  rintro e w3 ⟨rfl, hO3⟩
  have hX4 := hX3.trans (hO3.mono hX3.size)
  go_wp2_with fail
  refine (kW _).mono ?_
  rintro e w3a ⟨rfl, hw3a⟩
  subst hw3a
  go_wp2_with fail
  refine (kF _ _ (by go_simp) (by go_simp)).mono ?_
  rintro e w4 ⟨rfl, hw4⟩
  have hO4 : Below W2.heap.size W2 w4 := by subst hw4; exact hO3.alloc hO3.size _
  have hX5 : Below W0.heap.size W0 w4 := hX3.trans (hO4.mono hX3.size)
  clear hw4 hO3 hX4 kF kW q2
  obtain ⟨y0, y1, y2, y3, y4, y5⟩ := ko w4 hO4
  go_wp2_with fail
  go_quiet (fail)
  rename Nat => qa
  obtain ⟨W5, hW5⟩ : ∃ W5, W5 = w4.drewN qa := ⟨_, rfl⟩
  have hX6 : Below W0.heap.size W0 W5 := by subst hW5; exact ⟨hX5.os, hX5.tape, hX5.output, hX5.size, hX5.block⟩
  rw [← hW5]
  clear hW5 hX5 hO4 ko y0 y1 y2 y3 y4 y5 heq
  obtain ⟨⟨d0, d1, d2, d3, d4, d5⟩, ⟨x0, x1, x2, x3, x4, x5⟩⟩ := kk W5 hX6
  go_wp2_with fail
  refine (kCB _).mono ?_
  rintro e w6 ⟨rfl, hB6⟩
  have hX7 := hX6.trans (hB6.mono hX6.size)
  clear d0 d1 d2 d3 d4 d5 x0 x1 x2 x3 x4 x5 hB6 kCB
  obtain ⟨⟨d0, d1, d2, d3, d4, d5⟩, ⟨x0, x1, x2, x3, x4, x5⟩⟩ := kk w6 hX7
  go_wp2_with fail
  refine (kSz _).mono ?_
  rintro e w7 ⟨rfl, hB7⟩
  have hX8 := hX7.trans (hB7.mono hX7.size)
  clear d0 d1 d2 d3 d4 d5 x0 x1 x2 x3 x4 x5 hB7 kSz
  obtain ⟨⟨d0, d1, d2, d3, d4, d5⟩, ⟨x0, x1, x2, x3, x4, x5⟩⟩ := kk w7 hX8
  go_wp2_with fail
  refine (kBl _).mono ?_
  rintro e w8 ⟨v1, rfl, ho1, hB8⟩
  have hX9 := hX8.trans (hB8.mono hX8.size)
  clear d0 d1 d2 d3 d4 d5 x0 x1 x2 x3 x4 x5 hB8 kBl
  obtain ⟨⟨d0, d1, d2, d3, d4, d5⟩, ⟨x0, x1, x2, x3, x4, x5⟩⟩ := kk w8 hX9
  go_wp2_with fail
  refine (kRBl _).mono ?_
  rintro e w9 ⟨v2, rfl, ho2, hB9⟩
  have hX10 := hX9.trans (hB9.mono hX9.size)
  have q9 := cells_same XS _ _ _ (ho1.sl.below hB9) ho2.sl hXS
  clear d0 d1 d2 d3 d4 d5 x0 x1 x2 x3 x4 x5 hB9 kRBl
  go_wp2_with fail
  refine q9.mono ?_
  rintro e w10 ⟨rfl, hB10⟩
  go_wp2
  go_ret
  exact ⟨rfl, hX0 _ (hX10.trans (hB10.mono hX10.size))⟩
theorem gboxes_31 (l : List Cel) (A : Option Addr) (ka : Nat) (lx ly lz ux uy uz : Int) (w : World) (kA : AwakeAt w) (ha : Sl w (.slice A l.length ka) l) (h1 : shortB l.length 80 = true) (h : Cel) (hh : l[0]? = some h) (hc : chkI l = 0) (E : Int) (hE : boxE ((lx, ly, lz), (ux, uy, uz)) = E) (hE0 : E ≠ 0) :
    Calls Tryz.prog 4 #[.slice A l.length ka, boxV ((lx, ly, lz), (ux, uy, uz))] w fun e w' => e = .returned (.bool true) ∧ Below w.heap.size w w' := by
  have la := short_len h1 (by omega)
  obtain ⟨W0, hW⟩ : ∃ W0, W0 = (w.alloc (.cells #[.int .i64 lx, .int .i64 ly, .int .i64 lz, .int .i64 ux, .int .i64 uy, .int .i64 uz] 40)).alloc (.cells #[.int .i64 lx, .int .i64 ly, .int .i64 lz, .int .i64 ux, .int .i64 uy, .int .i64 uz] 41) := ⟨_, rfl⟩
  have hK0 : Below w.heap.size w W0 := by subst hW; exact ((Below.refl _ _).alloc (Nat.le_refl _) _).alloc (by simp) _
  have d0 : W0.cell? ⟨w.heap.size, 0, none⟩ = some (.int .i64 lx) := by subst hW; go_simp
  have d1 : W0.cell? ⟨w.heap.size, 1, none⟩ = some (.int .i64 ly) := by subst hW; go_simp
  have d2 : W0.cell? ⟨w.heap.size, 2, none⟩ = some (.int .i64 lz) := by subst hW; go_simp
  have d3 : W0.cell? ⟨w.heap.size, 3, none⟩ = some (.int .i64 ux) := by subst hW; go_simp
  have d4 : W0.cell? ⟨w.heap.size, 4, none⟩ = some (.int .i64 uy) := by subst hW; go_simp
  have d5 : W0.cell? ⟨w.heap.size, 5, none⟩ = some (.int .i64 uz) := by subst hW; go_simp
  have x0 : W0.cell? ⟨w.heap.size + 1, 0, none⟩ = some (.int .i64 lx) := by subst hW; go_simp
  have x1 : W0.cell? ⟨w.heap.size + 1, 1, none⟩ = some (.int .i64 ly) := by subst hW; go_simp
  have x2 : W0.cell? ⟨w.heap.size + 1, 2, none⟩ = some (.int .i64 lz) := by subst hW; go_simp
  have x3 : W0.cell? ⟨w.heap.size + 1, 3, none⟩ = some (.int .i64 ux) := by subst hW; go_simp
  have x4 : W0.cell? ⟨w.heap.size + 1, 4, none⟩ = some (.int .i64 uy) := by subst hW; go_simp
  have x5 : W0.cell? ⟨w.heap.size + 1, 5, none⟩ = some (.int .i64 uz) := by subst hW; go_simp
  have hlt : w.heap.size + 1 < W0.heap.size := by subst hW; simp
  have hlt' : w.heap.size < W0.heap.size := by omega
  have kk : ∀ W', Below W0.heap.size W0 W' → (W'.cell? ⟨w.heap.size, 0, none⟩ = some (.int .i64 lx) ∧ W'.cell? ⟨w.heap.size, 1, none⟩ = some (.int .i64 ly) ∧ W'.cell? ⟨w.heap.size, 2, none⟩ = some (.int .i64 lz) ∧ W'.cell? ⟨w.heap.size, 3, none⟩ = some (.int .i64 ux) ∧ W'.cell? ⟨w.heap.size, 4, none⟩ = some (.int .i64 uy) ∧ W'.cell? ⟨w.heap.size, 5, none⟩ = some (.int .i64 uz)) ∧ (W'.cell? ⟨w.heap.size + 1, 0, none⟩ = some (.int .i64 lx) ∧ W'.cell? ⟨w.heap.size + 1, 1, none⟩ = some (.int .i64 ly) ∧ W'.cell? ⟨w.heap.size + 1, 2, none⟩ = some (.int .i64 lz) ∧ W'.cell? ⟨w.heap.size + 1, 3, none⟩ = some (.int .i64 ux) ∧ W'.cell? ⟨w.heap.size + 1, 4, none⟩ = some (.int .i64 uy) ∧ W'.cell? ⟨w.heap.size + 1, 5, none⟩ = some (.int .i64 uz)) := fun W' h => ⟨⟨(h.cell (p := ⟨w.heap.size, 0, none⟩) hlt').trans d0, (h.cell (p := ⟨w.heap.size, 1, none⟩) hlt').trans d1, (h.cell (p := ⟨w.heap.size, 2, none⟩) hlt').trans d2, (h.cell (p := ⟨w.heap.size, 3, none⟩) hlt').trans d3, (h.cell (p := ⟨w.heap.size, 4, none⟩) hlt').trans d4, (h.cell (p := ⟨w.heap.size, 5, none⟩) hlt').trans d5⟩, ⟨(h.cell (p := ⟨w.heap.size + 1, 0, none⟩) hlt).trans x0, (h.cell (p := ⟨w.heap.size + 1, 1, none⟩) hlt).trans x1, (h.cell (p := ⟨w.heap.size + 1, 2, none⟩) hlt).trans x2, (h.cell (p := ⟨w.heap.size + 1, 3, none⟩) hlt).trans x3, (h.cell (p := ⟨w.heap.size + 1, 4, none⟩) hlt).trans x4, (h.cell (p := ⟨w.heap.size + 1, 5, none⟩) hlt).trans x5⟩⟩
  have hX0 := fun W (h : Below W0.heap.size W0 W) => hK0.trans (h.mono hK0.size)
  have k0 := kA W0 hK0
  have kS := fun W => short_true h1 A ka W
  have kC := fun W (h : Below W0.heap.size W0 W) => refCheckG l _ W (ha.below (hX0 W h)) (by unfold maxLen; omega)
  have kCB := fun W => checkBoxG ((lx, ly, lz), (ux, uy, uz)) W
  rw [hE] at kCB
  have kB := fun W (hx : Below W0.heap.size W0 W) => Bound_ok l h _ W (ha.below (hX0 W hx)) hh hc
  have kRB := fun W (hx : Below W0.heap.size W0 W) => refBound_ok l h _ W (ha.below (hX0 W hx)) hh (by omega)
  rw [hc] at kC
  have hpos : 0 < l.length := (List.getElem?_eq_some_iff.1 hh).1
  have hn0 : (((l.length : Nat) : Int) == 0) = false := by rw [beq_eq_false_iff_ne]; omega
  have kW := fun W => when_ok false 12 W
  have kF := fun blk W => firstL2 0 0 blk 2 W
  have e5 : fstI [0, 0] = 0 := by simp [fstI]
  rw [e5] at kF
  generalize bndK h l l.length = O at kB kRB
  obtain ⟨⟨o1, o2, o3⟩, ⟨o4, o5, o6⟩⟩ := O
  have heq := fun W => eqBoxR o1 o2 o3 o4 o5 o6 W
  unfold boxV at kRB
  dsimp only at kRB
  clear e5 hc hh hpos
  have kBl := fun W => blockE ((lx, ly, lz), (ux, uy, uz)) W (by rw [hE]; exact hE0)
  rw [hE] at kBl
  have kBad := fun W => cells_bad none none 0 0 0 E hE0 W
  have hEn : (E != 0) = true := by rw [bne_iff_ne]; exact hE0
  have hE1 : (E == 0) = false := by rw [beq_eq_false_iff_ne]; exact hE0
  unfold boxV at kBl
  dsimp only at kBl
  clear hE hE0
  unfold boxV at kB kCB ⊢
  dsimp only at kB kCB ⊢
  clear kA ha h1 la d0 d1 d2 d3 d4 d5 x0 x1 x2 x3 x4 x5
  go_enter Tryz.func4, Tryz.ntmps4
  go_wp2_with fail
  rw [← hW]
  clear hW
  refine k0.mono ?_
  rintro e w1 ⟨rfl, hX1⟩
  go_wp2_with fail
  refine (kS _).mono ?_
  rintro e w1a ⟨rfl, hw1a⟩
  subst hw1a
  have q1 := kB _ hX1
  go_wp2_with fail
  refine q1.mono ?_
  rintro e w2 ⟨rfl, hB2⟩
  have hX2 := hX1.trans (hB2.mono hX1.size)
  obtain ⟨W2, hW2⟩ : ∃ W2, W2 = w2.alloc (.cells #[.int .i64 o1, .int .i64 o2, .int .i64 o3, .int .i64 o4, .int .i64 o5, .int .i64 o6] 40) := ⟨_, rfl⟩
  have y0 : W2.cell? ⟨w2.heap.size, 0, none⟩ = some (.int .i64 o1) := by subst hW2; go_simp
  have y1 : W2.cell? ⟨w2.heap.size, 1, none⟩ = some (.int .i64 o2) := by subst hW2; go_simp
  have y2 : W2.cell? ⟨w2.heap.size, 2, none⟩ = some (.int .i64 o3) := by subst hW2; go_simp
  have y3 : W2.cell? ⟨w2.heap.size, 3, none⟩ = some (.int .i64 o4) := by subst hW2; go_simp
  have y4 : W2.cell? ⟨w2.heap.size, 4, none⟩ = some (.int .i64 o5) := by subst hW2; go_simp
  have y5 : W2.cell? ⟨w2.heap.size, 5, none⟩ = some (.int .i64 o6) := by subst hW2; go_simp
  have hX3 : Below W0.heap.size W0 W2 := by subst hW2; exact hX2.alloc hX2.size _
  have hlo : w2.heap.size < W2.heap.size := by subst hW2; simp
  have ko : ∀ W', Below W2.heap.size W2 W' → W'.cell? ⟨w2.heap.size, 0, none⟩ = some (.int .i64 o1) ∧ W'.cell? ⟨w2.heap.size, 1, none⟩ = some (.int .i64 o2) ∧ W'.cell? ⟨w2.heap.size, 2, none⟩ = some (.int .i64 o3) ∧ W'.cell? ⟨w2.heap.size, 3, none⟩ = some (.int .i64 o4) ∧ W'.cell? ⟨w2.heap.size, 4, none⟩ = some (.int .i64 o5) ∧ W'.cell? ⟨w2.heap.size, 5, none⟩ = some (.int .i64 o6) := fun W' h => ⟨(h.cell (p := ⟨w2.heap.size, 0, none⟩) hlo).trans y0, (h.cell (p := ⟨w2.heap.size, 1, none⟩) hlo).trans y1, (h.cell (p := ⟨w2.heap.size, 2, none⟩) hlo).trans y2, (h.cell (p := ⟨w2.heap.size, 3, none⟩) hlo).trans y3, (h.cell (p := ⟨w2.heap.size, 4, none⟩) hlo).trans y4, (h.cell (p := ⟨w2.heap.size, 5, none⟩) hlo).trans y5⟩
  have q2 := kC _ hX3
  clear kB kC hB2 hX1 hX2 q1 y0 y1 y2 y3 y4 y5
  go_wp2_with fail
  rw [← hW2]
  clear hW2
  refine q2.mono ?_
  rintro e w3 ⟨rfl, hO3⟩
  have hX4 := hX3.trans (hO3.mono hX3.size)
  go_wp2_with fail
  refine (kW _).mono ?_
  rintro e w3a ⟨rfl, hw3a⟩
  subst hw3a
  go_wp2_with fail
  refine (kF _ _ (by go_simp) (by go_simp)).mono ?_
  rintro e w4 ⟨rfl, hw4⟩
  have hO4 : Below W2.heap.size W2 w4 := by subst hw4; exact hO3.alloc hO3.size _
  have hX5 : Below W0.heap.size W0 w4 := hX3.trans (hO4.mono hX3.size)
  clear hw4 hO3 hX4 kF kW q2
  obtain ⟨y0, y1, y2, y3, y4, y5⟩ := ko w4 hO4
  go_wp2
  have hX : Below w4.heap.size w4 w4.drew := (Below.refl _ _).drew
  have kRB' := fun W (h : Below w4.heap.size w4 W) => kRB W (hX5.trans (h.mono hX5.size))
  have ko' := fun W (h : Below w4.heap.size w4 W) => ko W (hO4.trans (h.mono hO4.size))
  clear kRB
  refine wp_region_held_drew (S := fun w' => w'.cell? ⟨w2.heap.size, 0, none⟩ = some (.int .i64 o1) ∧ w'.cell? ⟨w2.heap.size, 1, none⟩ = some (.int .i64 o2) ∧ w'.cell? ⟨w2.heap.size, 2, none⟩ = some (.int .i64 o3) ∧ w'.cell? ⟨w2.heap.size, 3, none⟩ = some (.int .i64 o4) ∧ w'.cell? ⟨w2.heap.size, 4, none⟩ = some (.int .i64 o5) ∧ w'.cell? ⟨w2.heap.size, 5, none⟩ = some (.int .i64 o6)) (by kernel_rfl) ⟨y0, y1, y2, y3, y4, y5⟩ (fun hHeld => ?_)
  refine wpAnyH_ready (rs := [0]) (by kernel_rfl) (by simp) ?_
  refine AllReadyH.cons rfl (fun K hK => ?_) AllReadyH.nil
  go_simp
  refine hK.out _ _ hHeld (fun _ => ?_)
  clear hK K
  try simp only [Act.put, List.setIfInBounds_toArray, List.set_cons_zero, List.set_cons_succ]
  refine wpAnyH_ready (rs := [1]) (by kernel_rfl) (by simp) ?_
  refine AllReadyH.cons rfl (fun K hK => ?_) AllReadyH.nil
  go_simp
  refine hK.out _ _ hHeld (fun _ => ?_)
  clear hK K
  try simp only [Act.put, List.setIfInBounds_toArray, List.set_cons_zero, List.set_cons_succ]
  refine wpAnyH_ready (rs := [2]) (by kernel_rfl) (by simp) ?_
  refine AllReadyH.cons rfl (fun K hK => ?_) AllReadyH.nil
  go_simp
  refine hK.out _ _ hHeld (fun _ => ?_)
  clear hK K
  try simp only [Act.put, List.setIfInBounds_toArray, List.set_cons_zero, List.set_cons_succ]
  refine held_no 3 (some 36) rfl rfl (by kernel_rfl) (by kernel_rfl) (by kernel_rfl) (fun _ _ _ h => h) rfl hHeld ?_
  try simp only [Act.put, List.setIfInBounds_toArray, List.set_cons_zero, List.set_cons_succ]
  refine held_no 4 (some 37) rfl rfl (by kernel_rfl) (by kernel_rfl) (by kernel_rfl) (fun _ _ _ h => h) rfl hHeld ?_
  try simp only [Act.put, List.setIfInBounds_toArray, List.set_cons_zero, List.set_cons_succ]
  refine held_no 5 (some 38) rfl rfl (by kernel_rfl) (by kernel_rfl) (by kernel_rfl) (fun _ _ _ h => h) rfl hHeld ?_
  try simp only [Act.put, List.setIfInBounds_toArray, List.set_cons_zero, List.set_cons_succ]
  refine held_no 6 (some 39) rfl rfl (by kernel_rfl) (by kernel_rfl) (by kernel_rfl) (fun _ _ _ h => h) rfl hHeld ?_
  try simp only [Act.put, List.setIfInBounds_toArray, List.set_cons_zero, List.set_cons_succ]
  refine held_no 7 (some 40) rfl rfl (by kernel_rfl) (by kernel_rfl) (by kernel_rfl) (fun _ _ _ h => h) rfl hHeld ?_
  try simp only [Act.put, List.setIfInBounds_toArray, List.set_cons_zero, List.set_cons_succ]
  refine held_no 8 (some 41) rfl rfl (by kernel_rfl) (by kernel_rfl) (by kernel_rfl) (fun _ _ _ h => h) rfl hHeld ?_
  try simp only [Act.put, List.setIfInBounds_toArray, List.set_cons_zero, List.set_cons_succ]
  refine held_no 9 (some 42) rfl rfl (by kernel_rfl) (by kernel_rfl) (by kernel_rfl) (fun _ _ _ h => h) rfl hHeld ?_
  try simp only [Act.put, List.setIfInBounds_toArray, List.set_cons_zero, List.set_cons_succ]
  refine held_no 10 (some 43) rfl rfl (by kernel_rfl) (by kernel_rfl) (by kernel_rfl) (fun _ _ _ h => h) rfl hHeld ?_
  try simp only [Act.put, List.setIfInBounds_toArray, List.set_cons_zero, List.set_cons_succ]
  refine wpAnyH_ready (rs := [11]) (by kernel_rfl) (by simp) ?_
  refine AllReadyH.cons rfl (fun K hK => ?_) AllReadyH.nil
  go_simp
  refine hK.out _ _ hHeld (fun _ => ?_)
  clear hK K
  try simp only [Act.put, List.setIfInBounds_toArray, List.set_cons_zero, List.set_cons_succ]
  refine wpAnyH_ready (rs := [12]) (by kernel_rfl) (by simp) ?_
  refine AllReadyH.cons rfl (fun K hK => ?_) AllReadyH.nil
  go_simp
  refine hK.out _ _ hHeld (fun _ => ?_)
  clear hK K
  try simp only [Act.put, List.setIfInBounds_toArray, List.set_cons_zero, List.set_cons_succ]
  refine wpAnyH_ready (rs := [13]) (by kernel_rfl) (by simp) ?_
  refine AllReadyH.cons rfl (fun K hK => ?_) AllReadyH.nil
  go_simp
  refine hK.out _ _ hHeld (fun _ => ?_)
  clear hK K
  try simp only [Act.put, List.setIfInBounds_toArray, List.set_cons_zero, List.set_cons_succ]
  refine wpAnyH_ready (rs := [14]) (by kernel_rfl) (by simp) ?_
  refine AllReadyH.cons rfl (fun K hK => ?_) AllReadyH.nil
  go_simp
  refine hK.out _ _ hHeld (fun _ => ?_)
  clear hK K
  try simp only [Act.put, List.setIfInBounds_toArray, List.set_cons_zero, List.set_cons_succ]
  refine wpAnyH_ready (rs := [15]) (by kernel_rfl) (by simp) ?_
  refine AllReadyH.cons rfl (fun K hK => ?_) AllReadyH.nil
  go_simp
  refine hK.out _ _ hHeld (fun _ => ?_)
  clear hK K
  try simp only [Act.put, List.setIfInBounds_toArray, List.set_cons_zero, List.set_cons_succ]
  refine wpAnyH_ready (rs := [16]) (by kernel_rfl) (by simp) ?_
  refine AllReadyH.cons rfl (fun K hK => ?_) AllReadyH.nil
  go_simp
  refine hK.out _ _ hHeld (fun _ => ?_)
  clear hK K
  try simp only [Act.put, List.setIfInBounds_toArray, List.set_cons_zero, List.set_cons_succ]
  refine wpAnyH_ready (rs := [17]) (by kernel_rfl) (by simp) ?_
  refine AllReadyH.cons rfl (fun K hK => ?_) AllReadyH.nil
  go_simp
  refine hK.out _ _ hHeld (fun _ => ?_)
  clear hK K
  try simp only [Act.put, List.setIfInBounds_toArray, List.set_cons_zero, List.set_cons_succ]
  refine wpAnyH_ready (rs := [18]) (by kernel_rfl) (by simp) ?_
  refine AllReadyH.cons rfl (fun K hK => ?_) AllReadyH.nil
  go_simp
  refine hK.out _ _ hHeld (fun _ => ?_)
  clear hK K
  try simp only [Act.put, List.setIfInBounds_toArray, List.set_cons_zero, List.set_cons_succ]
  refine held_yes 19 (some 52) (.agg #[.int .i64 o1, .int .i64 o2, .int .i64 o3, .int .i64 o4, .int .i64 o5, .int .i64 o6]) rfl rfl (by kernel_rfl) (by kernel_rfl) (by kernel_rfl) (fun _ _ _ h => h) rfl (fun w' hS => by obtain ⟨s0, s1, s2, s3, s4, s5⟩ := hS; go_simp) hHeld ?_
  try simp only [Act.put, List.setIfInBounds_toArray, List.set_cons_zero, List.set_cons_succ]
  refine wpAnyH_ready (rs := [20]) (by kernel_rfl) (by simp) ?_
  refine AllReadyH.cons rfl (fun K hK => ?_) AllReadyH.nil
  go_simp
  refine hK.out _ _ hHeld (fun _ => ?_)
  clear hK K
  try simp only [Act.put, List.setIfInBounds_toArray, List.set_cons_zero, List.set_cons_succ]
  refine wpAnyH_ready (rs := [21]) (by kernel_rfl) (by simp) ?_
  refine AllReadyH.cons rfl (fun K hK => ?_) AllReadyH.nil
  go_simp
  refine (kRB' _ hX).mono ?_
  rintro e w5 ⟨rfl, hB5⟩
  have hX := hX.trans (hB5.mono hX.size)
  go_wp2_with fail
  refine hK.out _ _ (ko' _ hX) (fun hHeld => ?_)
  clear hK K
  try simp only [Act.put, List.setIfInBounds_toArray, List.set_cons_zero, List.set_cons_succ]
  refine wpAnyH_ready (rs := [22]) (by kernel_rfl) (by simp) ?_
  refine AllReadyH.cons rfl (fun K hK => ?_) AllReadyH.nil
  go_simp
  refine hK.out _ _ hHeld (fun _ => ?_)
  clear hK K
  try simp only [Act.put, List.setIfInBounds_toArray, List.set_cons_zero, List.set_cons_succ]
  refine wpAnyH_ready (rs := [23]) (by kernel_rfl) (by simp) ?_
  refine AllReadyH.cons rfl (fun K hK => ?_) AllReadyH.nil
  go_simp
  refine hK.out _ _ hHeld (fun _ => ?_)
  clear hK K
  try simp only [Act.put, List.setIfInBounds_toArray, List.set_cons_zero, List.set_cons_succ]
  refine wpAnyH_ready (rs := [24]) (by kernel_rfl) (by simp) ?_
  refine AllReadyH.cons rfl (fun K hK => ?_) AllReadyH.nil
  go_simp
  refine hK.out _ _ hHeld (fun _ => ?_)
  clear hK K
  try simp only [Act.put, List.setIfInBounds_toArray, List.set_cons_zero, List.set_cons_succ]
  refine wpAnyH_ready (rs := [25]) (by kernel_rfl) (by simp) ?_
  refine AllReadyH.cons rfl (fun K hK => ?_) AllReadyH.nil
  go_simp
  refine hK.out _ _ hHeld (fun _ => ?_)
  clear hK K
  try simp only [Act.put, List.setIfInBounds_toArray, List.set_cons_zero, List.set_cons_succ]
  refine wpAnyH_done (by kernel_rfl) ?_ _
  clear hHeld
  obtain ⟨W5, hW5⟩ : ∃ W5, W5 = w5 := ⟨_, rfl⟩
  rw [← hW5]
  have hX6 : Below W0.heap.size W0 W5 := by subst hW5; exact hX5.trans (hX.mono hX5.size)
  clear hW5 hX5 hO4 ko ko' kRB' y0 y1 y2 y3 y4 y5 heq
  obtain ⟨⟨d0, d1, d2, d3, d4, d5⟩, ⟨x0, x1, x2, x3, x4, x5⟩⟩ := kk W5 hX6
  go_wp2_with fail
  refine (kCB _).mono ?_
  rintro e w6 ⟨rfl, hB6⟩
  have hX7 := hX6.trans (hB6.mono hX6.size)
  clear d0 d1 d2 d3 d4 d5 x0 x1 x2 x3 x4 x5 hB6 kCB
  obtain ⟨⟨d0, d1, d2, d3, d4, d5⟩, ⟨x0, x1, x2, x3, x4, x5⟩⟩ := kk w6 hX7
  go_wp2_with fail
  refine (kBl _).mono ?_
  rintro e w7 ⟨rfl, hB7⟩
  have hX8 := hX7.trans (hB7.mono hX7.size)
  go_wp2_with fail
  refine (kBad _).mono ?_
  rintro e w8 ⟨rfl, hw8⟩
  subst hw8
  go_wp2
  go_ret
  exact ⟨rfl, hX0 _ hX8⟩
theorem gboxes_32 (l : List Cel) (A : Option Addr) (ka : Nat) (lx ly lz ux uy uz : Int) (w : World) (kA : AwakeAt w) (ha : Sl w (.slice A l.length ka) l) (h1 : shortB l.length 80 = true) (h : Cel) (hh : l[0]? = some h) (hc : chkI l = 0) (hE : boxE ((lx, ly, lz), (ux, uy, uz)) = 0) (n1 : Near (lx, ly, lz) 1000) (n2 : Near (ux, uy, uz) 1000) (S : Int) (hS : sizeB ((lx, ly, lz), (ux, uy, uz)) = S) (hS6 : S > 600) :
    Calls Tryz.prog 4 #[.slice A l.length ka, boxV ((lx, ly, lz), (ux, uy, uz))] w fun e w' => e = .returned (.bool true) ∧ Below w.heap.size w w' := by
  have la := short_len h1 (by omega)
  obtain ⟨W0, hW⟩ : ∃ W0, W0 = (w.alloc (.cells #[.int .i64 lx, .int .i64 ly, .int .i64 lz, .int .i64 ux, .int .i64 uy, .int .i64 uz] 40)).alloc (.cells #[.int .i64 lx, .int .i64 ly, .int .i64 lz, .int .i64 ux, .int .i64 uy, .int .i64 uz] 41) := ⟨_, rfl⟩
  have hK0 : Below w.heap.size w W0 := by subst hW; exact ((Below.refl _ _).alloc (Nat.le_refl _) _).alloc (by simp) _
  have d0 : W0.cell? ⟨w.heap.size, 0, none⟩ = some (.int .i64 lx) := by subst hW; go_simp
  have d1 : W0.cell? ⟨w.heap.size, 1, none⟩ = some (.int .i64 ly) := by subst hW; go_simp
  have d2 : W0.cell? ⟨w.heap.size, 2, none⟩ = some (.int .i64 lz) := by subst hW; go_simp
  have d3 : W0.cell? ⟨w.heap.size, 3, none⟩ = some (.int .i64 ux) := by subst hW; go_simp
  have d4 : W0.cell? ⟨w.heap.size, 4, none⟩ = some (.int .i64 uy) := by subst hW; go_simp
  have d5 : W0.cell? ⟨w.heap.size, 5, none⟩ = some (.int .i64 uz) := by subst hW; go_simp
  have x0 : W0.cell? ⟨w.heap.size + 1, 0, none⟩ = some (.int .i64 lx) := by subst hW; go_simp
  have x1 : W0.cell? ⟨w.heap.size + 1, 1, none⟩ = some (.int .i64 ly) := by subst hW; go_simp
  have x2 : W0.cell? ⟨w.heap.size + 1, 2, none⟩ = some (.int .i64 lz) := by subst hW; go_simp
  have x3 : W0.cell? ⟨w.heap.size + 1, 3, none⟩ = some (.int .i64 ux) := by subst hW; go_simp
  have x4 : W0.cell? ⟨w.heap.size + 1, 4, none⟩ = some (.int .i64 uy) := by subst hW; go_simp
  have x5 : W0.cell? ⟨w.heap.size + 1, 5, none⟩ = some (.int .i64 uz) := by subst hW; go_simp
  have hlt : w.heap.size + 1 < W0.heap.size := by subst hW; simp
  have hlt' : w.heap.size < W0.heap.size := by omega
  have kk : ∀ W', Below W0.heap.size W0 W' → (W'.cell? ⟨w.heap.size, 0, none⟩ = some (.int .i64 lx) ∧ W'.cell? ⟨w.heap.size, 1, none⟩ = some (.int .i64 ly) ∧ W'.cell? ⟨w.heap.size, 2, none⟩ = some (.int .i64 lz) ∧ W'.cell? ⟨w.heap.size, 3, none⟩ = some (.int .i64 ux) ∧ W'.cell? ⟨w.heap.size, 4, none⟩ = some (.int .i64 uy) ∧ W'.cell? ⟨w.heap.size, 5, none⟩ = some (.int .i64 uz)) ∧ (W'.cell? ⟨w.heap.size + 1, 0, none⟩ = some (.int .i64 lx) ∧ W'.cell? ⟨w.heap.size + 1, 1, none⟩ = some (.int .i64 ly) ∧ W'.cell? ⟨w.heap.size + 1, 2, none⟩ = some (.int .i64 lz) ∧ W'.cell? ⟨w.heap.size + 1, 3, none⟩ = some (.int .i64 ux) ∧ W'.cell? ⟨w.heap.size + 1, 4, none⟩ = some (.int .i64 uy) ∧ W'.cell? ⟨w.heap.size + 1, 5, none⟩ = some (.int .i64 uz)) := fun W' h => ⟨⟨(h.cell (p := ⟨w.heap.size, 0, none⟩) hlt').trans d0, (h.cell (p := ⟨w.heap.size, 1, none⟩) hlt').trans d1, (h.cell (p := ⟨w.heap.size, 2, none⟩) hlt').trans d2, (h.cell (p := ⟨w.heap.size, 3, none⟩) hlt').trans d3, (h.cell (p := ⟨w.heap.size, 4, none⟩) hlt').trans d4, (h.cell (p := ⟨w.heap.size, 5, none⟩) hlt').trans d5⟩, ⟨(h.cell (p := ⟨w.heap.size + 1, 0, none⟩) hlt).trans x0, (h.cell (p := ⟨w.heap.size + 1, 1, none⟩) hlt).trans x1, (h.cell (p := ⟨w.heap.size + 1, 2, none⟩) hlt).trans x2, (h.cell (p := ⟨w.heap.size + 1, 3, none⟩) hlt).trans x3, (h.cell (p := ⟨w.heap.size + 1, 4, none⟩) hlt).trans x4, (h.cell (p := ⟨w.heap.size + 1, 5, none⟩) hlt).trans x5⟩⟩
  have hX0 := fun W (h : Below W0.heap.size W0 W) => hK0.trans (h.mono hK0.size)
  have k0 := kA W0 hK0
  have kS := fun W => short_true h1 A ka W
  have kC := fun W (h : Below W0.heap.size W0 W) => refCheckG l _ W (ha.below (hX0 W h)) (by unfold maxLen; omega)
  have kCB := fun W => checkBoxG ((lx, ly, lz), (ux, uy, uz)) W
  rw [hE] at kCB
  have kB := fun W (hx : Below W0.heap.size W0 W) => Bound_ok l h _ W (ha.below (hX0 W hx)) hh hc
  have kRB := fun W (hx : Below W0.heap.size W0 W) => refBound_ok l h _ W (ha.below (hX0 W hx)) hh (by omega)
  rw [hc] at kC
  have hpos : 0 < l.length := (List.getElem?_eq_some_iff.1 hh).1
  have hn0 : (((l.length : Nat) : Int) == 0) = false := by rw [beq_eq_false_iff_ne]; omega
  have kW := fun W => when_ok false 12 W
  have kF := fun blk W => firstL2 0 0 blk 2 W
  have e5 : fstI [0, 0] = 0 := by simp [fstI]
  rw [e5] at kF
  generalize bndK h l l.length = O at kB kRB
  obtain ⟨⟨o1, o2, o3⟩, ⟨o4, o5, o6⟩⟩ := O
  have heq := fun W => eqBoxR o1 o2 o3 o4 o5 o6 W
  unfold boxV at kRB
  dsimp only at kRB
  clear e5 hc hh hpos
  have kSz := fun W => size_ok ((lx, ly, lz), (ux, uy, uz)) n1 n2 W
  rw [hS] at kSz
  unfold boxV at kSz
  dsimp only at kSz
  clear hE hS n1 n2
  unfold boxV at kB kCB ⊢
  dsimp only at kB kCB ⊢
  clear kA ha h1 la d0 d1 d2 d3 d4 d5 x0 x1 x2 x3 x4 x5
  go_enter Tryz.func4, Tryz.ntmps4
  go_wp2_with fail
  rw [← hW]
  clear hW
  refine k0.mono ?_
  rintro e w1 ⟨rfl, hX1⟩
  go_wp2_with fail
  refine (kS _).mono ?_
  rintro e w1a ⟨rfl, hw1a⟩
  subst hw1a
  have q1 := kB _ hX1
  go_wp2_with fail
  refine q1.mono ?_
  rintro e w2 ⟨rfl, hB2⟩
  have hX2 := hX1.trans (hB2.mono hX1.size)
  obtain ⟨W2, hW2⟩ : ∃ W2, W2 = w2.alloc (.cells #[.int .i64 o1, .int .i64 o2, .int .i64 o3, .int .i64 o4, .int .i64 o5, .int .i64 o6] 40) := ⟨_, rfl⟩
  have y0 : W2.cell? ⟨w2.heap.size, 0, none⟩ = some (.int .i64 o1) := by subst hW2; go_simp
  have y1 : W2.cell? ⟨w2.heap.size, 1, none⟩ = some (.int .i64 o2) := by subst hW2; go_simp
  have y2 : W2.cell? ⟨w2.heap.size, 2, none⟩ = some (.int .i64 o3) := by subst hW2; go_simp
  have y3 : W2.cell? ⟨w2.heap.size, 3, none⟩ = some (.int .i64 o4) := by subst hW2; go_simp
  have y4 : W2.cell? ⟨w2.heap.size, 4, none⟩ = some (.int .i64 o5) := by subst hW2; go_simp
  have y5 : W2.cell? ⟨w2.heap.size, 5, none⟩ = some (.int .i64 o6) := by subst hW2; go_simp
  have hX3 : Below W0.heap.size W0 W2 := by subst hW2; exact hX2.alloc hX2.size _
  have hlo : w2.heap.size < W2.heap.size := by subst hW2; simp
  have ko : ∀ W', Below W2.heap.size W2 W' → W'.cell? ⟨w2.heap.size, 0, none⟩ = some (.int .i64 o1) ∧ W'.cell? ⟨w2.heap.size, 1, none⟩ = some (.int .i64 o2) ∧ W'.cell? ⟨w2.heap.size, 2, none⟩ = some (.int .i64 o3) ∧ W'.cell? ⟨w2.heap.size, 3, none⟩ = some (.int .i64 o4) ∧ W'.cell? ⟨w2.heap.size, 4, none⟩ = some (.int .i64 o5) ∧ W'.cell? ⟨w2.heap.size, 5, none⟩ = some (.int .i64 o6) := fun W' h => ⟨(h.cell (p := ⟨w2.heap.size, 0, none⟩) hlo).trans y0, (h.cell (p := ⟨w2.heap.size, 1, none⟩) hlo).trans y1, (h.cell (p := ⟨w2.heap.size, 2, none⟩) hlo).trans y2, (h.cell (p := ⟨w2.heap.size, 3, none⟩) hlo).trans y3, (h.cell (p := ⟨w2.heap.size, 4, none⟩) hlo).trans y4, (h.cell (p := ⟨w2.heap.size, 5, none⟩) hlo).trans y5⟩
  have q2 := kC _ hX3
  clear kB kC hB2 hX1 hX2 q1 y0 y1 y2 y3 y4 y5
  go_wp2_with fail
  rw [← hW2]
  clear hW2
  refine q2.mono ?_
  rintro e w3 ⟨rfl, hO3⟩
  have hX4 := hX3.trans (hO3.mono hX3.size)
  go_wp2_with fail
  refine (kW _).mono ?_
  rintro e w3a ⟨rfl, hw3a⟩
  subst hw3a
  go_wp2_with fail
  refine (kF _ _ (by go_simp) (by go_simp)).mono ?_
  rintro e w4 ⟨rfl, hw4⟩
  have hO4 : Below W2.heap.size W2 w4 := by subst hw4; exact hO3.alloc hO3.size _
  have hX5 : Below W0.heap.size W0 w4 := hX3.trans (hO4.mono hX3.size)
  clear hw4 hO3 hX4 kF kW q2
  obtain ⟨y0, y1, y2, y3, y4, y5⟩ := ko w4 hO4
  go_wp2
  have hX : Below w4.heap.size w4 w4.drew := (Below.refl _ _).drew
  have kRB' := fun W (h : Below w4.heap.size w4 W) => kRB W (hX5.trans (h.mono hX5.size))
  have ko' := fun W (h : Below w4.heap.size w4 W) => ko W (hO4.trans (h.mono hO4.size))
  clear kRB
  refine wp_region_held_drew (S := fun w' => w'.cell? ⟨w2.heap.size, 0, none⟩ = some (.int .i64 o1) ∧ w'.cell? ⟨w2.heap.size, 1, none⟩ = some (.int .i64 o2) ∧ w'.cell? ⟨w2.heap.size, 2, none⟩ = some (.int .i64 o3) ∧ w'.cell? ⟨w2.heap.size, 3, none⟩ = some (.int .i64 o4) ∧ w'.cell? ⟨w2.heap.size, 4, none⟩ = some (.int .i64 o5) ∧ w'.cell? ⟨w2.heap.size, 5, none⟩ = some (.int .i64 o6)) (by kernel_rfl) ⟨y0, y1, y2, y3, y4, y5⟩ (fun hHeld => ?_)
  refine wpAnyH_ready (rs := [0]) (by kernel_rfl) (by simp) ?_
  refine AllReadyH.cons rfl (fun K hK => ?_) AllReadyH.nil
  go_simp
  refine hK.out _ _ hHeld (fun _ => ?_)
  clear hK K
  try simp only [Act.put, List.setIfInBounds_toArray, List.set_cons_zero, List.set_cons_succ]
  refine wpAnyH_ready (rs := [1]) (by kernel_rfl) (by simp) ?_
  refine AllReadyH.cons rfl (fun K hK => ?_) AllReadyH.nil
  go_simp
  refine hK.out _ _ hHeld (fun _ => ?_)
  clear hK K
  try simp only [Act.put, List.setIfInBounds_toArray, List.set_cons_zero, List.set_cons_succ]
  refine wpAnyH_ready (rs := [2]) (by kernel_rfl) (by simp) ?_
  refine AllReadyH.cons rfl (fun K hK => ?_) AllReadyH.nil
  go_simp
  refine hK.out _ _ hHeld (fun _ => ?_)
  clear hK K
  try simp only [Act.put, List.setIfInBounds_toArray, List.set_cons_zero, List.set_cons_succ]
  refine held_no 3 (some 36) rfl rfl (by kernel_rfl) (by kernel_rfl) (by kernel_rfl) (fun _ _ _ h => h) rfl hHeld ?_
  try simp only [Act.put, List.setIfInBounds_toArray, List.set_cons_zero, List.set_cons_succ]
  refine held_no 4 (some 37) rfl rfl (by kernel_rfl) (by kernel_rfl) (by kernel_rfl) (fun _ _ _ h => h) rfl hHeld ?_
  try simp only [Act.put, List.setIfInBounds_toArray, List.set_cons_zero, List.set_cons_succ]
  refine held_no 5 (some 38) rfl rfl (by kernel_rfl) (by kernel_rfl) (by kernel_rfl) (fun _ _ _ h => h) rfl hHeld ?_
  try simp only [Act.put, List.setIfInBounds_toArray, List.set_cons_zero, List.set_cons_succ]
  refine held_no 6 (some 39) rfl rfl (by kernel_rfl) (by kernel_rfl) (by kernel_rfl) (fun _ _ _ h => h) rfl hHeld ?_
  try simp only [Act.put, List.setIfInBounds_toArray, List.set_cons_zero, List.set_cons_succ]
  refine held_no 7 (some 40) rfl rfl (by kernel_rfl) (by kernel_rfl) (by kernel_rfl) (fun _ _ _ h => h) rfl hHeld ?_
  try simp only [Act.put, List.setIfInBounds_toArray, List.set_cons_zero, List.set_cons_succ]
  refine held_no 8 (some 41) rfl rfl (by kernel_rfl) (by kernel_rfl) (by kernel_rfl) (fun _ _ _ h => h) rfl hHeld ?_
  try simp only [Act.put, List.setIfInBounds_toArray, List.set_cons_zero, List.set_cons_succ]
  refine held_no 9 (some 42) rfl rfl (by kernel_rfl) (by kernel_rfl) (by kernel_rfl) (fun _ _ _ h => h) rfl hHeld ?_
  try simp only [Act.put, List.setIfInBounds_toArray, List.set_cons_zero, List.set_cons_succ]
  refine held_no 10 (some 43) rfl rfl (by kernel_rfl) (by kernel_rfl) (by kernel_rfl) (fun _ _ _ h => h) rfl hHeld ?_
  try simp only [Act.put, List.setIfInBounds_toArray, List.set_cons_zero, List.set_cons_succ]
  refine wpAnyH_ready (rs := [11]) (by kernel_rfl) (by simp) ?_
  refine AllReadyH.cons rfl (fun K hK => ?_) AllReadyH.nil
  go_simp
  refine hK.out _ _ hHeld (fun _ => ?_)
  clear hK K
  try simp only [Act.put, List.setIfInBounds_toArray, List.set_cons_zero, List.set_cons_succ]
  refine wpAnyH_ready (rs := [12]) (by kernel_rfl) (by simp) ?_
  refine AllReadyH.cons rfl (fun K hK => ?_) AllReadyH.nil
  go_simp
  refine hK.out _ _ hHeld (fun _ => ?_)
  clear hK K
  try simp only [Act.put, List.setIfInBounds_toArray, List.set_cons_zero, List.set_cons_succ]
  refine wpAnyH_ready (rs := [13]) (by kernel_rfl) (by simp) ?_
  refine AllReadyH.cons rfl (fun K hK => ?_) AllReadyH.nil
  go_simp
  refine hK.out _ _ hHeld (fun _ => ?_)
  clear hK K
  try simp only [Act.put, List.setIfInBounds_toArray, List.set_cons_zero, List.set_cons_succ]
  refine wpAnyH_ready (rs := [14]) (by kernel_rfl) (by simp) ?_
  refine AllReadyH.cons rfl (fun K hK => ?_) AllReadyH.nil
  go_simp
  refine hK.out _ _ hHeld (fun _ => ?_)
  clear hK K
  try simp only [Act.put, List.setIfInBounds_toArray, List.set_cons_zero, List.set_cons_succ]
  refine wpAnyH_ready (rs := [15]) (by kernel_rfl) (by simp) ?_
  refine AllReadyH.cons rfl (fun K hK => ?_) AllReadyH.nil
  go_simp
  refine hK.out _ _ hHeld (fun _ => ?_)
  clear hK K
  try simp only [Act.put, List.setIfInBounds_toArray, List.set_cons_zero, List.set_cons_succ]
  refine wpAnyH_ready (rs := [16]) (by kernel_rfl) (by simp) ?_
  refine AllReadyH.cons rfl (fun K hK => ?_) AllReadyH.nil
  go_simp
  refine hK.out _ _ hHeld (fun _ => ?_)
  clear hK K
  try simp only [Act.put, List.setIfInBounds_toArray, List.set_cons_zero, List.set_cons_succ]
  refine wpAnyH_ready (rs := [17]) (by kernel_rfl) (by simp) ?_
  refine AllReadyH.cons rfl (fun K hK => ?_) AllReadyH.nil
  go_simp
  refine hK.out _ _ hHeld (fun _ => ?_)
  clear hK K
  try simp only [Act.put, List.setIfInBounds_toArray, List.set_cons_zero, List.set_cons_succ]
  refine wpAnyH_ready (rs := [18]) (by kernel_rfl) (by simp) ?_
  refine AllReadyH.cons rfl (fun K hK => ?_) AllReadyH.nil
  go_simp
  refine hK.out _ _ hHeld (fun _ => ?_)
  clear hK K
  try simp only [Act.put, List.setIfInBounds_toArray, List.set_cons_zero, List.set_cons_succ]
  refine held_yes 19 (some 52) (.agg #[.int .i64 o1, .int .i64 o2, .int .i64 o3, .int .i64 o4, .int .i64 o5, .int .i64 o6]) rfl rfl (by kernel_rfl) (by kernel_rfl) (by kernel_rfl) (fun _ _ _ h => h) rfl (fun w' hS => by obtain ⟨s0, s1, s2, s3, s4, s5⟩ := hS; go_simp) hHeld ?_
  try simp only [Act.put, List.setIfInBounds_toArray, List.set_cons_zero, List.set_cons_succ]
  refine wpAnyH_ready (rs := [20]) (by kernel_rfl) (by simp) ?_
  refine AllReadyH.cons rfl (fun K hK => ?_) AllReadyH.nil
  go_simp
  refine hK.out _ _ hHeld (fun _ => ?_)
  clear hK K
  try simp only [Act.put, List.setIfInBounds_toArray, List.set_cons_zero, List.set_cons_succ]
  refine wpAnyH_ready (rs := [21]) (by kernel_rfl) (by simp) ?_
  refine AllReadyH.cons rfl (fun K hK => ?_) AllReadyH.nil
  go_simp
  refine (kRB' _ hX).mono ?_
  rintro e w5 ⟨rfl, hB5⟩
  have hX := hX.trans (hB5.mono hX.size)
  go_wp2_with fail
  refine hK.out _ _ (ko' _ hX) (fun hHeld => ?_)
  clear hK K
  try simp only [Act.put, List.setIfInBounds_toArray, List.set_cons_zero, List.set_cons_succ]
  refine wpAnyH_ready (rs := [22]) (by kernel_rfl) (by simp) ?_
  refine AllReadyH.cons rfl (fun K hK => ?_) AllReadyH.nil
  go_simp
  refine hK.out _ _ hHeld (fun _ => ?_)
  clear hK K
  try simp only [Act.put, List.setIfInBounds_toArray, List.set_cons_zero, List.set_cons_succ]
  refine wpAnyH_ready (rs := [23]) (by kernel_rfl) (by simp) ?_
  refine AllReadyH.cons rfl (fun K hK => ?_) AllReadyH.nil
  go_simp
  refine hK.out _ _ hHeld (fun _ => ?_)
  clear hK K
  try simp only [Act.put, List.setIfInBounds_toArray, List.set_cons_zero, List.set_cons_succ]
  refine wpAnyH_ready (rs := [24]) (by kernel_rfl) (by simp) ?_
  refine AllReadyH.cons rfl (fun K hK => ?_) AllReadyH.nil
  go_simp
  refine hK.out _ _ hHeld (fun _ => ?_)
  clear hK K
  try simp only [Act.put, List.setIfInBounds_toArray, List.set_cons_zero, List.set_cons_succ]
  refine wpAnyH_ready (rs := [25]) (by kernel_rfl) (by simp) ?_
  refine AllReadyH.cons rfl (fun K hK => ?_) AllReadyH.nil
  go_simp
  refine hK.out _ _ hHeld (fun _ => ?_)
  clear hK K
  try simp only [Act.put, List.setIfInBounds_toArray, List.set_cons_zero, List.set_cons_succ]
  refine wpAnyH_done (by kernel_rfl) ?_ _
  clear hHeld
  obtain ⟨W5, hW5⟩ : ∃ W5, W5 = w5 := ⟨_, rfl⟩
  rw [← hW5]
  have hX6 : Below W0.heap.size W0 W5 := by subst hW5; exact hX5.trans (hX.mono hX5.size)
  clear hW5 hX5 hO4 ko ko' kRB' y0 y1 y2 y3 y4 y5 heq
  obtain ⟨⟨d0, d1, d2, d3, d4, d5⟩, ⟨x0, x1, x2, x3, x4, x5⟩⟩ := kk W5 hX6
  go_wp2_with fail
  refine (kCB _).mono ?_
  rintro e w6 ⟨rfl, hB6⟩
  have hX7 := hX6.trans (hB6.mono hX6.size)
  clear d0 d1 d2 d3 d4 d5 x0 x1 x2 x3 x4 x5 hB6 kCB
  obtain ⟨⟨d0, d1, d2, d3, d4, d5⟩, ⟨x0, x1, x2, x3, x4, x5⟩⟩ := kk w6 hX7
  go_wp2_with fail
  refine (kSz _).mono ?_
  rintro e w7 ⟨rfl, hB7⟩
  have hX8 := hX7.trans (hB7.mono hX7.size)
  go_wp2
  go_ret
  exact ⟨rfl, hX0 _ hX8⟩
theorem gboxes_33 (l : List Cel) (A : Option Addr) (ka : Nat) (lx ly lz ux uy uz : Int) (w : World) (kA : AwakeAt w) (ha : Sl w (.slice A l.length ka) l) (h1 : shortB l.length 80 = true) (h : Cel) (hh : l[0]? = some h) (hc : chkI l = 0) (hE : boxE ((lx, ly, lz), (ux, uy, uz)) = 0) (n1 : Near (lx, ly, lz) 1000) (n2 : Near (ux, uy, uz) 1000) (hwd : Wide ((lx, ly, lz), (ux, uy, uz))) (S : Int) (hS : sizeB ((lx, ly, lz), (ux, uy, uz)) = S) (hS6 : ¬ S > 600) :
    Calls Tryz.prog 4 #[.slice A l.length ka, boxV ((lx, ly, lz), (ux, uy, uz))] w fun e w' => e = .returned (.bool true) ∧ Below w.heap.size w w' := by
  have la := short_len h1 (by omega)
  obtain ⟨W0, hW⟩ : ∃ W0, W0 = (w.alloc (.cells #[.int .i64 lx, .int .i64 ly, .int .i64 lz, .int .i64 ux, .int .i64 uy, .int .i64 uz] 40)).alloc (.cells #[.int .i64 lx, .int .i64 ly, .int .i64 lz, .int .i64 ux, .int .i64 uy, .int .i64 uz] 41) := ⟨_, rfl⟩
  have hK0 : Below w.heap.size w W0 := by subst hW; exact ((Below.refl _ _).alloc (Nat.le_refl _) _).alloc (by simp) _
  have d0 : W0.cell? ⟨w.heap.size, 0, none⟩ = some (.int .i64 lx) := by subst hW; go_simp
  have d1 : W0.cell? ⟨w.heap.size, 1, none⟩ = some (.int .i64 ly) := by subst hW; go_simp
  have d2 : W0.cell? ⟨w.heap.size, 2, none⟩ = some (.int .i64 lz) := by subst hW; go_simp
  have d3 : W0.cell? ⟨w.heap.size, 3, none⟩ = some (.int .i64 ux) := by subst hW; go_simp
  have d4 : W0.cell? ⟨w.heap.size, 4, none⟩ = some (.int .i64 uy) := by subst hW; go_simp
  have d5 : W0.cell? ⟨w.heap.size, 5, none⟩ = some (.int .i64 uz) := by subst hW; go_simp
  have x0 : W0.cell? ⟨w.heap.size + 1, 0, none⟩ = some (.int .i64 lx) := by subst hW; go_simp
  have x1 : W0.cell? ⟨w.heap.size + 1, 1, none⟩ = some (.int .i64 ly) := by subst hW; go_simp
  have x2 : W0.cell? ⟨w.heap.size + 1, 2, none⟩ = some (.int .i64 lz) := by subst hW; go_simp
  have x3 : W0.cell? ⟨w.heap.size + 1, 3, none⟩ = some (.int .i64 ux) := by subst hW; go_simp
  have x4 : W0.cell? ⟨w.heap.size + 1, 4, none⟩ = some (.int .i64 uy) := by subst hW; go_simp
  have x5 : W0.cell? ⟨w.heap.size + 1, 5, none⟩ = some (.int .i64 uz) := by subst hW; go_simp
  have hlt : w.heap.size + 1 < W0.heap.size := by subst hW; simp
  have hlt' : w.heap.size < W0.heap.size := by omega
  have kk : ∀ W', Below W0.heap.size W0 W' → (W'.cell? ⟨w.heap.size, 0, none⟩ = some (.int .i64 lx) ∧ W'.cell? ⟨w.heap.size, 1, none⟩ = some (.int .i64 ly) ∧ W'.cell? ⟨w.heap.size, 2, none⟩ = some (.int .i64 lz) ∧ W'.cell? ⟨w.heap.size, 3, none⟩ = some (.int .i64 ux) ∧ W'.cell? ⟨w.heap.size, 4, none⟩ = some (.int .i64 uy) ∧ W'.cell? ⟨w.heap.size, 5, none⟩ = some (.int .i64 uz)) ∧ (W'.cell? ⟨w.heap.size + 1, 0, none⟩ = some (.int .i64 lx) ∧ W'.cell? ⟨w.heap.size + 1, 1, none⟩ = some (.int .i64 ly) ∧ W'.cell? ⟨w.heap.size + 1, 2, none⟩ = some (.int .i64 lz) ∧ W'.cell? ⟨w.heap.size + 1, 3, none⟩ = some (.int .i64 ux) ∧ W'.cell? ⟨w.heap.size + 1, 4, none⟩ = some (.int .i64 uy) ∧ W'.cell? ⟨w.heap.size + 1, 5, none⟩ = some (.int .i64 uz)) := fun W' h => ⟨⟨(h.cell (p := ⟨w.heap.size, 0, none⟩) hlt').trans d0, (h.cell (p := ⟨w.heap.size, 1, none⟩) hlt').trans d1, (h.cell (p := ⟨w.heap.size, 2, none⟩) hlt').trans d2, (h.cell (p := ⟨w.heap.size, 3, none⟩) hlt').trans d3, (h.cell (p := ⟨w.heap.size, 4, none⟩) hlt').trans d4, (h.cell (p := ⟨w.heap.size, 5, none⟩) hlt').trans d5⟩, ⟨(h.cell (p := ⟨w.heap.size + 1, 0, none⟩) hlt).trans x0, (h.cell (p := ⟨w.heap.size + 1, 1, none⟩) hlt).trans x1, (h.cell (p := ⟨w.heap.size + 1, 2, none⟩) hlt).trans x2, (h.cell (p := ⟨w.heap.size + 1, 3, none⟩) hlt).trans x3, (h.cell (p := ⟨w.heap.size + 1, 4, none⟩) hlt).trans x4, (h.cell (p := ⟨w.heap.size + 1, 5, none⟩) hlt).trans x5⟩⟩
  have hX0 := fun W (h : Below W0.heap.size W0 W) => hK0.trans (h.mono hK0.size)
  have k0 := kA W0 hK0
  have kS := fun W => short_true h1 A ka W
  have kC := fun W (h : Below W0.heap.size W0 W) => refCheckG l _ W (ha.below (hX0 W h)) (by unfold maxLen; omega)
  have kCB := fun W => checkBoxG ((lx, ly, lz), (ux, uy, uz)) W
  rw [hE] at kCB
  have kB := fun W (hx : Below W0.heap.size W0 W) => Bound_ok l h _ W (ha.below (hX0 W hx)) hh hc
  have kRB := fun W (hx : Below W0.heap.size W0 W) => refBound_ok l h _ W (ha.below (hX0 W hx)) hh (by omega)
  rw [hc] at kC
  have hpos : 0 < l.length := (List.getElem?_eq_some_iff.1 hh).1
  have hn0 : (((l.length : Nat) : Int) == 0) = false := by rw [beq_eq_false_iff_ne]; omega
  have kW := fun W => when_ok false 12 W
  have kF := fun blk W => firstL2 0 0 blk 2 W
  have e5 : fstI [0, 0] = 0 := by simp [fstI]
  rw [e5] at kF
  generalize bndK h l l.length = O at kB kRB
  obtain ⟨⟨o1, o2, o3⟩, ⟨o4, o5, o6⟩⟩ := O
  have heq := fun W => eqBoxR o1 o2 o3 o4 o5 o6 W
  unfold boxV at kRB
  dsimp only at kRB
  clear e5 hc hh hpos
  have kSz := fun W => size_ok ((lx, ly, lz), (ux, uy, uz)) n1 n2 W
  have hlen := len_boxL ((lx, ly, lz), (ux, uy, uz)) hwd
  rw [hS] at kSz hlen
  have kBl := fun W => block_ok ((lx, ly, lz), (ux, uy, uz)) n1 n2 hwd (by omega) W
  have kRBl := fun W => refBlock_ok ((lx, ly, lz), (ux, uy, uz)) n1 n2 (by omega) W
  generalize boxL ((lx, ly, lz), (ux, uy, uz)) = XS at kBl kRBl hlen
  have hXS : XS.length ≤ 4096 := by omega
  unfold boxV at kSz kBl kRBl
  dsimp only at kSz kBl kRBl
  clear hE hS n1 n2 hwd hlen
  unfold boxV at kB kCB ⊢
  dsimp only at kB kCB ⊢
  clear kA ha h1 la d0 d1 d2 d3 d4 d5 x0 x1 x2 x3 x4 x5
  go_enter Tryz.func4, Tryz.ntmps4
  go_wp2_with fail
  rw [← hW]
  clear hW
  refine k0.mono ?_
  rintro e w1 ⟨rfl, hX1⟩
  go_wp2_with fail
  refine (kS _).mono ?_
  rintro e w1a ⟨rfl, hw1a⟩
  subst hw1a
  have q1 := kB _ hX1
  go_wp2_with fail
  refine q1.mono ?_
  rintro e w2 ⟨rfl, hB2⟩
  have hX2 := hX1.trans (hB2.mono hX1.size)
  obtain ⟨W2, hW2⟩ : ∃ W2, W2 = w2.alloc (.cells #[.int .i64 o1, .int .i64 o2, .int .i64 o3, .int .i64 o4, .int .i64 o5, .int .i64 o6] 40) := ⟨_, rfl⟩
  have y0 : W2.cell? ⟨w2.heap.size, 0, none⟩ = some (.int .i64 o1) := by subst hW2; go_simp
  have y1 : W2.cell? ⟨w2.heap.size, 1, none⟩ = some (.int .i64 o2) := by subst hW2; go_simp
  have y2 : W2.cell? ⟨w2.heap.size, 2, none⟩ = some (.int .i64 o3) := by subst hW2; go_simp
  have y3 : W2.cell? ⟨w2.heap.size, 3, none⟩ = some (.int .i64 o4) := by subst hW2; go_simp
  have y4 : W2.cell? ⟨w2.heap.size, 4, none⟩ = some (.int .i64 o5) := by subst hW2; go_simp
  have y5 : W2.cell? ⟨w2.heap.size, 5, none⟩ = some (.int .i64 o6) := by subst hW2; go_simp
  have hX3 : Below W0.heap.size W0 W2 := by subst hW2; exact hX2.alloc hX2.size _
  have hlo : w2.heap.size < W2.heap.size := by subst hW2; simp
  have ko : ∀ W', Below W2.heap.size W2 W' → W'.cell? ⟨w2.heap.size, 0, none⟩ = some (.int .i64 o1) ∧ W'.cell? ⟨w2.heap.size, 1, none⟩ = some (.int .i64 o2) ∧ W'.cell? ⟨w2.heap.size, 2, none⟩ = some (.int .i64 o3) ∧ W'.cell? ⟨w2.heap.size, 3, none⟩ = some (.int .i64 o4) ∧ W'.cell? ⟨w2.heap.size, 4, none⟩ = some (.int .i64 o5) ∧ W'.cell? ⟨w2.heap.size, 5, none⟩ = some (.int .i64 o6) := fun W' h => ⟨(h.cell (p := ⟨w2.heap.size, 0, none⟩) hlo).trans y0, (h.cell (p := ⟨w2.heap.size, 1, none⟩) hlo).trans y1, (h.cell (p := ⟨w2.heap.size, 2, none⟩) hlo).trans y2, (h.cell (p := ⟨w2.heap.size, 3, none⟩) hlo).trans y3, (h.cell (p := ⟨w2.heap.size, 4, none⟩) hlo).trans y4, (h.cell (p := ⟨w2.heap.size, 5, none⟩) hlo).trans y5⟩
  have q2 := kC _ hX3
  clear kB kC hB2 hX1 hX2 q1 y0 y1 y2 y3 y4 y5
  go_wp2_with fail
  rw [← hW2]
  clear hW2
  refine q2.mono ?_
  rintro e w3 ⟨rfl, hO3⟩
  have hX4 := hX3.trans (hO3.mono hX3.size)
  go_wp2_with fail
  refine (kW _).mono ?_
  rintro e w3a ⟨rfl, hw3a⟩
  subst hw3a
  go_wp2_with fail
  refine (kF _ _ (by go_simp) (by go_simp)).mono ?_
  rintro e w4 ⟨rfl, hw4⟩
  have hO4 : Below W2.heap.size W2 w4 := by subst hw4; exact hO3.alloc hO3.size _
  have hX5 : Below W0.heap.size W0 w4 := hX3.trans (hO4.mono hX3.size)
  clear hw4 hO3 hX4 kF kW q2
  obtain ⟨y0, y1, y2, y3, y4, y5⟩ := ko w4 hO4
  go_wp2
  have hX : Below w4.heap.size w4 w4.drew := (Below.refl _ _).drew
  have kRB' := fun W (h : Below w4.heap.size w4 W) => kRB W (hX5.trans (h.mono hX5.size))
  have ko' := fun W (h : Below w4.heap.size w4 W) => ko W (hO4.trans (h.mono hO4.size))
  clear kRB
  refine wp_region_held_drew (S := fun w' => w'.cell? ⟨w2.heap.size, 0, none⟩ = some (.int .i64 o1) ∧ w'.cell? ⟨w2.heap.size, 1, none⟩ = some (.int .i64 o2) ∧ w'.cell? ⟨w2.heap.size, 2, none⟩ = some (.int .i64 o3) ∧ w'.cell? ⟨w2.heap.size, 3, none⟩ = some (.int .i64 o4) ∧ w'.cell? ⟨w2.heap.size, 4, none⟩ = some (.int .i64 o5) ∧ w'.cell? ⟨w2.heap.size, 5, none⟩ = some (.int .i64 o6)) (by kernel_rfl) ⟨y0, y1, y2, y3, y4, y5⟩ (fun hHeld => ?_)
  refine wpAnyH_ready (rs := [0]) (by kernel_rfl) (by simp) ?_
  refine AllReadyH.cons rfl (fun K hK => ?_) AllReadyH.nil
  go_simp
  refine hK.out _ _ hHeld (fun _ => ?_)
  clear hK K
  try simp only [Act.put, List.setIfInBounds_toArray, List.set_cons_zero, List.set_cons_succ]
  refine wpAnyH_ready (rs := [1]) (by kernel_rfl) (by simp) ?_
  refine AllReadyH.cons rfl (fun K hK => ?_) AllReadyH.nil
  go_simp
  refine hK.out _ _ hHeld (fun _ => ?_)
  clear hK K
  try simp only [Act.put, List.setIfInBounds_toArray, List.set_cons_zero, List.set_cons_succ]
  refine wpAnyH_ready (rs := [2]) (by kernel_rfl) (by simp) ?_
  refine AllReadyH.cons rfl (fun K hK => ?_) AllReadyH.nil
  go_simp
  refine hK.out _ _ hHeld (fun _ => ?_)
  clear hK K
  try simp only [Act.put, List.setIfInBounds_toArray, List.set_cons_zero, List.set_cons_succ]
  refine held_no 3 (some 36) rfl rfl (by kernel_rfl) (by kernel_rfl) (by kernel_rfl) (fun _ _ _ h => h) rfl hHeld ?_
  try simp only [Act.put, List.setIfInBounds_toArray, List.set_cons_zero, List.set_cons_succ]
  refine held_no 4 (some 37) rfl rfl (by kernel_rfl) (by kernel_rfl) (by kernel_rfl) (fun _ _ _ h => h) rfl hHeld ?_
  try simp only [Act.put, List.setIfInBounds_toArray, List.set_cons_zero, List.set_cons_succ]
  refine held_no 5 (some 38) rfl rfl (by kernel_rfl) (by kernel_rfl) (by kernel_rfl) (fun _ _ _ h => h) rfl hHeld ?_
  try simp only [Act.put, List.setIfInBounds_toArray, List.set_cons_zero, List.set_cons_succ]
  refine held_no 6 (some 39) rfl rfl (by kernel_rfl) (by kernel_rfl) (by kernel_rfl) (fun _ _ _ h => h) rfl hHeld ?_
  try simp only [Act.put, List.setIfInBounds_toArray, List.set_cons_zero, List.set_cons_succ]
  refine held_no 7 (some 40) rfl rfl (by kernel_rfl) (by kernel_rfl) (by kernel_rfl) (fun _ _ _ h => h) rfl hHeld ?_
  try simp only [Act.put, List.setIfInBounds_toArray, List.set_cons_zero, List.set_cons_succ]
  refine held_no 8 (some 41) rfl rfl (by kernel_rfl) (by kernel_rfl) (by kernel_rfl) (fun _ _ _ h => h) rfl hHeld ?_
  try simp only [Act.put, List.setIfInBounds_toArray, List.set_cons_zero, List.set_cons_succ]
  refine held_no 9 (some 42) rfl rfl (by kernel_rfl) (by kernel_rfl) (by kernel_rfl) (fun _ _ _ h => h) rfl hHeld ?_
  try simp only [Act.put, List.setIfInBounds_toArray, List.set_cons_zero, List.set_cons_succ]
  refine held_no 10 (some 43) rfl rfl (by kernel_rfl) (by kernel_rfl) (by kernel_rfl) (fun _ _ _ h => h) rfl hHeld ?_
  try simp only [Act.put, List.setIfInBounds_toArray, List.set_cons_zero, List.set_cons_succ]
  refine wpAnyH_ready (rs := [11]) (by kernel_rfl) (by simp) ?_
  refine AllReadyH.cons rfl (fun K hK => ?_) AllReadyH.nil
  go_simp
  refine hK.out _ _ hHeld (fun _ => ?_)
  clear hK K
  try simp only [Act.put, List.setIfInBounds_toArray, List.set_cons_zero, List.set_cons_succ]
  refine wpAnyH_ready (rs := [12]) (by kernel_rfl) (by simp) ?_
  refine AllReadyH.cons rfl (fun K hK => ?_) AllReadyH.nil
  go_simp
  refine hK.out _ _ hHeld (fun _ => ?_)
  clear hK K
  try simp only [Act.put, List.setIfInBounds_toArray, List.set_cons_zero, List.set_cons_succ]
  refine wpAnyH_ready (rs := [13]) (by kernel_rfl) (by simp) ?_
  refine AllReadyH.cons rfl (fun K hK => ?_) AllReadyH.nil
  go_simp
  refine hK.out _ _ hHeld (fun _ => ?_)
  clear hK K
  try simp only [Act.put, List.setIfInBounds_toArray, List.set_cons_zero, List.set_cons_succ]
  refine wpAnyH_ready (rs := [14]) (by kernel_rfl) (by simp) ?_
  refine AllReadyH.cons rfl (fun K hK => ?_) AllReadyH.nil
  go_simp
  refine hK.out _ _ hHeld (fun _ => ?_)
  clear hK K
  try simp only [Act.put, List.setIfInBounds_toArray, List.set_cons_zero, List.set_cons_succ]
  refine wpAnyH_ready (rs := [15]) (by kernel_rfl) (by simp) ?_
  refine AllReadyH.cons rfl (fun K hK => ?_) AllReadyH.nil
  go_simp
  refine hK.out _ _ hHeld (fun _ => ?_)
  clear hK K
  try simp only [Act.put, List.setIfInBounds_toArray, List.set_cons_zero, List.set_cons_succ]
  refine wpAnyH_ready (rs := [16]) (by kernel_rfl) (by simp) ?_
  refine AllReadyH.cons rfl (fun K hK => ?_) AllReadyH.nil
  go_simp
  refine hK.out _ _ hHeld (fun _ => ?_)
  clear hK K
  try simp only [Act.put, List.setIfInBounds_toArray, List.set_cons_zero, List.set_cons_succ]
  refine wpAnyH_ready (rs := [17]) (by kernel_rfl) (by simp) ?_
  refine AllReadyH.cons rfl (fun K hK => ?_) AllReadyH.nil
  go_simp
  refine hK.out _ _ hHeld (fun _ => ?_)
  clear hK K
  try simp only [Act.put, List.setIfInBounds_toArray, List.set_cons_zero, List.set_cons_succ]
  refine wpAnyH_ready (rs := [18]) (by kernel_rfl) (by simp) ?_
  refine AllReadyH.cons rfl (fun K hK => ?_) AllReadyH.nil
  go_simp
  refine hK.out _ _ hHeld (fun _ => ?_)
  clear hK K
  try simp only [Act.put, List.setIfInBounds_toArray, List.set_cons_zero, List.set_cons_succ]
  refine held_yes 19 (some 52) (.agg #[.int .i64 o1, .int .i64 o2, .int .i64 o3, .int .i64 o4, .int .i64 o5, .int .i64 o6]) rfl rfl (by kernel_rfl) (by kernel_rfl) (by kernel_rfl) (fun _ _ _ h => h) rfl (fun w' hS => by obtain ⟨s0, s1, s2, s3, s4, s5⟩ := hS; go_simp) hHeld ?_
  try simp only [Act.put, List.setIfInBounds_toArray, List.set_cons_zero, List.set_cons_succ]
  refine wpAnyH_ready (rs := [20]) (by kernel_rfl) (by simp) ?_
  refine AllReadyH.cons rfl (fun K hK => ?_) AllReadyH.nil
  go_simp
  refine hK.out _ _ hHeld (fun _ => ?_)
  clear hK K
  try simp only [Act.put, List.setIfInBounds_toArray, List.set_cons_zero, List.set_cons_succ]
  refine wpAnyH_ready (rs := [21]) (by kernel_rfl) (by simp) ?_
  refine AllReadyH.cons rfl (fun K hK => ?_) AllReadyH.nil
  go_simp
  refine (kRB' _ hX).mono ?_
  rintro e w5 ⟨rfl, hB5⟩
  have hX := hX.trans (hB5.mono hX.size)
  go_wp2_with fail
  refine hK.out _ _ (ko' _ hX) (fun hHeld => ?_)
  clear hK K
  try simp only [Act.put, List.setIfInBounds_toArray, List.set_cons_zero, List.set_cons_succ]
  refine wpAnyH_ready (rs := [22]) (by kernel_rfl) (by simp) ?_
  refine AllReadyH.cons rfl (fun K hK => ?_) AllReadyH.nil
  go_simp
  refine hK.out _ _ hHeld (fun _ => ?_)
  clear hK K
  try simp only [Act.put, List.setIfInBounds_toArray, List.set_cons_zero, List.set_cons_succ]
  refine wpAnyH_ready (rs := [23]) (by kernel_rfl) (by simp) ?_
  refine AllReadyH.cons rfl (fun K hK => ?_) AllReadyH.nil
  go_simp
  refine hK.out _ _ hHeld (fun _ => ?_)
  clear hK K
  try simp only [Act.put, List.setIfInBounds_toArray, List.set_cons_zero, List.set_cons_succ]
  refine wpAnyH_ready (rs := [24]) (by kernel_rfl) (by simp) ?_
  refine AllReadyH.cons rfl (fun K hK => ?_) AllReadyH.nil
  go_simp
  refine hK.out _ _ hHeld (fun _ => ?_)
  clear hK K
  try simp only [Act.put, List.setIfInBounds_toArray, List.set_cons_zero, List.set_cons_succ]
  refine wpAnyH_ready (rs := [25]) (by kernel_rfl) (by simp) ?_
  refine AllReadyH.cons rfl (fun K hK => ?_) AllReadyH.nil
  go_simp
  refine hK.out _ _ hHeld (fun _ => ?_)
  clear hK K
  try simp only [Act.put, List.setIfInBounds_toArray, List.set_cons_zero, List.set_cons_succ]
  refine wpAnyH_done (by kernel_rfl) ?_ _
  clear hHeld
  obtain ⟨W5, hW5⟩ : ∃ W5, W5 = w5 := ⟨_, rfl⟩
  rw [← hW5]
  have hX6 : Below W0.heap.size W0 W5 := by subst hW5; exact hX5.trans (hX.mono hX5.size)
  clear hW5 hX5 hO4 ko ko' kRB' y0 y1 y2 y3 y4 y5 heq
  obtain ⟨⟨d0, d1, d2, d3, d4, d5⟩, ⟨x0, x1, x2, x3, x4, x5⟩⟩ := kk W5 hX6
  go_wp2_with fail
  refine (kCB _).mono ?_
  rintro e w6 ⟨rfl, hB6⟩
  have hX7 := hX6.trans (hB6.mono hX6.size)
  clear d0 d1 d2 d3 d4 d5 x0 x1 x2 x3 x4 x5 hB6 kCB
  obtain ⟨⟨d0, d1, d2, d3, d4, d5⟩, ⟨x0, x1, x2, x3, x4, x5⟩⟩ := kk w6 hX7
  go_wp2_with fail
  refine (kSz _).mono ?_
  rintro e w7 ⟨rfl, hB7⟩
  have hX8 := hX7.trans (hB7.mono hX7.size)
  clear d0 d1 d2 d3 d4 d5 x0 x1 x2 x3 x4 x5 hB7 kSz
  obtain ⟨⟨d0, d1, d2, d3, d4, d5⟩, ⟨x0, x1, x2, x3, x4, x5⟩⟩ := kk w7 hX8
  go_wp2_with fail
  refine (kBl _).mono ?_
  rintro e w8 ⟨v1, rfl, ho1, hB8⟩
  have hX9 := hX8.trans (hB8.mono hX8.size)
  clear d0 d1 d2 d3 d4 d5 x0 x1 x2 x3 x4 x5 hB8 kBl
  obtain ⟨⟨d0, d1, d2, d3, d4, d5⟩, ⟨x0, x1, x2, x3, x4, x5⟩⟩ := kk w8 hX9
  go_wp2_with fail
  refine (kRBl _).mono ?_
  rintro e w9 ⟨v2, rfl, ho2, hB9⟩
  have hX10 := hX9.trans (hB9.mono hX9.size)
  have q9 := cells_same XS _ _ _ (ho1.sl.below hB9) ho2.sl hXS
  clear d0 d1 d2 d3 d4 d5 x0 x1 x2 x3 x4 x5 hB9 kRBl
  go_wp2_with fail
  refine q9.mono ?_
  rintro e w10 ⟨rfl, hB10⟩
  go_wp2
  go_ret
  exact ⟨rfl, hX0 _ (hX10.trans (hB10.mono hX10.size))⟩
theorem boxE_zero {b : Cel × Cel} (h : boxE b = 0) : Near b.1 1000 ∧ Near b.2 1000 ∧ Wide b := by
  unfold boxE at h
  split at h
  · cases h
  · rename_i h1
    simp only [Bool.or_eq_true, not_or, Bool.not_eq_true] at h1
    split at h
    · cases h
    · exact ⟨badC_near.1 h1.1, badC_near.1 h1.2, by unfold Wide; omega⟩
theorem gboxes_all (l : List Cel) (va : Value) (b : Cel × Cel) (w : World) (ha : St w va l) (kA : AwakeAt w) :
    Calls Tryz.prog 4 #[va, boxV b] w fun e w' => e = .returned (.bool true) ∧ Below w.heap.size w w' := by
  obtain ⟨ha1, A, ka, rfl, _, _⟩ := ha
  obtain ⟨⟨lx, ly, lz⟩, ⟨ux, uy, uz⟩⟩ := b
  cases h1 : shortB l.length 80 with
  | false => exact gboxes_out A _ ka lx ly lz ux uy uz w kA h1
  | true =>
    have key : (boxE ((lx, ly, lz), (ux, uy, uz)) ≠ 0) ∨ (boxE ((lx, ly, lz), (ux, uy, uz)) = 0 ∧ sizeB ((lx, ly, lz), (ux, uy, uz)) > 600) ∨ (boxE ((lx, ly, lz), (ux, uy, uz)) = 0 ∧ ¬ sizeB ((lx, ly, lz), (ux, uy, uz)) > 600) := by
      by_cases h2 : boxE ((lx, ly, lz), (ux, uy, uz)) = 0
      · by_cases h3 : sizeB ((lx, ly, lz), (ux, uy, uz)) > 600
        · exact .inr (.inl ⟨h2, h3⟩)
        · exact .inr (.inr ⟨h2, h3⟩)
      · exact .inl h2
    by_cases hc : chkI l = 0
    · cases l with
      | nil =>
        rcases key with hE | ⟨hE, hS⟩ | ⟨hE, hS⟩
        · exact gboxes_21 [] A ka lx ly lz ux uy uz w kA ha1 h1 rfl _ rfl hE
        · obtain ⟨n1, n2, _⟩ := boxE_zero hE
          exact gboxes_22 [] A ka lx ly lz ux uy uz w kA ha1 h1 rfl hE n1 n2 _ rfl hS
        · obtain ⟨n1, n2, hw⟩ := boxE_zero hE
          exact gboxes_23 [] A ka lx ly lz ux uy uz w kA ha1 h1 rfl hE n1 n2 hw _ rfl hS
      | cons h l =>
        rcases key with hE | ⟨hE, hS⟩ | ⟨hE, hS⟩
        · exact gboxes_31 (h :: l) A ka lx ly lz ux uy uz w kA ha1 h1 h rfl hc _ rfl hE
        · obtain ⟨n1, n2, _⟩ := boxE_zero hE
          exact gboxes_32 (h :: l) A ka lx ly lz ux uy uz w kA ha1 h1 h rfl hc hE n1 n2 _ rfl hS
        · obtain ⟨n1, n2, hw⟩ := boxE_zero hE
          exact gboxes_33 (h :: l) A ka lx ly lz ux uy uz w kA ha1 h1 h rfl hc hE n1 n2 hw _ rfl hS
    · rcases key with hE | ⟨hE, hS⟩ | ⟨hE, hS⟩
      · exact gboxes_11 l A ka lx ly lz ux uy uz w kA ha1 h1 _ rfl hc _ rfl hE
      · obtain ⟨n1, n2, _⟩ := boxE_zero hE
        exact gboxes_12 l A ka lx ly lz ux uy uz w kA ha1 h1 _ rfl hc hE n1 n2 _ rfl hS
      · obtain ⟨n1, n2, hw⟩ := boxE_zero hE
        exact gboxes_13 l A ka lx ly lz ux uy uz w kA ha1 h1 _ rfl hc hE n1 n2 hw _ rfl hS
end Go.Proofs
