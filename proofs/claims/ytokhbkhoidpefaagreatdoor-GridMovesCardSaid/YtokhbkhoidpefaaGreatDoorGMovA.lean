/- GridMoves: the walk. -/
import Derived.Test.YtokhbkhoidpefaaGreatDoorMovR
import Derived.Test.YtokhbkhoidpefaaGreatDoorTwROk
namespace Go.Proofs
open Go.RowKit
set_option maxHeartbeats 16000000
set_option maxRecDepth 1000000
theorem gmoves_out (A : Option Addr) (n ka : Nat) (bx by_ bz tn ox oy oz ax at_ th : Int) (w : World) (kA : AwakeAt w) (h1 : shortB n 60 = false) :
    Calls Tryz.prog 3 #[.slice A n ka, .agg #[.int .i64 bx, .int .i64 by_, .int .i64 bz, .int .i64 tn, .int .i64 ox, .int .i64 oy, .int .i64 oz, .int .i64 ax, .int .i64 at_, .int .i64 th]] w fun e w' => e = .returned (.bool true) ∧ Below w.heap.size w w' := by
  obtain ⟨W0, hW⟩ : ∃ W0, W0 = w.alloc (.cells #[.int .i64 bx, .int .i64 by_, .int .i64 bz, .int .i64 tn, .int .i64 ox, .int .i64 oy, .int .i64 oz, .int .i64 ax, .int .i64 at_, .int .i64 th] 26) := ⟨_, rfl⟩
  have hK0 : Below w.heap.size w W0 := by subst hW; exact (Below.refl _ _).alloc (Nat.le_refl _) _
  have k0 := kA W0 hK0
  have k1 := fun W => short_false h1 A ka W
  clear h1
  go_enter Tryz.func3, Tryz.ntmps3
  go_wp2_with fail
  rw [← hW]
  clear hW
  refine k0.mono ?_
  rintro e w1 ⟨rfl, hB1⟩
  have hK1 := hK0.trans (hB1.mono hK0.size)
  go_wp2_with fail
  refine (k1 _).mono ?_
  rintro e w' ⟨rfl, rfl⟩
  have k2 := kA w' hK1
  go_wp2_with fail
  refine k2.mono ?_
  rintro e w2 ⟨rfl, hB2⟩
  go_wp2
  go_ret
  exact ⟨rfl, hK1.trans (hB2.mono hK1.size)⟩
theorem gmoves_0000 (l : List Cel) (A : Option Addr) (ka : Nat) (bx by_ bz tn ox oy oz ax at_ th : Int) (w : World) (kA : AwakeAt w) (ha : Sl w (.slice A l.length ka) l) (h1 : shortB l.length 60 = true) (c a1 a2 a3 a4 a5 a6 : Int) (hc : chkI l = c) (hv1 : vecI (bx, by_, bz) 2000 = a1) (hw2 : withinI tn 0 23 = a2) (hv3 : vecI (ox, oy, oz) 1000 = a3) (hw4 : withinI ax 0 2 = a4) (hw5 : withinI at_ (-1000) 1000 = a5) (hw6 : withinI th 0 23 = a6) (hS : fstI [c, a1] ≠ 0) (hT : fstI [c, a2, a3] ≠ 0) (hM : fstI [c, a4, a5] ≠ 0) (hF : fstI [a2, a6] ≠ 0) :
    Calls Tryz.prog 3 #[.slice A l.length ka, .agg #[.int .i64 bx, .int .i64 by_, .int .i64 bz, .int .i64 tn, .int .i64 ox, .int .i64 oy, .int .i64 oz, .int .i64 ax, .int .i64 at_, .int .i64 th]] w fun e w' => e = .returned (.bool true) ∧ Below w.heap.size w w' := by
  have la := short_len h1 (by omega)
  obtain ⟨W0, hW⟩ : ∃ W0, W0 = w.alloc (.cells #[.int .i64 bx, .int .i64 by_, .int .i64 bz, .int .i64 tn, .int .i64 ox, .int .i64 oy, .int .i64 oz, .int .i64 ax, .int .i64 at_, .int .i64 th] 26) := ⟨_, rfl⟩
  have hK0 : Below w.heap.size w W0 := by subst hW; exact (Below.refl _ _).alloc (Nat.le_refl _) _
  have d0 : W0.cell? ⟨w.heap.size, 0, none⟩ = some (.int .i64 bx) := by subst hW; go_simp
  have d1 : W0.cell? ⟨w.heap.size, 1, none⟩ = some (.int .i64 by_) := by subst hW; go_simp
  have d2 : W0.cell? ⟨w.heap.size, 2, none⟩ = some (.int .i64 bz) := by subst hW; go_simp
  have d3 : W0.cell? ⟨w.heap.size, 3, none⟩ = some (.int .i64 tn) := by subst hW; go_simp
  have d4 : W0.cell? ⟨w.heap.size, 4, none⟩ = some (.int .i64 ox) := by subst hW; go_simp
  have d5 : W0.cell? ⟨w.heap.size, 5, none⟩ = some (.int .i64 oy) := by subst hW; go_simp
  have d6 : W0.cell? ⟨w.heap.size, 6, none⟩ = some (.int .i64 oz) := by subst hW; go_simp
  have d7 : W0.cell? ⟨w.heap.size, 7, none⟩ = some (.int .i64 ax) := by subst hW; go_simp
  have d8 : W0.cell? ⟨w.heap.size, 8, none⟩ = some (.int .i64 at_) := by subst hW; go_simp
  have d9 : W0.cell? ⟨w.heap.size, 9, none⟩ = some (.int .i64 th) := by subst hW; go_simp
  have hlt : w.heap.size < W0.heap.size := by subst hW; simp
  have kk : ∀ W', Below W0.heap.size W0 W' → W'.cell? ⟨w.heap.size, 0, none⟩ = some (.int .i64 bx) ∧ W'.cell? ⟨w.heap.size, 1, none⟩ = some (.int .i64 by_) ∧ W'.cell? ⟨w.heap.size, 2, none⟩ = some (.int .i64 bz) ∧ W'.cell? ⟨w.heap.size, 3, none⟩ = some (.int .i64 tn) ∧ W'.cell? ⟨w.heap.size, 4, none⟩ = some (.int .i64 ox) ∧ W'.cell? ⟨w.heap.size, 5, none⟩ = some (.int .i64 oy) ∧ W'.cell? ⟨w.heap.size, 6, none⟩ = some (.int .i64 oz) ∧ W'.cell? ⟨w.heap.size, 7, none⟩ = some (.int .i64 ax) ∧ W'.cell? ⟨w.heap.size, 8, none⟩ = some (.int .i64 at_) ∧ W'.cell? ⟨w.heap.size, 9, none⟩ = some (.int .i64 th) := fun W' h => ⟨(h.cell (p := ⟨w.heap.size, 0, none⟩) hlt).trans d0, (h.cell (p := ⟨w.heap.size, 1, none⟩) hlt).trans d1, (h.cell (p := ⟨w.heap.size, 2, none⟩) hlt).trans d2, (h.cell (p := ⟨w.heap.size, 3, none⟩) hlt).trans d3, (h.cell (p := ⟨w.heap.size, 4, none⟩) hlt).trans d4, (h.cell (p := ⟨w.heap.size, 5, none⟩) hlt).trans d5, (h.cell (p := ⟨w.heap.size, 6, none⟩) hlt).trans d6, (h.cell (p := ⟨w.heap.size, 7, none⟩) hlt).trans d7, (h.cell (p := ⟨w.heap.size, 8, none⟩) hlt).trans d8, (h.cell (p := ⟨w.heap.size, 9, none⟩) hlt).trans d9⟩
  have hX0 := fun W (h : Below W0.heap.size W0 W) => hK0.trans (h.mono hK0.size)
  have k0 := kA W0 hK0
  have kS := fun W => short_true h1 A ka W
  have kC := fun W (h : Below W0.heap.size W0 W) => refCheckG l _ W (ha.below (hX0 W h)) (by unfold maxLen; omega)
  rw [hc] at kC
  have kV := fun W => refVec_ok bx by_ bz W
  rw [hv1] at kV
  have kO := fun W => refCheckCellG ox oy oz W
  rw [← vecI_bad, hv3] at kO
  have kR2 := fun W => checkRange_ok tn 0 23 W
  have kR4 := fun W => checkRange_ok ax 0 2 W
  have kR5 := fun W => checkRange_ok at_ (-1000) 1000 W
  have kR6 := fun W => checkRange_ok th 0 23 W
  rw [hw2] at kR2
  rw [hw4] at kR4
  rw [hw5] at kR5
  rw [hw6] at kR6
  have kF1 := fun blk W => firstL2 c a1 blk 2 W
  have kF2 := fun blk W => firstL3 c a2 a3 blk 3 W
  have kF3 := fun blk W => firstL3 c a4 a5 blk 3 W
  have kF4 := fun blk W => firstL2 a2 a6 blk 2 W
  have kSh := fun W (h : Below W0.heap.size W0 W) => (shiftG_bad l _ bx by_ bz W (ha.below (hX0 W h)) (by unfold maxLen; omega) c a1 hc hv1 (by rw [← fst_or]; exact hS)).mono fun e w' h => gets_bad (l := []) (by rw [← fst_or]; exact hS) h
  rw [← fst_or] at kSh
  generalize fstI [c, a1] = r1 at kF1 kSh hS
  have b1 : (r1 == 0) = false := by rw [beq_eq_false_iff_ne]; exact hS
  have kTu := fun W (h : Below W0.heap.size W0 W) => (turnX_bad l _ tn ox oy oz W (ha.below (hX0 W h)) (by unfold maxLen; omega) c a2 a3 hc hw2 hv3 (by rw [← fst_or3]; exact hT)).mono fun e w' h => gets_bad (l := []) (by rw [← fst_or3]; exact hT) h
  rw [← fst_or3] at kTu
  generalize fstI [c, a2, a3] = r2 at kF2 kTu hT
  have b2 : (r2 == 0) = false := by rw [beq_eq_false_iff_ne]; exact hT
  have kMi := fun W (h : Below W0.heap.size W0 W) => (mirrorX_bad l _ ax at_ W (ha.below (hX0 W h)) (by unfold maxLen; omega) c a4 a5 hc hw4 hw5 (by rw [← fst_or3]; exact hM)).mono fun e w' h => gets_bad (l := []) (by rw [← fst_or3]; exact hM) h
  rw [← fst_or3] at kMi
  generalize fstI [c, a4, a5] = r3 at kF3 kMi hM
  have b3 : (r3 == 0) = false := by rw [beq_eq_false_iff_ne]; exact hM
  have kTw := fun W => twice_bad tn th W a2 a6 hw2 hw6 (by rw [← fst_or]; exact hF)
  rw [← fst_or] at kTw
  generalize fstI [a2, a6] = r4 at kF4 kTw hF
  have b4 : (r4 != 0) = true := by rw [bne_iff_ne]; exact hF
  have kI := fun W => integer_bad r4 hF W
  clear kA ha h1 la hc hv1 hw2 hv3 hw4 hw5 hw6 hF
  go_enter Tryz.func3, Tryz.ntmps3
  go_wp2_with fail
  rw [← hW]
  clear hW
  refine k0.mono ?_
  rintro e w1 ⟨rfl, hX⟩
  go_wp2_with fail
  refine (kS _).mono ?_
  rintro e w1a ⟨rfl, hw1a⟩
  subst hw1a
  have q := kC _ hX
  go_wp2_with fail
  refine q.mono ?_
  rintro e w2 ⟨rfl, hB⟩
  replace hX := hX.trans (hB.mono hX.size)
  clear hB q k0 kS kC d0 d1 d2 d3 d4 d5 d6 d7 d8 d9
  obtain ⟨d0, d1, d2, d3, d4, d5, d6, d7, d8, d9⟩ := kk _ hX
  have q := kSh _ hX
  go_wp2_with fail
  refine q.mono ?_
  rintro e w3 ⟨A1, n1, k1, E1, rfl, hR1, hB⟩
  replace hX := hX.trans (hB.mono hX.size)
  clear hB q d0 d1 d2 d3 d4 d5 d6 d7 d8 d9
  obtain ⟨d0, d1, d2, d3, d4, d5, d6, d7, d8, d9⟩ := kk _ hX
  have q := kTu _ hX
  go_wp2_with fail
  refine q.mono ?_
  rintro e w4 ⟨A2, n2, k2, E2, rfl, hR2, hB⟩
  replace hX := hX.trans (hB.mono hX.size)
  replace hR1 := hR1.below hB
  clear hB q d0 d1 d2 d3 d4 d5 d6 d7 d8 d9
  obtain ⟨d0, d1, d2, d3, d4, d5, d6, d7, d8, d9⟩ := kk _ hX
  have q := (fun W (_ : Below W0.heap.size W0 W) => kTw W) _ hX
  go_wp2_with fail
  refine q.mono ?_
  rintro e w5 ⟨rfl, hB⟩
  replace hX := hX.trans (hB.mono hX.size)
  replace hR1 := hR1.below hB
  replace hR2 := hR2.below hB
  clear hB q d0 d1 d2 d3 d4 d5 d6 d7 d8 d9
  obtain ⟨d0, d1, d2, d3, d4, d5, d6, d7, d8, d9⟩ := kk _ hX
  have q := kMi _ hX
  go_wp2_with fail
  refine q.mono ?_
  rintro e w6 ⟨A3, n3, k3, E3, rfl, hR3, hB⟩
  replace hX := hX.trans (hB.mono hX.size)
  replace hR1 := hR1.below hB
  replace hR2 := hR2.below hB
  clear hB q d0 d1 d2 d3 d4 d5 d6 d7 d8 d9
  have hD : Below w6.heap.size w6 w6.drew := (Below.refl _ _).drew
  have hY := hX.trans (hD.mono hX.size)
  obtain ⟨d0, d1, d2, d3, d4, d5, d6, d7, d8, d9⟩ := kk _ hX
  have hS0 := kk _ hY
  go_wp2
  go_region_held3 (fun w' => w'.cell? ⟨w.heap.size, 0, none⟩ = some (.int .i64 bx) ∧ w'.cell? ⟨w.heap.size, 1, none⟩ = some (.int .i64 by_) ∧ w'.cell? ⟨w.heap.size, 2, none⟩ = some (.int .i64 bz) ∧ w'.cell? ⟨w.heap.size, 3, none⟩ = some (.int .i64 tn) ∧ w'.cell? ⟨w.heap.size, 4, none⟩ = some (.int .i64 ox) ∧ w'.cell? ⟨w.heap.size, 5, none⟩ = some (.int .i64 oy) ∧ w'.cell? ⟨w.heap.size, 6, none⟩ = some (.int .i64 oz) ∧ w'.cell? ⟨w.heap.size, 7, none⟩ = some (.int .i64 ax) ∧ w'.cell? ⟨w.heap.size, 8, none⟩ = some (.int .i64 at_) ∧ w'.cell? ⟨w.heap.size, 9, none⟩ = some (.int .i64 th)) (first | exact hS0 | exact hS1 | exact hS2 | exact hS3 | exact hS4 | exact hS5 | exact kk _ (hY.alloc hY.size _) | go_keep) (first
    | (go_at_call 15; refine (kV _).mono ?_; rintro e wv ⟨rfl, hB⟩; replace hD := hD.trans (hB.mono hD.size); replace hY := hY.trans (hB.mono hY.size); have hS1 := kk _ hY; clear hB)
    | (go_at_call 14; first
        | (with_reducible refine (kF1 _ _ (by go_simp) (by go_simp)).mono ?_; rintro e wf ⟨rfl, hwf⟩; replace hD : Below _ _ wf := (by rw [hwf]; exact hD.alloc hD.size _); replace hY : Below _ _ wf := (by rw [hwf]; exact hY.alloc hY.size _); have hS2 := kk _ hY; clear hwf)
        | (with_reducible refine (kF2 _ _ (by go_simp) (by go_simp) (by go_simp)).mono ?_; rintro e wg ⟨rfl, hwg⟩; replace hD : Below _ _ wg := (by rw [hwg]; exact hD.alloc hD.size _); replace hY : Below _ _ wg := (by rw [hwg]; exact hY.alloc hY.size _); have hS3 := kk _ hY; clear hwg kF2)
        | (with_reducible refine (kF3 _ _ (by go_simp) (by go_simp) (by go_simp)).mono ?_; rintro e wh ⟨rfl, hwh⟩; replace hD : Below _ _ wh := (by rw [hwh]; exact hD.alloc hD.size _); replace hY : Below _ _ wh := (by rw [hwh]; exact hY.alloc hY.size _); have hS4 := kk _ hY; clear hwh))
    | (go_at_call 16; first
        | (with_reducible refine (kR2 _).mono ?_; rintro e wr ⟨rfl, hwr⟩; subst hwr)
        | (with_reducible refine (kR4 _).mono ?_; rintro e wr ⟨rfl, hwr⟩; subst hwr)
        | (with_reducible refine (kR5 _).mono ?_; rintro e wr ⟨rfl, hwr⟩; subst hwr))
    | (go_at_call 17; refine (kO _).mono ?_; rintro e wc ⟨rfl, hB⟩; replace hD := hD.trans (hB.mono hD.size); replace hY := hY.trans (hB.mono hY.size); have hS5 := kk _ hY; clear hB))
  replace hX := hY
  clear hS0 hS1 hS2 hS3 hS4 hS5 hY d0 d1 d2 d3 d4 d5 d6 d7 d8 d9 kV kO kF1 kF3 kR4 kR5
  replace hR1 := hR1.below hD
  replace hR2 := hR2.below hD
  replace hR3 := hR3.below hD
  clear hD
  have q := cells_res hR1 (u := .slice none 0 0) (m := []) (.inl ⟨rfl, rfl⟩) (fun h => absurd h hS)
  go_wp2_with fail
  refine q.mono ?_
  rintro e w7 ⟨rfl, hB⟩
  replace hX := hX.trans (hB.mono hX.size)
  replace hR2 := hR2.below hB
  replace hR3 := hR3.below hB
  clear hB q hR1 hS
  have q := cells_res hR2 (u := .slice none 0 0) (m := []) (.inl ⟨rfl, rfl⟩) (fun h => absurd h hT)
  go_wp2_with fail
  refine q.mono ?_
  rintro e w8 ⟨rfl, hB⟩
  replace hX := hX.trans (hB.mono hX.size)
  replace hR3 := hR3.below hB
  clear hB q hR2 hT
  have q := cells_res hR3 (u := .slice none 0 0) (m := []) (.inl ⟨rfl, rfl⟩) (fun h => absurd h hM)
  go_wp2_with fail
  refine q.mono ?_
  rintro e w9 ⟨rfl, hB⟩
  replace hX := hX.trans (hB.mono hX.size)
  clear hB q hR3 hM
  have hY := hX.trans ((Below.refl _ w9).drew.mono hX.size)
  obtain ⟨d0, d1, d2, d3, d4, d5, d6, d7, d8, d9⟩ := kk _ hX
  have hS0 := kk _ hY
  go_wp2
  go_region_held3 (fun w' => w'.cell? ⟨w.heap.size, 0, none⟩ = some (.int .i64 bx) ∧ w'.cell? ⟨w.heap.size, 1, none⟩ = some (.int .i64 by_) ∧ w'.cell? ⟨w.heap.size, 2, none⟩ = some (.int .i64 bz) ∧ w'.cell? ⟨w.heap.size, 3, none⟩ = some (.int .i64 tn) ∧ w'.cell? ⟨w.heap.size, 4, none⟩ = some (.int .i64 ox) ∧ w'.cell? ⟨w.heap.size, 5, none⟩ = some (.int .i64 oy) ∧ w'.cell? ⟨w.heap.size, 6, none⟩ = some (.int .i64 oz) ∧ w'.cell? ⟨w.heap.size, 7, none⟩ = some (.int .i64 ax) ∧ w'.cell? ⟨w.heap.size, 8, none⟩ = some (.int .i64 at_) ∧ w'.cell? ⟨w.heap.size, 9, none⟩ = some (.int .i64 th)) (first | exact hS0 | exact kk _ (hY.alloc hY.size _) | go_keep) (first
    | (go_at_call 16; first
        | (with_reducible refine (kR2 _).mono ?_; rintro e wr ⟨rfl, hwr⟩; subst hwr)
        | (with_reducible refine (kR6 _).mono ?_; rintro e wr ⟨rfl, hwr⟩; subst hwr))
    | (go_at_call 14; refine (kF4 _ _ (by go_simp) (by go_simp)).mono ?_; rintro e wz ⟨rfl, hwz⟩; replace hY : Below _ _ wz := (by rw [hwz]; exact hY.alloc hY.size _); clear hwz))
  clear hS0 d0 d1 d2 d3 d4 d5 d6 d7 d8 d9 kR2 kR6 kF4
  go_wp2_with fail
  refine (kI _).mono ?_
  rintro e we ⟨rfl, hwe⟩
  subst hwe
  go_wp2
  go_ret
  exact ⟨rfl, hX0 _ hY⟩
theorem gmoves_0001 (l : List Cel) (A : Option Addr) (ka : Nat) (bx by_ bz tn ox oy oz ax at_ th : Int) (w : World) (kA : AwakeAt w) (ha : Sl w (.slice A l.length ka) l) (h1 : shortB l.length 60 = true) (c a1 a2 a3 a4 a5 a6 : Int) (hc : chkI l = c) (hv1 : vecI (bx, by_, bz) 2000 = a1) (hw2 : withinI tn 0 23 = a2) (hv3 : vecI (ox, oy, oz) 1000 = a3) (hw4 : withinI ax 0 2 = a4) (hw5 : withinI at_ (-1000) 1000 = a5) (hw6 : withinI th 0 23 = a6) (hS : fstI [c, a1] ≠ 0) (hT : fstI [c, a2, a3] ≠ 0) (hM : fstI [c, a4, a5] ≠ 0) (hF : a2 = 0 ∧ a6 = 0) :
    Calls Tryz.prog 3 #[.slice A l.length ka, .agg #[.int .i64 bx, .int .i64 by_, .int .i64 bz, .int .i64 tn, .int .i64 ox, .int .i64 oy, .int .i64 oz, .int .i64 ax, .int .i64 at_, .int .i64 th]] w fun e w' => e = .returned (.bool true) ∧ Below w.heap.size w w' := by
  have la := short_len h1 (by omega)
  obtain ⟨tn, rfl⟩ : ∃ k : Nat, tn = k := ⟨tn.toNat, by have := within_zero (hw2.trans (hF.1)); omega⟩
  have q_tn : tn ≤ 23 := by have := within_zero (hw2.trans (hF.1)); omega
  obtain ⟨th, rfl⟩ : ∃ k : Nat, th = k := ⟨th.toNat, by have := within_zero (hw6.trans (hF.2)); omega⟩
  have q_th : th ≤ 23 := by have := within_zero (hw6.trans (hF.2)); omega
  obtain ⟨W0, hW⟩ : ∃ W0, W0 = w.alloc (.cells #[.int .i64 bx, .int .i64 by_, .int .i64 bz, .int .i64 tn, .int .i64 ox, .int .i64 oy, .int .i64 oz, .int .i64 ax, .int .i64 at_, .int .i64 th] 26) := ⟨_, rfl⟩
  have hK0 : Below w.heap.size w W0 := by subst hW; exact (Below.refl _ _).alloc (Nat.le_refl _) _
  have d0 : W0.cell? ⟨w.heap.size, 0, none⟩ = some (.int .i64 bx) := by subst hW; go_simp
  have d1 : W0.cell? ⟨w.heap.size, 1, none⟩ = some (.int .i64 by_) := by subst hW; go_simp
  have d2 : W0.cell? ⟨w.heap.size, 2, none⟩ = some (.int .i64 bz) := by subst hW; go_simp
  have d3 : W0.cell? ⟨w.heap.size, 3, none⟩ = some (.int .i64 tn) := by subst hW; go_simp
  have d4 : W0.cell? ⟨w.heap.size, 4, none⟩ = some (.int .i64 ox) := by subst hW; go_simp
  have d5 : W0.cell? ⟨w.heap.size, 5, none⟩ = some (.int .i64 oy) := by subst hW; go_simp
  have d6 : W0.cell? ⟨w.heap.size, 6, none⟩ = some (.int .i64 oz) := by subst hW; go_simp
  have d7 : W0.cell? ⟨w.heap.size, 7, none⟩ = some (.int .i64 ax) := by subst hW; go_simp
  have d8 : W0.cell? ⟨w.heap.size, 8, none⟩ = some (.int .i64 at_) := by subst hW; go_simp
  have d9 : W0.cell? ⟨w.heap.size, 9, none⟩ = some (.int .i64 th) := by subst hW; go_simp
  have hlt : w.heap.size < W0.heap.size := by subst hW; simp
  have kk : ∀ W', Below W0.heap.size W0 W' → W'.cell? ⟨w.heap.size, 0, none⟩ = some (.int .i64 bx) ∧ W'.cell? ⟨w.heap.size, 1, none⟩ = some (.int .i64 by_) ∧ W'.cell? ⟨w.heap.size, 2, none⟩ = some (.int .i64 bz) ∧ W'.cell? ⟨w.heap.size, 3, none⟩ = some (.int .i64 tn) ∧ W'.cell? ⟨w.heap.size, 4, none⟩ = some (.int .i64 ox) ∧ W'.cell? ⟨w.heap.size, 5, none⟩ = some (.int .i64 oy) ∧ W'.cell? ⟨w.heap.size, 6, none⟩ = some (.int .i64 oz) ∧ W'.cell? ⟨w.heap.size, 7, none⟩ = some (.int .i64 ax) ∧ W'.cell? ⟨w.heap.size, 8, none⟩ = some (.int .i64 at_) ∧ W'.cell? ⟨w.heap.size, 9, none⟩ = some (.int .i64 th) := fun W' h => ⟨(h.cell (p := ⟨w.heap.size, 0, none⟩) hlt).trans d0, (h.cell (p := ⟨w.heap.size, 1, none⟩) hlt).trans d1, (h.cell (p := ⟨w.heap.size, 2, none⟩) hlt).trans d2, (h.cell (p := ⟨w.heap.size, 3, none⟩) hlt).trans d3, (h.cell (p := ⟨w.heap.size, 4, none⟩) hlt).trans d4, (h.cell (p := ⟨w.heap.size, 5, none⟩) hlt).trans d5, (h.cell (p := ⟨w.heap.size, 6, none⟩) hlt).trans d6, (h.cell (p := ⟨w.heap.size, 7, none⟩) hlt).trans d7, (h.cell (p := ⟨w.heap.size, 8, none⟩) hlt).trans d8, (h.cell (p := ⟨w.heap.size, 9, none⟩) hlt).trans d9⟩
  have hX0 := fun W (h : Below W0.heap.size W0 W) => hK0.trans (h.mono hK0.size)
  have k0 := kA W0 hK0
  have kS := fun W => short_true h1 A ka W
  have kC := fun W (h : Below W0.heap.size W0 W) => refCheckG l _ W (ha.below (hX0 W h)) (by unfold maxLen; omega)
  rw [hc] at kC
  have kV := fun W => refVec_ok bx by_ bz W
  rw [hv1] at kV
  have kO := fun W => refCheckCellG ox oy oz W
  rw [← vecI_bad, hv3] at kO
  have kR2 := fun W => checkRange_ok tn 0 23 W
  have kR4 := fun W => checkRange_ok ax 0 2 W
  have kR5 := fun W => checkRange_ok at_ (-1000) 1000 W
  have kR6 := fun W => checkRange_ok th 0 23 W
  rw [hw2] at kR2
  rw [hw4] at kR4
  rw [hw5] at kR5
  rw [hw6] at kR6
  have kF1 := fun blk W => firstL2 c a1 blk 2 W
  have kF2 := fun blk W => firstL3 c a2 a3 blk 3 W
  have kF3 := fun blk W => firstL3 c a4 a5 blk 3 W
  have kF4 := fun blk W => firstL2 a2 a6 blk 2 W
  have kSh := fun W (h : Below W0.heap.size W0 W) => (shiftG_bad l _ bx by_ bz W (ha.below (hX0 W h)) (by unfold maxLen; omega) c a1 hc hv1 (by rw [← fst_or]; exact hS)).mono fun e w' h => gets_bad (l := []) (by rw [← fst_or]; exact hS) h
  rw [← fst_or] at kSh
  generalize fstI [c, a1] = r1 at kF1 kSh hS
  have b1 : (r1 == 0) = false := by rw [beq_eq_false_iff_ne]; exact hS
  have kTu := fun W (h : Below W0.heap.size W0 W) => (turnX_bad l _ tn ox oy oz W (ha.below (hX0 W h)) (by unfold maxLen; omega) c a2 a3 hc hw2 hv3 (by rw [← fst_or3]; exact hT)).mono fun e w' h => gets_bad (l := []) (by rw [← fst_or3]; exact hT) h
  rw [← fst_or3] at kTu
  generalize fstI [c, a2, a3] = r2 at kF2 kTu hT
  have b2 : (r2 == 0) = false := by rw [beq_eq_false_iff_ne]; exact hT
  have kMi := fun W (h : Below W0.heap.size W0 W) => (mirrorX_bad l _ ax at_ W (ha.below (hX0 W h)) (by unfold maxLen; omega) c a4 a5 hc hw4 hw5 (by rw [← fst_or3]; exact hM)).mono fun e w' h => gets_bad (l := []) (by rw [← fst_or3]; exact hM) h
  rw [← fst_or3] at kMi
  generalize fstI [c, a4, a5] = r3 at kF3 kMi hM
  have b3 : (r3 == 0) = false := by rw [beq_eq_false_iff_ne]; exact hM
  have e4 : fstI [a2, a6] = 0 := by rw [hF.1, hF.2]; rfl
  rw [e4] at kF4
  have kTw := fun W => twice_ok tn th (by omega) (by omega) W
  have kTz := fun W => refTwice_ok tn th (by omega) (by omega) W
  generalize twN tn th = tw at kTw kTz
  have kI := fun W => integer_same (tw : Int) W
  clear e4
  clear kA ha h1 la hc hv1 hw2 hv3 hw4 hw5 hw6 q_tn q_th hF
  go_enter Tryz.func3, Tryz.ntmps3
  go_wp2_with fail
  rw [← hW]
  clear hW
  refine k0.mono ?_
  rintro e w1 ⟨rfl, hX⟩
  go_wp2_with fail
  refine (kS _).mono ?_
  rintro e w1a ⟨rfl, hw1a⟩
  subst hw1a
  have q := kC _ hX
  go_wp2_with fail
  refine q.mono ?_
  rintro e w2 ⟨rfl, hB⟩
  replace hX := hX.trans (hB.mono hX.size)
  clear hB q k0 kS kC d0 d1 d2 d3 d4 d5 d6 d7 d8 d9
  obtain ⟨d0, d1, d2, d3, d4, d5, d6, d7, d8, d9⟩ := kk _ hX
  have q := kSh _ hX
  go_wp2_with fail
  refine q.mono ?_
  rintro e w3 ⟨A1, n1, k1, E1, rfl, hR1, hB⟩
  replace hX := hX.trans (hB.mono hX.size)
  clear hB q d0 d1 d2 d3 d4 d5 d6 d7 d8 d9
  obtain ⟨d0, d1, d2, d3, d4, d5, d6, d7, d8, d9⟩ := kk _ hX
  have q := kTu _ hX
  go_wp2_with fail
  refine q.mono ?_
  rintro e w4 ⟨A2, n2, k2, E2, rfl, hR2, hB⟩
  replace hX := hX.trans (hB.mono hX.size)
  replace hR1 := hR1.below hB
  clear hB q d0 d1 d2 d3 d4 d5 d6 d7 d8 d9
  obtain ⟨d0, d1, d2, d3, d4, d5, d6, d7, d8, d9⟩ := kk _ hX
  have q := (fun W (_ : Below W0.heap.size W0 W) => kTw W) _ hX
  go_wp2_with fail
  refine q.mono ?_
  rintro e w5 ⟨rfl, hB⟩
  replace hX := hX.trans (hB.mono hX.size)
  replace hR1 := hR1.below hB
  replace hR2 := hR2.below hB
  clear hB q d0 d1 d2 d3 d4 d5 d6 d7 d8 d9
  obtain ⟨d0, d1, d2, d3, d4, d5, d6, d7, d8, d9⟩ := kk _ hX
  have q := kMi _ hX
  go_wp2_with fail
  refine q.mono ?_
  rintro e w6 ⟨A3, n3, k3, E3, rfl, hR3, hB⟩
  replace hX := hX.trans (hB.mono hX.size)
  replace hR1 := hR1.below hB
  replace hR2 := hR2.below hB
  clear hB q d0 d1 d2 d3 d4 d5 d6 d7 d8 d9
  have hD : Below w6.heap.size w6 w6.drew := (Below.refl _ _).drew
  have hY := hX.trans (hD.mono hX.size)
  obtain ⟨d0, d1, d2, d3, d4, d5, d6, d7, d8, d9⟩ := kk _ hX
  have hS0 := kk _ hY
  go_wp2
  go_region_held3 (fun w' => w'.cell? ⟨w.heap.size, 0, none⟩ = some (.int .i64 bx) ∧ w'.cell? ⟨w.heap.size, 1, none⟩ = some (.int .i64 by_) ∧ w'.cell? ⟨w.heap.size, 2, none⟩ = some (.int .i64 bz) ∧ w'.cell? ⟨w.heap.size, 3, none⟩ = some (.int .i64 tn) ∧ w'.cell? ⟨w.heap.size, 4, none⟩ = some (.int .i64 ox) ∧ w'.cell? ⟨w.heap.size, 5, none⟩ = some (.int .i64 oy) ∧ w'.cell? ⟨w.heap.size, 6, none⟩ = some (.int .i64 oz) ∧ w'.cell? ⟨w.heap.size, 7, none⟩ = some (.int .i64 ax) ∧ w'.cell? ⟨w.heap.size, 8, none⟩ = some (.int .i64 at_) ∧ w'.cell? ⟨w.heap.size, 9, none⟩ = some (.int .i64 th)) (first | exact hS0 | exact hS1 | exact hS2 | exact hS3 | exact hS4 | exact hS5 | exact kk _ (hY.alloc hY.size _) | go_keep) (first
    | (go_at_call 15; refine (kV _).mono ?_; rintro e wv ⟨rfl, hB⟩; replace hD := hD.trans (hB.mono hD.size); replace hY := hY.trans (hB.mono hY.size); have hS1 := kk _ hY; clear hB)
    | (go_at_call 14; first
        | (with_reducible refine (kF1 _ _ (by go_simp) (by go_simp)).mono ?_; rintro e wf ⟨rfl, hwf⟩; replace hD : Below _ _ wf := (by rw [hwf]; exact hD.alloc hD.size _); replace hY : Below _ _ wf := (by rw [hwf]; exact hY.alloc hY.size _); have hS2 := kk _ hY; clear hwf)
        | (with_reducible refine (kF2 _ _ (by go_simp) (by go_simp) (by go_simp)).mono ?_; rintro e wg ⟨rfl, hwg⟩; replace hD : Below _ _ wg := (by rw [hwg]; exact hD.alloc hD.size _); replace hY : Below _ _ wg := (by rw [hwg]; exact hY.alloc hY.size _); have hS3 := kk _ hY; clear hwg kF2)
        | (with_reducible refine (kF3 _ _ (by go_simp) (by go_simp) (by go_simp)).mono ?_; rintro e wh ⟨rfl, hwh⟩; replace hD : Below _ _ wh := (by rw [hwh]; exact hD.alloc hD.size _); replace hY : Below _ _ wh := (by rw [hwh]; exact hY.alloc hY.size _); have hS4 := kk _ hY; clear hwh))
    | (go_at_call 16; first
        | (with_reducible refine (kR2 _).mono ?_; rintro e wr ⟨rfl, hwr⟩; subst hwr)
        | (with_reducible refine (kR4 _).mono ?_; rintro e wr ⟨rfl, hwr⟩; subst hwr)
        | (with_reducible refine (kR5 _).mono ?_; rintro e wr ⟨rfl, hwr⟩; subst hwr))
    | (go_at_call 17; refine (kO _).mono ?_; rintro e wc ⟨rfl, hB⟩; replace hD := hD.trans (hB.mono hD.size); replace hY := hY.trans (hB.mono hY.size); have hS5 := kk _ hY; clear hB))
  replace hX := hY
  clear hS0 hS1 hS2 hS3 hS4 hS5 hY d0 d1 d2 d3 d4 d5 d6 d7 d8 d9 kV kO kF1 kF3 kR4 kR5
  replace hR1 := hR1.below hD
  replace hR2 := hR2.below hD
  replace hR3 := hR3.below hD
  clear hD
  have q := cells_res hR1 (u := .slice none 0 0) (m := []) (.inl ⟨rfl, rfl⟩) (fun h => absurd h hS)
  go_wp2_with fail
  refine q.mono ?_
  rintro e w7 ⟨rfl, hB⟩
  replace hX := hX.trans (hB.mono hX.size)
  replace hR2 := hR2.below hB
  replace hR3 := hR3.below hB
  clear hB q hR1 hS
  have q := cells_res hR2 (u := .slice none 0 0) (m := []) (.inl ⟨rfl, rfl⟩) (fun h => absurd h hT)
  go_wp2_with fail
  refine q.mono ?_
  rintro e w8 ⟨rfl, hB⟩
  replace hX := hX.trans (hB.mono hX.size)
  replace hR3 := hR3.below hB
  clear hB q hR2 hT
  have q := cells_res hR3 (u := .slice none 0 0) (m := []) (.inl ⟨rfl, rfl⟩) (fun h => absurd h hM)
  go_wp2_with fail
  refine q.mono ?_
  rintro e w9 ⟨rfl, hB⟩
  replace hX := hX.trans (hB.mono hX.size)
  clear hB q hR3 hM
  have hY := hX.trans ((Below.refl _ w9).drew.mono hX.size)
  obtain ⟨d0, d1, d2, d3, d4, d5, d6, d7, d8, d9⟩ := kk _ hX
  have hS0 := kk _ hY
  go_wp2
  go_region_held3 (fun w' => w'.cell? ⟨w.heap.size, 0, none⟩ = some (.int .i64 bx) ∧ w'.cell? ⟨w.heap.size, 1, none⟩ = some (.int .i64 by_) ∧ w'.cell? ⟨w.heap.size, 2, none⟩ = some (.int .i64 bz) ∧ w'.cell? ⟨w.heap.size, 3, none⟩ = some (.int .i64 tn) ∧ w'.cell? ⟨w.heap.size, 4, none⟩ = some (.int .i64 ox) ∧ w'.cell? ⟨w.heap.size, 5, none⟩ = some (.int .i64 oy) ∧ w'.cell? ⟨w.heap.size, 6, none⟩ = some (.int .i64 oz) ∧ w'.cell? ⟨w.heap.size, 7, none⟩ = some (.int .i64 ax) ∧ w'.cell? ⟨w.heap.size, 8, none⟩ = some (.int .i64 at_) ∧ w'.cell? ⟨w.heap.size, 9, none⟩ = some (.int .i64 th)) (first | exact hS0 | exact kk _ (hY.alloc hY.size _) | go_keep) (first
    | (go_at_call 16; first
        | (with_reducible refine (kR2 _).mono ?_; rintro e wr ⟨rfl, hwr⟩; subst hwr)
        | (with_reducible refine (kR6 _).mono ?_; rintro e wr ⟨rfl, hwr⟩; subst hwr))
    | (go_at_call 14; refine (kF4 _ _ (by go_simp) (by go_simp)).mono ?_; rintro e wz ⟨rfl, hwz⟩; replace hY : Below _ _ wz := (by rw [hwz]; exact hY.alloc hY.size _); clear hwz))
  clear hS0 d0 d1 d2 d3 d4 d5 d6 d7 d8 d9 kR2 kR6 kF4
  obtain ⟨d0, d1, d2, d3, d4, d5, d6, d7, d8, d9⟩ := kk _ hY
  go_wp2_with fail
  refine (kTz _).mono ?_
  rintro e wy ⟨rfl, hB⟩
  replace hY := hY.trans (hB.mono hY.size)
  clear hB d0 d1 d2 d3 d4 d5 d6 d7 d8 d9
  go_wp2_with fail
  refine (kI _).mono ?_
  rintro e we ⟨rfl, hwe⟩
  subst hwe
  go_wp2
  go_ret
  exact ⟨rfl, hX0 _ hY⟩
theorem gmoves_0010 (l : List Cel) (A : Option Addr) (ka : Nat) (bx by_ bz tn ox oy oz ax at_ th : Int) (w : World) (kA : AwakeAt w) (ha : Sl w (.slice A l.length ka) l) (h1 : shortB l.length 60 = true) (c a1 a2 a3 a4 a5 a6 : Int) (hc : chkI l = c) (hv1 : vecI (bx, by_, bz) 2000 = a1) (hw2 : withinI tn 0 23 = a2) (hv3 : vecI (ox, oy, oz) 1000 = a3) (hw4 : withinI ax 0 2 = a4) (hw5 : withinI at_ (-1000) 1000 = a5) (hw6 : withinI th 0 23 = a6) (hS : fstI [c, a1] ≠ 0) (hT : fstI [c, a2, a3] ≠ 0) (hM : c = 0 ∧ a4 = 0 ∧ a5 = 0) (hF : fstI [a2, a6] ≠ 0) :
    Calls Tryz.prog 3 #[.slice A l.length ka, .agg #[.int .i64 bx, .int .i64 by_, .int .i64 bz, .int .i64 tn, .int .i64 ox, .int .i64 oy, .int .i64 oz, .int .i64 ax, .int .i64 at_, .int .i64 th]] w fun e w' => e = .returned (.bool true) ∧ Below w.heap.size w w' := by
  have la := short_len h1 (by omega)
  obtain ⟨ax, rfl⟩ : ∃ k : Nat, ax = k := ⟨ax.toNat, by have := within_zero (hw4.trans (hM.2.1)); omega⟩
  have q_ax : ax ≤ 2 := by have := within_zero (hw4.trans (hM.2.1)); omega
  obtain ⟨W0, hW⟩ : ∃ W0, W0 = w.alloc (.cells #[.int .i64 bx, .int .i64 by_, .int .i64 bz, .int .i64 tn, .int .i64 ox, .int .i64 oy, .int .i64 oz, .int .i64 ax, .int .i64 at_, .int .i64 th] 26) := ⟨_, rfl⟩
  have hK0 : Below w.heap.size w W0 := by subst hW; exact (Below.refl _ _).alloc (Nat.le_refl _) _
  have d0 : W0.cell? ⟨w.heap.size, 0, none⟩ = some (.int .i64 bx) := by subst hW; go_simp
  have d1 : W0.cell? ⟨w.heap.size, 1, none⟩ = some (.int .i64 by_) := by subst hW; go_simp
  have d2 : W0.cell? ⟨w.heap.size, 2, none⟩ = some (.int .i64 bz) := by subst hW; go_simp
  have d3 : W0.cell? ⟨w.heap.size, 3, none⟩ = some (.int .i64 tn) := by subst hW; go_simp
  have d4 : W0.cell? ⟨w.heap.size, 4, none⟩ = some (.int .i64 ox) := by subst hW; go_simp
  have d5 : W0.cell? ⟨w.heap.size, 5, none⟩ = some (.int .i64 oy) := by subst hW; go_simp
  have d6 : W0.cell? ⟨w.heap.size, 6, none⟩ = some (.int .i64 oz) := by subst hW; go_simp
  have d7 : W0.cell? ⟨w.heap.size, 7, none⟩ = some (.int .i64 ax) := by subst hW; go_simp
  have d8 : W0.cell? ⟨w.heap.size, 8, none⟩ = some (.int .i64 at_) := by subst hW; go_simp
  have d9 : W0.cell? ⟨w.heap.size, 9, none⟩ = some (.int .i64 th) := by subst hW; go_simp
  have hlt : w.heap.size < W0.heap.size := by subst hW; simp
  have kk : ∀ W', Below W0.heap.size W0 W' → W'.cell? ⟨w.heap.size, 0, none⟩ = some (.int .i64 bx) ∧ W'.cell? ⟨w.heap.size, 1, none⟩ = some (.int .i64 by_) ∧ W'.cell? ⟨w.heap.size, 2, none⟩ = some (.int .i64 bz) ∧ W'.cell? ⟨w.heap.size, 3, none⟩ = some (.int .i64 tn) ∧ W'.cell? ⟨w.heap.size, 4, none⟩ = some (.int .i64 ox) ∧ W'.cell? ⟨w.heap.size, 5, none⟩ = some (.int .i64 oy) ∧ W'.cell? ⟨w.heap.size, 6, none⟩ = some (.int .i64 oz) ∧ W'.cell? ⟨w.heap.size, 7, none⟩ = some (.int .i64 ax) ∧ W'.cell? ⟨w.heap.size, 8, none⟩ = some (.int .i64 at_) ∧ W'.cell? ⟨w.heap.size, 9, none⟩ = some (.int .i64 th) := fun W' h => ⟨(h.cell (p := ⟨w.heap.size, 0, none⟩) hlt).trans d0, (h.cell (p := ⟨w.heap.size, 1, none⟩) hlt).trans d1, (h.cell (p := ⟨w.heap.size, 2, none⟩) hlt).trans d2, (h.cell (p := ⟨w.heap.size, 3, none⟩) hlt).trans d3, (h.cell (p := ⟨w.heap.size, 4, none⟩) hlt).trans d4, (h.cell (p := ⟨w.heap.size, 5, none⟩) hlt).trans d5, (h.cell (p := ⟨w.heap.size, 6, none⟩) hlt).trans d6, (h.cell (p := ⟨w.heap.size, 7, none⟩) hlt).trans d7, (h.cell (p := ⟨w.heap.size, 8, none⟩) hlt).trans d8, (h.cell (p := ⟨w.heap.size, 9, none⟩) hlt).trans d9⟩
  have hX0 := fun W (h : Below W0.heap.size W0 W) => hK0.trans (h.mono hK0.size)
  have k0 := kA W0 hK0
  have kS := fun W => short_true h1 A ka W
  have kC := fun W (h : Below W0.heap.size W0 W) => refCheckG l _ W (ha.below (hX0 W h)) (by unfold maxLen; omega)
  rw [hc] at kC
  have kV := fun W => refVec_ok bx by_ bz W
  rw [hv1] at kV
  have kO := fun W => refCheckCellG ox oy oz W
  rw [← vecI_bad, hv3] at kO
  have kR2 := fun W => checkRange_ok tn 0 23 W
  have kR4 := fun W => checkRange_ok ax 0 2 W
  have kR5 := fun W => checkRange_ok at_ (-1000) 1000 W
  have kR6 := fun W => checkRange_ok th 0 23 W
  rw [hw2] at kR2
  rw [hw4] at kR4
  rw [hw5] at kR5
  rw [hw6] at kR6
  have kF1 := fun blk W => firstL2 c a1 blk 2 W
  have kF2 := fun blk W => firstL3 c a2 a3 blk 3 W
  have kF3 := fun blk W => firstL3 c a4 a5 blk 3 W
  have kF4 := fun blk W => firstL2 a2 a6 blk 2 W
  have kSh := fun W (h : Below W0.heap.size W0 W) => (shiftG_bad l _ bx by_ bz W (ha.below (hX0 W h)) (by unfold maxLen; omega) c a1 hc hv1 (by rw [← fst_or]; exact hS)).mono fun e w' h => gets_bad (l := []) (by rw [← fst_or]; exact hS) h
  rw [← fst_or] at kSh
  generalize fstI [c, a1] = r1 at kF1 kSh hS
  have b1 : (r1 == 0) = false := by rw [beq_eq_false_iff_ne]; exact hS
  have kTu := fun W (h : Below W0.heap.size W0 W) => (turnX_bad l _ tn ox oy oz W (ha.below (hX0 W h)) (by unfold maxLen; omega) c a2 a3 hc hw2 hv3 (by rw [← fst_or3]; exact hT)).mono fun e w' h => gets_bad (l := []) (by rw [← fst_or3]; exact hT) h
  rw [← fst_or3] at kTu
  generalize fstI [c, a2, a3] = r2 at kF2 kTu hT
  have b2 : (r2 == 0) = false := by rw [beq_eq_false_iff_ne]; exact hT
  have e3 : fstI [c, a4, a5] = 0 := by rw [hM.1, hM.2.1, hM.2.2]; rfl
  rw [e3] at kF3
  have kMi := fun W (h : Below W0.heap.size W0 W) => mirror_res (j := ax) (t := at_) (by omega) (ha.below (hX0 W h)) (hc.trans hM.1) (hw5.trans hM.2.2) rfl
  have kMr := fun W (h : Below W0.heap.size W0 W) => mirror_ref (j := ax) (t := at_) (by omega) (ha.below (hX0 W h)) (hc.trans hM.1) (hw5.trans hM.2.2) rfl
  generalize outI (l.map (mirT ax at_)) = o3 at kMi kMr
  generalize sortC (l.map (mirT ax at_)) = L3 at kMi kMr
  clear e3
  have kTw := fun W => twice_bad tn th W a2 a6 hw2 hw6 (by rw [← fst_or]; exact hF)
  rw [← fst_or] at kTw
  generalize fstI [a2, a6] = r4 at kF4 kTw hF
  have b4 : (r4 != 0) = true := by rw [bne_iff_ne]; exact hF
  have kI := fun W => integer_bad r4 hF W
  clear kA ha h1 la hc hv1 hw2 hv3 hw4 hw5 hw6 q_ax hM hF
  go_enter Tryz.func3, Tryz.ntmps3
  go_wp2_with fail
  rw [← hW]
  clear hW
  refine k0.mono ?_
  rintro e w1 ⟨rfl, hX⟩
  go_wp2_with fail
  refine (kS _).mono ?_
  rintro e w1a ⟨rfl, hw1a⟩
  subst hw1a
  have q := kC _ hX
  go_wp2_with fail
  refine q.mono ?_
  rintro e w2 ⟨rfl, hB⟩
  replace hX := hX.trans (hB.mono hX.size)
  clear hB q k0 kS kC d0 d1 d2 d3 d4 d5 d6 d7 d8 d9
  obtain ⟨d0, d1, d2, d3, d4, d5, d6, d7, d8, d9⟩ := kk _ hX
  have q := kSh _ hX
  go_wp2_with fail
  refine q.mono ?_
  rintro e w3 ⟨A1, n1, k1, E1, rfl, hR1, hB⟩
  replace hX := hX.trans (hB.mono hX.size)
  clear hB q d0 d1 d2 d3 d4 d5 d6 d7 d8 d9
  obtain ⟨d0, d1, d2, d3, d4, d5, d6, d7, d8, d9⟩ := kk _ hX
  have q := kTu _ hX
  go_wp2_with fail
  refine q.mono ?_
  rintro e w4 ⟨A2, n2, k2, E2, rfl, hR2, hB⟩
  replace hX := hX.trans (hB.mono hX.size)
  replace hR1 := hR1.below hB
  clear hB q d0 d1 d2 d3 d4 d5 d6 d7 d8 d9
  obtain ⟨d0, d1, d2, d3, d4, d5, d6, d7, d8, d9⟩ := kk _ hX
  have q := (fun W (_ : Below W0.heap.size W0 W) => kTw W) _ hX
  go_wp2_with fail
  refine q.mono ?_
  rintro e w5 ⟨rfl, hB⟩
  replace hX := hX.trans (hB.mono hX.size)
  replace hR1 := hR1.below hB
  replace hR2 := hR2.below hB
  clear hB q d0 d1 d2 d3 d4 d5 d6 d7 d8 d9
  obtain ⟨d0, d1, d2, d3, d4, d5, d6, d7, d8, d9⟩ := kk _ hX
  have q := kMi _ hX
  go_wp2_with fail
  refine q.mono ?_
  rintro e w6 ⟨A3, n3, k3, E3, rfl, hR3, hB⟩
  replace hX := hX.trans (hB.mono hX.size)
  replace hR1 := hR1.below hB
  replace hR2 := hR2.below hB
  clear hB q d0 d1 d2 d3 d4 d5 d6 d7 d8 d9
  have hD : Below w6.heap.size w6 w6.drew := (Below.refl _ _).drew
  have hY := hX.trans (hD.mono hX.size)
  obtain ⟨d0, d1, d2, d3, d4, d5, d6, d7, d8, d9⟩ := kk _ hX
  have hS0 := kk _ hY
  go_wp2
  go_region_held3 (fun w' => w'.cell? ⟨w.heap.size, 0, none⟩ = some (.int .i64 bx) ∧ w'.cell? ⟨w.heap.size, 1, none⟩ = some (.int .i64 by_) ∧ w'.cell? ⟨w.heap.size, 2, none⟩ = some (.int .i64 bz) ∧ w'.cell? ⟨w.heap.size, 3, none⟩ = some (.int .i64 tn) ∧ w'.cell? ⟨w.heap.size, 4, none⟩ = some (.int .i64 ox) ∧ w'.cell? ⟨w.heap.size, 5, none⟩ = some (.int .i64 oy) ∧ w'.cell? ⟨w.heap.size, 6, none⟩ = some (.int .i64 oz) ∧ w'.cell? ⟨w.heap.size, 7, none⟩ = some (.int .i64 ax) ∧ w'.cell? ⟨w.heap.size, 8, none⟩ = some (.int .i64 at_) ∧ w'.cell? ⟨w.heap.size, 9, none⟩ = some (.int .i64 th)) (first | exact hS0 | exact hS1 | exact hS2 | exact hS3 | exact hS4 | exact hS5 | exact kk _ (hY.alloc hY.size _) | go_keep) (first
    | (go_at_call 15; refine (kV _).mono ?_; rintro e wv ⟨rfl, hB⟩; replace hD := hD.trans (hB.mono hD.size); replace hY := hY.trans (hB.mono hY.size); have hS1 := kk _ hY; clear hB)
    | (go_at_call 14; first
        | (with_reducible refine (kF1 _ _ (by go_simp) (by go_simp)).mono ?_; rintro e wf ⟨rfl, hwf⟩; replace hD : Below _ _ wf := (by rw [hwf]; exact hD.alloc hD.size _); replace hY : Below _ _ wf := (by rw [hwf]; exact hY.alloc hY.size _); have hS2 := kk _ hY; clear hwf)
        | (with_reducible refine (kF2 _ _ (by go_simp) (by go_simp) (by go_simp)).mono ?_; rintro e wg ⟨rfl, hwg⟩; replace hD : Below _ _ wg := (by rw [hwg]; exact hD.alloc hD.size _); replace hY : Below _ _ wg := (by rw [hwg]; exact hY.alloc hY.size _); have hS3 := kk _ hY; clear hwg kF2)
        | (with_reducible refine (kF3 _ _ (by go_simp) (by go_simp) (by go_simp)).mono ?_; rintro e wh ⟨rfl, hwh⟩; replace hD : Below _ _ wh := (by rw [hwh]; exact hD.alloc hD.size _); replace hY : Below _ _ wh := (by rw [hwh]; exact hY.alloc hY.size _); have hS4 := kk _ hY; clear hwh))
    | (go_at_call 16; first
        | (with_reducible refine (kR2 _).mono ?_; rintro e wr ⟨rfl, hwr⟩; subst hwr)
        | (with_reducible refine (kR4 _).mono ?_; rintro e wr ⟨rfl, hwr⟩; subst hwr)
        | (with_reducible refine (kR5 _).mono ?_; rintro e wr ⟨rfl, hwr⟩; subst hwr))
    | (go_at_call 17; refine (kO _).mono ?_; rintro e wc ⟨rfl, hB⟩; replace hD := hD.trans (hB.mono hD.size); replace hY := hY.trans (hB.mono hY.size); have hS5 := kk _ hY; clear hB))
  replace hX := hY
  clear hS0 hS1 hS2 hS3 hS4 hS5 hY d0 d1 d2 d3 d4 d5 d6 d7 d8 d9 kV kO kF1 kF3 kR4 kR5
  replace hR1 := hR1.below hD
  replace hR2 := hR2.below hD
  replace hR3 := hR3.below hD
  clear hD
  obtain ⟨d0, d1, d2, d3, d4, d5, d6, d7, d8, d9⟩ := kk _ hX
  have q := kMr _ hX
  go_wp2_with fail
  refine q.mono ?_
  rintro e w7 ⟨u3, m3, rfl, hu3, hm3, ho3, hz3, hB⟩
  replace hX := hX.trans (hB.mono hX.size)
  replace hR1 := hR1.below hB
  replace hR2 := hR2.below hB
  replace hR3 := hR3.below hB
  clear hB q d0 d1 d2 d3 d4 d5 d6 d7 d8 d9
  have q := outCells_ok m3 u3 _ hu3 (by unfold maxLen; omega)
  rw [ho3] at q
  clear ho3 hm3
  go_wp2_with fail
  refine q.mono ?_
  rintro e w8 ⟨rfl, hB⟩
  replace hX := hX.trans (hB.mono hX.size)
  replace hR1 := hR1.below hB
  replace hR2 := hR2.below hB
  replace hR3 := hR3.below hB
  replace hu3 := hu3.below hB
  clear hB q
  have q := cells_res hR1 (u := .slice none 0 0) (m := []) (.inl ⟨rfl, rfl⟩) (fun h => absurd h hS)
  go_wp2_with fail
  refine q.mono ?_
  rintro e w9 ⟨rfl, hB⟩
  replace hX := hX.trans (hB.mono hX.size)
  replace hR2 := hR2.below hB
  replace hR3 := hR3.below hB
  replace hu3 := hu3.below hB
  clear hB q hR1 hS
  have q := cells_res hR2 (u := .slice none 0 0) (m := []) (.inl ⟨rfl, rfl⟩) (fun h => absurd h hT)
  go_wp2_with fail
  refine q.mono ?_
  rintro e w10 ⟨rfl, hB⟩
  replace hX := hX.trans (hB.mono hX.size)
  replace hR3 := hR3.below hB
  replace hu3 := hu3.below hB
  clear hB q hR2 hT
  have q := cells_res hR3 hu3 hz3
  go_wp2_with fail
  refine q.mono ?_
  rintro e w11 ⟨rfl, hB⟩
  replace hX := hX.trans (hB.mono hX.size)
  clear hB q hR3 hu3 hz3
  have hY := hX.trans ((Below.refl _ w11).drew.mono hX.size)
  obtain ⟨d0, d1, d2, d3, d4, d5, d6, d7, d8, d9⟩ := kk _ hX
  have hS0 := kk _ hY
  go_wp2
  go_region_held3 (fun w' => w'.cell? ⟨w.heap.size, 0, none⟩ = some (.int .i64 bx) ∧ w'.cell? ⟨w.heap.size, 1, none⟩ = some (.int .i64 by_) ∧ w'.cell? ⟨w.heap.size, 2, none⟩ = some (.int .i64 bz) ∧ w'.cell? ⟨w.heap.size, 3, none⟩ = some (.int .i64 tn) ∧ w'.cell? ⟨w.heap.size, 4, none⟩ = some (.int .i64 ox) ∧ w'.cell? ⟨w.heap.size, 5, none⟩ = some (.int .i64 oy) ∧ w'.cell? ⟨w.heap.size, 6, none⟩ = some (.int .i64 oz) ∧ w'.cell? ⟨w.heap.size, 7, none⟩ = some (.int .i64 ax) ∧ w'.cell? ⟨w.heap.size, 8, none⟩ = some (.int .i64 at_) ∧ w'.cell? ⟨w.heap.size, 9, none⟩ = some (.int .i64 th)) (first | exact hS0 | exact kk _ (hY.alloc hY.size _) | go_keep) (first
    | (go_at_call 16; first
        | (with_reducible refine (kR2 _).mono ?_; rintro e wr ⟨rfl, hwr⟩; subst hwr)
        | (with_reducible refine (kR6 _).mono ?_; rintro e wr ⟨rfl, hwr⟩; subst hwr))
    | (go_at_call 14; refine (kF4 _ _ (by go_simp) (by go_simp)).mono ?_; rintro e wz ⟨rfl, hwz⟩; replace hY : Below _ _ wz := (by rw [hwz]; exact hY.alloc hY.size _); clear hwz))
  clear hS0 d0 d1 d2 d3 d4 d5 d6 d7 d8 d9 kR2 kR6 kF4
  go_wp2_with fail
  refine (kI _).mono ?_
  rintro e we ⟨rfl, hwe⟩
  subst hwe
  go_wp2
  go_ret
  exact ⟨rfl, hX0 _ hY⟩
theorem gmoves_0011 (l : List Cel) (A : Option Addr) (ka : Nat) (bx by_ bz tn ox oy oz ax at_ th : Int) (w : World) (kA : AwakeAt w) (ha : Sl w (.slice A l.length ka) l) (h1 : shortB l.length 60 = true) (c a1 a2 a3 a4 a5 a6 : Int) (hc : chkI l = c) (hv1 : vecI (bx, by_, bz) 2000 = a1) (hw2 : withinI tn 0 23 = a2) (hv3 : vecI (ox, oy, oz) 1000 = a3) (hw4 : withinI ax 0 2 = a4) (hw5 : withinI at_ (-1000) 1000 = a5) (hw6 : withinI th 0 23 = a6) (hS : fstI [c, a1] ≠ 0) (hT : fstI [c, a2, a3] ≠ 0) (hM : c = 0 ∧ a4 = 0 ∧ a5 = 0) (hF : a2 = 0 ∧ a6 = 0) :
    Calls Tryz.prog 3 #[.slice A l.length ka, .agg #[.int .i64 bx, .int .i64 by_, .int .i64 bz, .int .i64 tn, .int .i64 ox, .int .i64 oy, .int .i64 oz, .int .i64 ax, .int .i64 at_, .int .i64 th]] w fun e w' => e = .returned (.bool true) ∧ Below w.heap.size w w' := by
  have la := short_len h1 (by omega)
  obtain ⟨tn, rfl⟩ : ∃ k : Nat, tn = k := ⟨tn.toNat, by have := within_zero (hw2.trans (hF.1)); omega⟩
  have q_tn : tn ≤ 23 := by have := within_zero (hw2.trans (hF.1)); omega
  obtain ⟨th, rfl⟩ : ∃ k : Nat, th = k := ⟨th.toNat, by have := within_zero (hw6.trans (hF.2)); omega⟩
  have q_th : th ≤ 23 := by have := within_zero (hw6.trans (hF.2)); omega
  obtain ⟨ax, rfl⟩ : ∃ k : Nat, ax = k := ⟨ax.toNat, by have := within_zero (hw4.trans (hM.2.1)); omega⟩
  have q_ax : ax ≤ 2 := by have := within_zero (hw4.trans (hM.2.1)); omega
  obtain ⟨W0, hW⟩ : ∃ W0, W0 = w.alloc (.cells #[.int .i64 bx, .int .i64 by_, .int .i64 bz, .int .i64 tn, .int .i64 ox, .int .i64 oy, .int .i64 oz, .int .i64 ax, .int .i64 at_, .int .i64 th] 26) := ⟨_, rfl⟩
  have hK0 : Below w.heap.size w W0 := by subst hW; exact (Below.refl _ _).alloc (Nat.le_refl _) _
  have d0 : W0.cell? ⟨w.heap.size, 0, none⟩ = some (.int .i64 bx) := by subst hW; go_simp
  have d1 : W0.cell? ⟨w.heap.size, 1, none⟩ = some (.int .i64 by_) := by subst hW; go_simp
  have d2 : W0.cell? ⟨w.heap.size, 2, none⟩ = some (.int .i64 bz) := by subst hW; go_simp
  have d3 : W0.cell? ⟨w.heap.size, 3, none⟩ = some (.int .i64 tn) := by subst hW; go_simp
  have d4 : W0.cell? ⟨w.heap.size, 4, none⟩ = some (.int .i64 ox) := by subst hW; go_simp
  have d5 : W0.cell? ⟨w.heap.size, 5, none⟩ = some (.int .i64 oy) := by subst hW; go_simp
  have d6 : W0.cell? ⟨w.heap.size, 6, none⟩ = some (.int .i64 oz) := by subst hW; go_simp
  have d7 : W0.cell? ⟨w.heap.size, 7, none⟩ = some (.int .i64 ax) := by subst hW; go_simp
  have d8 : W0.cell? ⟨w.heap.size, 8, none⟩ = some (.int .i64 at_) := by subst hW; go_simp
  have d9 : W0.cell? ⟨w.heap.size, 9, none⟩ = some (.int .i64 th) := by subst hW; go_simp
  have hlt : w.heap.size < W0.heap.size := by subst hW; simp
  have kk : ∀ W', Below W0.heap.size W0 W' → W'.cell? ⟨w.heap.size, 0, none⟩ = some (.int .i64 bx) ∧ W'.cell? ⟨w.heap.size, 1, none⟩ = some (.int .i64 by_) ∧ W'.cell? ⟨w.heap.size, 2, none⟩ = some (.int .i64 bz) ∧ W'.cell? ⟨w.heap.size, 3, none⟩ = some (.int .i64 tn) ∧ W'.cell? ⟨w.heap.size, 4, none⟩ = some (.int .i64 ox) ∧ W'.cell? ⟨w.heap.size, 5, none⟩ = some (.int .i64 oy) ∧ W'.cell? ⟨w.heap.size, 6, none⟩ = some (.int .i64 oz) ∧ W'.cell? ⟨w.heap.size, 7, none⟩ = some (.int .i64 ax) ∧ W'.cell? ⟨w.heap.size, 8, none⟩ = some (.int .i64 at_) ∧ W'.cell? ⟨w.heap.size, 9, none⟩ = some (.int .i64 th) := fun W' h => ⟨(h.cell (p := ⟨w.heap.size, 0, none⟩) hlt).trans d0, (h.cell (p := ⟨w.heap.size, 1, none⟩) hlt).trans d1, (h.cell (p := ⟨w.heap.size, 2, none⟩) hlt).trans d2, (h.cell (p := ⟨w.heap.size, 3, none⟩) hlt).trans d3, (h.cell (p := ⟨w.heap.size, 4, none⟩) hlt).trans d4, (h.cell (p := ⟨w.heap.size, 5, none⟩) hlt).trans d5, (h.cell (p := ⟨w.heap.size, 6, none⟩) hlt).trans d6, (h.cell (p := ⟨w.heap.size, 7, none⟩) hlt).trans d7, (h.cell (p := ⟨w.heap.size, 8, none⟩) hlt).trans d8, (h.cell (p := ⟨w.heap.size, 9, none⟩) hlt).trans d9⟩
  have hX0 := fun W (h : Below W0.heap.size W0 W) => hK0.trans (h.mono hK0.size)
  have k0 := kA W0 hK0
  have kS := fun W => short_true h1 A ka W
  have kC := fun W (h : Below W0.heap.size W0 W) => refCheckG l _ W (ha.below (hX0 W h)) (by unfold maxLen; omega)
  rw [hc] at kC
  have kV := fun W => refVec_ok bx by_ bz W
  rw [hv1] at kV
  have kO := fun W => refCheckCellG ox oy oz W
  rw [← vecI_bad, hv3] at kO
  have kR2 := fun W => checkRange_ok tn 0 23 W
  have kR4 := fun W => checkRange_ok ax 0 2 W
  have kR5 := fun W => checkRange_ok at_ (-1000) 1000 W
  have kR6 := fun W => checkRange_ok th 0 23 W
  rw [hw2] at kR2
  rw [hw4] at kR4
  rw [hw5] at kR5
  rw [hw6] at kR6
  have kF1 := fun blk W => firstL2 c a1 blk 2 W
  have kF2 := fun blk W => firstL3 c a2 a3 blk 3 W
  have kF3 := fun blk W => firstL3 c a4 a5 blk 3 W
  have kF4 := fun blk W => firstL2 a2 a6 blk 2 W
  have kSh := fun W (h : Below W0.heap.size W0 W) => (shiftG_bad l _ bx by_ bz W (ha.below (hX0 W h)) (by unfold maxLen; omega) c a1 hc hv1 (by rw [← fst_or]; exact hS)).mono fun e w' h => gets_bad (l := []) (by rw [← fst_or]; exact hS) h
  rw [← fst_or] at kSh
  generalize fstI [c, a1] = r1 at kF1 kSh hS
  have b1 : (r1 == 0) = false := by rw [beq_eq_false_iff_ne]; exact hS
  have kTu := fun W (h : Below W0.heap.size W0 W) => (turnX_bad l _ tn ox oy oz W (ha.below (hX0 W h)) (by unfold maxLen; omega) c a2 a3 hc hw2 hv3 (by rw [← fst_or3]; exact hT)).mono fun e w' h => gets_bad (l := []) (by rw [← fst_or3]; exact hT) h
  rw [← fst_or3] at kTu
  generalize fstI [c, a2, a3] = r2 at kF2 kTu hT
  have b2 : (r2 == 0) = false := by rw [beq_eq_false_iff_ne]; exact hT
  have e3 : fstI [c, a4, a5] = 0 := by rw [hM.1, hM.2.1, hM.2.2]; rfl
  rw [e3] at kF3
  have kMi := fun W (h : Below W0.heap.size W0 W) => mirror_res (j := ax) (t := at_) (by omega) (ha.below (hX0 W h)) (hc.trans hM.1) (hw5.trans hM.2.2) rfl
  have kMr := fun W (h : Below W0.heap.size W0 W) => mirror_ref (j := ax) (t := at_) (by omega) (ha.below (hX0 W h)) (hc.trans hM.1) (hw5.trans hM.2.2) rfl
  generalize outI (l.map (mirT ax at_)) = o3 at kMi kMr
  generalize sortC (l.map (mirT ax at_)) = L3 at kMi kMr
  clear e3
  have e4 : fstI [a2, a6] = 0 := by rw [hF.1, hF.2]; rfl
  rw [e4] at kF4
  have kTw := fun W => twice_ok tn th (by omega) (by omega) W
  have kTz := fun W => refTwice_ok tn th (by omega) (by omega) W
  generalize twN tn th = tw at kTw kTz
  have kI := fun W => integer_same (tw : Int) W
  clear e4
  clear kA ha h1 la hc hv1 hw2 hv3 hw4 hw5 hw6 q_tn q_th q_ax hM hF
  go_enter Tryz.func3, Tryz.ntmps3
  go_wp2_with fail
  rw [← hW]
  clear hW
  refine k0.mono ?_
  rintro e w1 ⟨rfl, hX⟩
  go_wp2_with fail
  refine (kS _).mono ?_
  rintro e w1a ⟨rfl, hw1a⟩
  subst hw1a
  have q := kC _ hX
  go_wp2_with fail
  refine q.mono ?_
  rintro e w2 ⟨rfl, hB⟩
  replace hX := hX.trans (hB.mono hX.size)
  clear hB q k0 kS kC d0 d1 d2 d3 d4 d5 d6 d7 d8 d9
  obtain ⟨d0, d1, d2, d3, d4, d5, d6, d7, d8, d9⟩ := kk _ hX
  have q := kSh _ hX
  go_wp2_with fail
  refine q.mono ?_
  rintro e w3 ⟨A1, n1, k1, E1, rfl, hR1, hB⟩
  replace hX := hX.trans (hB.mono hX.size)
  clear hB q d0 d1 d2 d3 d4 d5 d6 d7 d8 d9
  obtain ⟨d0, d1, d2, d3, d4, d5, d6, d7, d8, d9⟩ := kk _ hX
  have q := kTu _ hX
  go_wp2_with fail
  refine q.mono ?_
  rintro e w4 ⟨A2, n2, k2, E2, rfl, hR2, hB⟩
  replace hX := hX.trans (hB.mono hX.size)
  replace hR1 := hR1.below hB
  clear hB q d0 d1 d2 d3 d4 d5 d6 d7 d8 d9
  obtain ⟨d0, d1, d2, d3, d4, d5, d6, d7, d8, d9⟩ := kk _ hX
  have q := (fun W (_ : Below W0.heap.size W0 W) => kTw W) _ hX
  go_wp2_with fail
  refine q.mono ?_
  rintro e w5 ⟨rfl, hB⟩
  replace hX := hX.trans (hB.mono hX.size)
  replace hR1 := hR1.below hB
  replace hR2 := hR2.below hB
  clear hB q d0 d1 d2 d3 d4 d5 d6 d7 d8 d9
  obtain ⟨d0, d1, d2, d3, d4, d5, d6, d7, d8, d9⟩ := kk _ hX
  have q := kMi _ hX
  go_wp2_with fail
  refine q.mono ?_
  rintro e w6 ⟨A3, n3, k3, E3, rfl, hR3, hB⟩
  replace hX := hX.trans (hB.mono hX.size)
  replace hR1 := hR1.below hB
  replace hR2 := hR2.below hB
  clear hB q d0 d1 d2 d3 d4 d5 d6 d7 d8 d9
  have hD : Below w6.heap.size w6 w6.drew := (Below.refl _ _).drew
  have hY := hX.trans (hD.mono hX.size)
  obtain ⟨d0, d1, d2, d3, d4, d5, d6, d7, d8, d9⟩ := kk _ hX
  have hS0 := kk _ hY
  go_wp2
  go_region_held3 (fun w' => w'.cell? ⟨w.heap.size, 0, none⟩ = some (.int .i64 bx) ∧ w'.cell? ⟨w.heap.size, 1, none⟩ = some (.int .i64 by_) ∧ w'.cell? ⟨w.heap.size, 2, none⟩ = some (.int .i64 bz) ∧ w'.cell? ⟨w.heap.size, 3, none⟩ = some (.int .i64 tn) ∧ w'.cell? ⟨w.heap.size, 4, none⟩ = some (.int .i64 ox) ∧ w'.cell? ⟨w.heap.size, 5, none⟩ = some (.int .i64 oy) ∧ w'.cell? ⟨w.heap.size, 6, none⟩ = some (.int .i64 oz) ∧ w'.cell? ⟨w.heap.size, 7, none⟩ = some (.int .i64 ax) ∧ w'.cell? ⟨w.heap.size, 8, none⟩ = some (.int .i64 at_) ∧ w'.cell? ⟨w.heap.size, 9, none⟩ = some (.int .i64 th)) (first | exact hS0 | exact hS1 | exact hS2 | exact hS3 | exact hS4 | exact hS5 | exact kk _ (hY.alloc hY.size _) | go_keep) (first
    | (go_at_call 15; refine (kV _).mono ?_; rintro e wv ⟨rfl, hB⟩; replace hD := hD.trans (hB.mono hD.size); replace hY := hY.trans (hB.mono hY.size); have hS1 := kk _ hY; clear hB)
    | (go_at_call 14; first
        | (with_reducible refine (kF1 _ _ (by go_simp) (by go_simp)).mono ?_; rintro e wf ⟨rfl, hwf⟩; replace hD : Below _ _ wf := (by rw [hwf]; exact hD.alloc hD.size _); replace hY : Below _ _ wf := (by rw [hwf]; exact hY.alloc hY.size _); have hS2 := kk _ hY; clear hwf)
        | (with_reducible refine (kF2 _ _ (by go_simp) (by go_simp) (by go_simp)).mono ?_; rintro e wg ⟨rfl, hwg⟩; replace hD : Below _ _ wg := (by rw [hwg]; exact hD.alloc hD.size _); replace hY : Below _ _ wg := (by rw [hwg]; exact hY.alloc hY.size _); have hS3 := kk _ hY; clear hwg kF2)
        | (with_reducible refine (kF3 _ _ (by go_simp) (by go_simp) (by go_simp)).mono ?_; rintro e wh ⟨rfl, hwh⟩; replace hD : Below _ _ wh := (by rw [hwh]; exact hD.alloc hD.size _); replace hY : Below _ _ wh := (by rw [hwh]; exact hY.alloc hY.size _); have hS4 := kk _ hY; clear hwh))
    | (go_at_call 16; first
        | (with_reducible refine (kR2 _).mono ?_; rintro e wr ⟨rfl, hwr⟩; subst hwr)
        | (with_reducible refine (kR4 _).mono ?_; rintro e wr ⟨rfl, hwr⟩; subst hwr)
        | (with_reducible refine (kR5 _).mono ?_; rintro e wr ⟨rfl, hwr⟩; subst hwr))
    | (go_at_call 17; refine (kO _).mono ?_; rintro e wc ⟨rfl, hB⟩; replace hD := hD.trans (hB.mono hD.size); replace hY := hY.trans (hB.mono hY.size); have hS5 := kk _ hY; clear hB))
  replace hX := hY
  clear hS0 hS1 hS2 hS3 hS4 hS5 hY d0 d1 d2 d3 d4 d5 d6 d7 d8 d9 kV kO kF1 kF3 kR4 kR5
  replace hR1 := hR1.below hD
  replace hR2 := hR2.below hD
  replace hR3 := hR3.below hD
  clear hD
  obtain ⟨d0, d1, d2, d3, d4, d5, d6, d7, d8, d9⟩ := kk _ hX
  have q := kMr _ hX
  go_wp2_with fail
  refine q.mono ?_
  rintro e w7 ⟨u3, m3, rfl, hu3, hm3, ho3, hz3, hB⟩
  replace hX := hX.trans (hB.mono hX.size)
  replace hR1 := hR1.below hB
  replace hR2 := hR2.below hB
  replace hR3 := hR3.below hB
  clear hB q d0 d1 d2 d3 d4 d5 d6 d7 d8 d9
  have q := outCells_ok m3 u3 _ hu3 (by unfold maxLen; omega)
  rw [ho3] at q
  clear ho3 hm3
  go_wp2_with fail
  refine q.mono ?_
  rintro e w8 ⟨rfl, hB⟩
  replace hX := hX.trans (hB.mono hX.size)
  replace hR1 := hR1.below hB
  replace hR2 := hR2.below hB
  replace hR3 := hR3.below hB
  replace hu3 := hu3.below hB
  clear hB q
  have q := cells_res hR1 (u := .slice none 0 0) (m := []) (.inl ⟨rfl, rfl⟩) (fun h => absurd h hS)
  go_wp2_with fail
  refine q.mono ?_
  rintro e w9 ⟨rfl, hB⟩
  replace hX := hX.trans (hB.mono hX.size)
  replace hR2 := hR2.below hB
  replace hR3 := hR3.below hB
  replace hu3 := hu3.below hB
  clear hB q hR1 hS
  have q := cells_res hR2 (u := .slice none 0 0) (m := []) (.inl ⟨rfl, rfl⟩) (fun h => absurd h hT)
  go_wp2_with fail
  refine q.mono ?_
  rintro e w10 ⟨rfl, hB⟩
  replace hX := hX.trans (hB.mono hX.size)
  replace hR3 := hR3.below hB
  replace hu3 := hu3.below hB
  clear hB q hR2 hT
  have q := cells_res hR3 hu3 hz3
  go_wp2_with fail
  refine q.mono ?_
  rintro e w11 ⟨rfl, hB⟩
  replace hX := hX.trans (hB.mono hX.size)
  clear hB q hR3 hu3 hz3
  have hY := hX.trans ((Below.refl _ w11).drew.mono hX.size)
  obtain ⟨d0, d1, d2, d3, d4, d5, d6, d7, d8, d9⟩ := kk _ hX
  have hS0 := kk _ hY
  go_wp2
  go_region_held3 (fun w' => w'.cell? ⟨w.heap.size, 0, none⟩ = some (.int .i64 bx) ∧ w'.cell? ⟨w.heap.size, 1, none⟩ = some (.int .i64 by_) ∧ w'.cell? ⟨w.heap.size, 2, none⟩ = some (.int .i64 bz) ∧ w'.cell? ⟨w.heap.size, 3, none⟩ = some (.int .i64 tn) ∧ w'.cell? ⟨w.heap.size, 4, none⟩ = some (.int .i64 ox) ∧ w'.cell? ⟨w.heap.size, 5, none⟩ = some (.int .i64 oy) ∧ w'.cell? ⟨w.heap.size, 6, none⟩ = some (.int .i64 oz) ∧ w'.cell? ⟨w.heap.size, 7, none⟩ = some (.int .i64 ax) ∧ w'.cell? ⟨w.heap.size, 8, none⟩ = some (.int .i64 at_) ∧ w'.cell? ⟨w.heap.size, 9, none⟩ = some (.int .i64 th)) (first | exact hS0 | exact kk _ (hY.alloc hY.size _) | go_keep) (first
    | (go_at_call 16; first
        | (with_reducible refine (kR2 _).mono ?_; rintro e wr ⟨rfl, hwr⟩; subst hwr)
        | (with_reducible refine (kR6 _).mono ?_; rintro e wr ⟨rfl, hwr⟩; subst hwr))
    | (go_at_call 14; refine (kF4 _ _ (by go_simp) (by go_simp)).mono ?_; rintro e wz ⟨rfl, hwz⟩; replace hY : Below _ _ wz := (by rw [hwz]; exact hY.alloc hY.size _); clear hwz))
  clear hS0 d0 d1 d2 d3 d4 d5 d6 d7 d8 d9 kR2 kR6 kF4
  obtain ⟨d0, d1, d2, d3, d4, d5, d6, d7, d8, d9⟩ := kk _ hY
  go_wp2_with fail
  refine (kTz _).mono ?_
  rintro e wy ⟨rfl, hB⟩
  replace hY := hY.trans (hB.mono hY.size)
  clear hB d0 d1 d2 d3 d4 d5 d6 d7 d8 d9
  go_wp2_with fail
  refine (kI _).mono ?_
  rintro e we ⟨rfl, hwe⟩
  subst hwe
  go_wp2
  go_ret
  exact ⟨rfl, hX0 _ hY⟩
theorem gmoves_0100 (l : List Cel) (A : Option Addr) (ka : Nat) (bx by_ bz tn ox oy oz ax at_ th : Int) (w : World) (kA : AwakeAt w) (ha : Sl w (.slice A l.length ka) l) (h1 : shortB l.length 60 = true) (c a1 a2 a3 a4 a5 a6 : Int) (hc : chkI l = c) (hv1 : vecI (bx, by_, bz) 2000 = a1) (hw2 : withinI tn 0 23 = a2) (hv3 : vecI (ox, oy, oz) 1000 = a3) (hw4 : withinI ax 0 2 = a4) (hw5 : withinI at_ (-1000) 1000 = a5) (hw6 : withinI th 0 23 = a6) (hS : fstI [c, a1] ≠ 0) (hT : c = 0 ∧ a2 = 0 ∧ a3 = 0) (hM : fstI [c, a4, a5] ≠ 0) (hF : fstI [a2, a6] ≠ 0) :
    Calls Tryz.prog 3 #[.slice A l.length ka, .agg #[.int .i64 bx, .int .i64 by_, .int .i64 bz, .int .i64 tn, .int .i64 ox, .int .i64 oy, .int .i64 oz, .int .i64 ax, .int .i64 at_, .int .i64 th]] w fun e w' => e = .returned (.bool true) ∧ Below w.heap.size w w' := by
  have la := short_len h1 (by omega)
  obtain ⟨tn, rfl⟩ : ∃ k : Nat, tn = k := ⟨tn.toNat, by have := within_zero (hw2.trans (hT.2.1)); omega⟩
  have q_tn : tn ≤ 23 := by have := within_zero (hw2.trans (hT.2.1)); omega
  obtain ⟨W0, hW⟩ : ∃ W0, W0 = w.alloc (.cells #[.int .i64 bx, .int .i64 by_, .int .i64 bz, .int .i64 tn, .int .i64 ox, .int .i64 oy, .int .i64 oz, .int .i64 ax, .int .i64 at_, .int .i64 th] 26) := ⟨_, rfl⟩
  have hK0 : Below w.heap.size w W0 := by subst hW; exact (Below.refl _ _).alloc (Nat.le_refl _) _
  have d0 : W0.cell? ⟨w.heap.size, 0, none⟩ = some (.int .i64 bx) := by subst hW; go_simp
  have d1 : W0.cell? ⟨w.heap.size, 1, none⟩ = some (.int .i64 by_) := by subst hW; go_simp
  have d2 : W0.cell? ⟨w.heap.size, 2, none⟩ = some (.int .i64 bz) := by subst hW; go_simp
  have d3 : W0.cell? ⟨w.heap.size, 3, none⟩ = some (.int .i64 tn) := by subst hW; go_simp
  have d4 : W0.cell? ⟨w.heap.size, 4, none⟩ = some (.int .i64 ox) := by subst hW; go_simp
  have d5 : W0.cell? ⟨w.heap.size, 5, none⟩ = some (.int .i64 oy) := by subst hW; go_simp
  have d6 : W0.cell? ⟨w.heap.size, 6, none⟩ = some (.int .i64 oz) := by subst hW; go_simp
  have d7 : W0.cell? ⟨w.heap.size, 7, none⟩ = some (.int .i64 ax) := by subst hW; go_simp
  have d8 : W0.cell? ⟨w.heap.size, 8, none⟩ = some (.int .i64 at_) := by subst hW; go_simp
  have d9 : W0.cell? ⟨w.heap.size, 9, none⟩ = some (.int .i64 th) := by subst hW; go_simp
  have hlt : w.heap.size < W0.heap.size := by subst hW; simp
  have kk : ∀ W', Below W0.heap.size W0 W' → W'.cell? ⟨w.heap.size, 0, none⟩ = some (.int .i64 bx) ∧ W'.cell? ⟨w.heap.size, 1, none⟩ = some (.int .i64 by_) ∧ W'.cell? ⟨w.heap.size, 2, none⟩ = some (.int .i64 bz) ∧ W'.cell? ⟨w.heap.size, 3, none⟩ = some (.int .i64 tn) ∧ W'.cell? ⟨w.heap.size, 4, none⟩ = some (.int .i64 ox) ∧ W'.cell? ⟨w.heap.size, 5, none⟩ = some (.int .i64 oy) ∧ W'.cell? ⟨w.heap.size, 6, none⟩ = some (.int .i64 oz) ∧ W'.cell? ⟨w.heap.size, 7, none⟩ = some (.int .i64 ax) ∧ W'.cell? ⟨w.heap.size, 8, none⟩ = some (.int .i64 at_) ∧ W'.cell? ⟨w.heap.size, 9, none⟩ = some (.int .i64 th) := fun W' h => ⟨(h.cell (p := ⟨w.heap.size, 0, none⟩) hlt).trans d0, (h.cell (p := ⟨w.heap.size, 1, none⟩) hlt).trans d1, (h.cell (p := ⟨w.heap.size, 2, none⟩) hlt).trans d2, (h.cell (p := ⟨w.heap.size, 3, none⟩) hlt).trans d3, (h.cell (p := ⟨w.heap.size, 4, none⟩) hlt).trans d4, (h.cell (p := ⟨w.heap.size, 5, none⟩) hlt).trans d5, (h.cell (p := ⟨w.heap.size, 6, none⟩) hlt).trans d6, (h.cell (p := ⟨w.heap.size, 7, none⟩) hlt).trans d7, (h.cell (p := ⟨w.heap.size, 8, none⟩) hlt).trans d8, (h.cell (p := ⟨w.heap.size, 9, none⟩) hlt).trans d9⟩
  have hX0 := fun W (h : Below W0.heap.size W0 W) => hK0.trans (h.mono hK0.size)
  have k0 := kA W0 hK0
  have kS := fun W => short_true h1 A ka W
  have kC := fun W (h : Below W0.heap.size W0 W) => refCheckG l _ W (ha.below (hX0 W h)) (by unfold maxLen; omega)
  rw [hc] at kC
  have kV := fun W => refVec_ok bx by_ bz W
  rw [hv1] at kV
  have kO := fun W => refCheckCellG ox oy oz W
  rw [← vecI_bad, hv3] at kO
  have kR2 := fun W => checkRange_ok tn 0 23 W
  have kR4 := fun W => checkRange_ok ax 0 2 W
  have kR5 := fun W => checkRange_ok at_ (-1000) 1000 W
  have kR6 := fun W => checkRange_ok th 0 23 W
  rw [hw2] at kR2
  rw [hw4] at kR4
  rw [hw5] at kR5
  rw [hw6] at kR6
  have kF1 := fun blk W => firstL2 c a1 blk 2 W
  have kF2 := fun blk W => firstL3 c a2 a3 blk 3 W
  have kF3 := fun blk W => firstL3 c a4 a5 blk 3 W
  have kF4 := fun blk W => firstL2 a2 a6 blk 2 W
  have kSh := fun W (h : Below W0.heap.size W0 W) => (shiftG_bad l _ bx by_ bz W (ha.below (hX0 W h)) (by unfold maxLen; omega) c a1 hc hv1 (by rw [← fst_or]; exact hS)).mono fun e w' h => gets_bad (l := []) (by rw [← fst_or]; exact hS) h
  rw [← fst_or] at kSh
  generalize fstI [c, a1] = r1 at kF1 kSh hS
  have b1 : (r1 == 0) = false := by rw [beq_eq_false_iff_ne]; exact hS
  have e2 : fstI [c, a2, a3] = 0 := by rw [hT.1, hT.2.1, hT.2.2]; rfl
  rw [e2] at kF2
  have kTu := fun W (h : Below W0.heap.size W0 W) => turn_res (n := tn) (o := (ox, oy, oz)) (by omega) (ha.below (hX0 W h)) (hc.trans hT.1) (hv3.trans hT.2.2) rfl
  have kTr := fun W (h : Below W0.heap.size W0 W) => turn_ref (n := tn) (o := (ox, oy, oz)) (by omega) (ha.below (hX0 W h)) (hc.trans hT.1) (hv3.trans hT.2.2) rfl
  generalize outI (l.map (turnB tn (ox, oy, oz))) = o2 at kTu kTr
  generalize sortC (l.map (turnB tn (ox, oy, oz))) = L2 at kTu kTr
  clear e2
  dsimp only at kTu kTr
  have kMi := fun W (h : Below W0.heap.size W0 W) => (mirrorX_bad l _ ax at_ W (ha.below (hX0 W h)) (by unfold maxLen; omega) c a4 a5 hc hw4 hw5 (by rw [← fst_or3]; exact hM)).mono fun e w' h => gets_bad (l := []) (by rw [← fst_or3]; exact hM) h
  rw [← fst_or3] at kMi
  generalize fstI [c, a4, a5] = r3 at kF3 kMi hM
  have b3 : (r3 == 0) = false := by rw [beq_eq_false_iff_ne]; exact hM
  have kTw := fun W => twice_bad tn th W a2 a6 hw2 hw6 (by rw [← fst_or]; exact hF)
  rw [← fst_or] at kTw
  generalize fstI [a2, a6] = r4 at kF4 kTw hF
  have b4 : (r4 != 0) = true := by rw [bne_iff_ne]; exact hF
  have kI := fun W => integer_bad r4 hF W
  clear kA ha h1 la hc hv1 hw2 hv3 hw4 hw5 hw6 q_tn hT hF
  go_enter Tryz.func3, Tryz.ntmps3
  go_wp2_with fail
  rw [← hW]
  clear hW
  refine k0.mono ?_
  rintro e w1 ⟨rfl, hX⟩
  go_wp2_with fail
  refine (kS _).mono ?_
  rintro e w1a ⟨rfl, hw1a⟩
  subst hw1a
  have q := kC _ hX
  go_wp2_with fail
  refine q.mono ?_
  rintro e w2 ⟨rfl, hB⟩
  replace hX := hX.trans (hB.mono hX.size)
  clear hB q k0 kS kC d0 d1 d2 d3 d4 d5 d6 d7 d8 d9
  obtain ⟨d0, d1, d2, d3, d4, d5, d6, d7, d8, d9⟩ := kk _ hX
  have q := kSh _ hX
  go_wp2_with fail
  refine q.mono ?_
  rintro e w3 ⟨A1, n1, k1, E1, rfl, hR1, hB⟩
  replace hX := hX.trans (hB.mono hX.size)
  clear hB q d0 d1 d2 d3 d4 d5 d6 d7 d8 d9
  obtain ⟨d0, d1, d2, d3, d4, d5, d6, d7, d8, d9⟩ := kk _ hX
  have q := kTu _ hX
  go_wp2_with fail
  refine q.mono ?_
  rintro e w4 ⟨A2, n2, k2, E2, rfl, hR2, hB⟩
  replace hX := hX.trans (hB.mono hX.size)
  replace hR1 := hR1.below hB
  clear hB q d0 d1 d2 d3 d4 d5 d6 d7 d8 d9
  obtain ⟨d0, d1, d2, d3, d4, d5, d6, d7, d8, d9⟩ := kk _ hX
  have q := (fun W (_ : Below W0.heap.size W0 W) => kTw W) _ hX
  go_wp2_with fail
  refine q.mono ?_
  rintro e w5 ⟨rfl, hB⟩
  replace hX := hX.trans (hB.mono hX.size)
  replace hR1 := hR1.below hB
  replace hR2 := hR2.below hB
  clear hB q d0 d1 d2 d3 d4 d5 d6 d7 d8 d9
  obtain ⟨d0, d1, d2, d3, d4, d5, d6, d7, d8, d9⟩ := kk _ hX
  have q := kMi _ hX
  go_wp2_with fail
  refine q.mono ?_
  rintro e w6 ⟨A3, n3, k3, E3, rfl, hR3, hB⟩
  replace hX := hX.trans (hB.mono hX.size)
  replace hR1 := hR1.below hB
  replace hR2 := hR2.below hB
  clear hB q d0 d1 d2 d3 d4 d5 d6 d7 d8 d9
  have hD : Below w6.heap.size w6 w6.drew := (Below.refl _ _).drew
  have hY := hX.trans (hD.mono hX.size)
  obtain ⟨d0, d1, d2, d3, d4, d5, d6, d7, d8, d9⟩ := kk _ hX
  have hS0 := kk _ hY
  go_wp2
  go_region_held3 (fun w' => w'.cell? ⟨w.heap.size, 0, none⟩ = some (.int .i64 bx) ∧ w'.cell? ⟨w.heap.size, 1, none⟩ = some (.int .i64 by_) ∧ w'.cell? ⟨w.heap.size, 2, none⟩ = some (.int .i64 bz) ∧ w'.cell? ⟨w.heap.size, 3, none⟩ = some (.int .i64 tn) ∧ w'.cell? ⟨w.heap.size, 4, none⟩ = some (.int .i64 ox) ∧ w'.cell? ⟨w.heap.size, 5, none⟩ = some (.int .i64 oy) ∧ w'.cell? ⟨w.heap.size, 6, none⟩ = some (.int .i64 oz) ∧ w'.cell? ⟨w.heap.size, 7, none⟩ = some (.int .i64 ax) ∧ w'.cell? ⟨w.heap.size, 8, none⟩ = some (.int .i64 at_) ∧ w'.cell? ⟨w.heap.size, 9, none⟩ = some (.int .i64 th)) (first | exact hS0 | exact hS1 | exact hS2 | exact hS3 | exact hS4 | exact hS5 | exact kk _ (hY.alloc hY.size _) | go_keep) (first
    | (go_at_call 15; refine (kV _).mono ?_; rintro e wv ⟨rfl, hB⟩; replace hD := hD.trans (hB.mono hD.size); replace hY := hY.trans (hB.mono hY.size); have hS1 := kk _ hY; clear hB)
    | (go_at_call 14; first
        | (with_reducible refine (kF1 _ _ (by go_simp) (by go_simp)).mono ?_; rintro e wf ⟨rfl, hwf⟩; replace hD : Below _ _ wf := (by rw [hwf]; exact hD.alloc hD.size _); replace hY : Below _ _ wf := (by rw [hwf]; exact hY.alloc hY.size _); have hS2 := kk _ hY; clear hwf)
        | (with_reducible refine (kF2 _ _ (by go_simp) (by go_simp) (by go_simp)).mono ?_; rintro e wg ⟨rfl, hwg⟩; replace hD : Below _ _ wg := (by rw [hwg]; exact hD.alloc hD.size _); replace hY : Below _ _ wg := (by rw [hwg]; exact hY.alloc hY.size _); have hS3 := kk _ hY; clear hwg kF2)
        | (with_reducible refine (kF3 _ _ (by go_simp) (by go_simp) (by go_simp)).mono ?_; rintro e wh ⟨rfl, hwh⟩; replace hD : Below _ _ wh := (by rw [hwh]; exact hD.alloc hD.size _); replace hY : Below _ _ wh := (by rw [hwh]; exact hY.alloc hY.size _); have hS4 := kk _ hY; clear hwh))
    | (go_at_call 16; first
        | (with_reducible refine (kR2 _).mono ?_; rintro e wr ⟨rfl, hwr⟩; subst hwr)
        | (with_reducible refine (kR4 _).mono ?_; rintro e wr ⟨rfl, hwr⟩; subst hwr)
        | (with_reducible refine (kR5 _).mono ?_; rintro e wr ⟨rfl, hwr⟩; subst hwr))
    | (go_at_call 17; refine (kO _).mono ?_; rintro e wc ⟨rfl, hB⟩; replace hD := hD.trans (hB.mono hD.size); replace hY := hY.trans (hB.mono hY.size); have hS5 := kk _ hY; clear hB))
  replace hX := hY
  clear hS0 hS1 hS2 hS3 hS4 hS5 hY d0 d1 d2 d3 d4 d5 d6 d7 d8 d9 kV kO kF1 kF3 kR4 kR5
  replace hR1 := hR1.below hD
  replace hR2 := hR2.below hD
  replace hR3 := hR3.below hD
  clear hD
  obtain ⟨d0, d1, d2, d3, d4, d5, d6, d7, d8, d9⟩ := kk _ hX
  have q := kTr _ hX
  go_wp2_with fail
  refine q.mono ?_
  rintro e w7 ⟨u2, m2, rfl, hu2, hm2, ho2, hz2, hB⟩
  replace hX := hX.trans (hB.mono hX.size)
  replace hR1 := hR1.below hB
  replace hR2 := hR2.below hB
  replace hR3 := hR3.below hB
  clear hB q d0 d1 d2 d3 d4 d5 d6 d7 d8 d9
  have q := outCells_ok m2 u2 _ hu2 (by unfold maxLen; omega)
  rw [ho2] at q
  clear ho2 hm2
  go_wp2_with fail
  refine q.mono ?_
  rintro e w8 ⟨rfl, hB⟩
  replace hX := hX.trans (hB.mono hX.size)
  replace hR1 := hR1.below hB
  replace hR2 := hR2.below hB
  replace hR3 := hR3.below hB
  replace hu2 := hu2.below hB
  clear hB q
  have q := cells_res hR1 (u := .slice none 0 0) (m := []) (.inl ⟨rfl, rfl⟩) (fun h => absurd h hS)
  go_wp2_with fail
  refine q.mono ?_
  rintro e w9 ⟨rfl, hB⟩
  replace hX := hX.trans (hB.mono hX.size)
  replace hR2 := hR2.below hB
  replace hR3 := hR3.below hB
  replace hu2 := hu2.below hB
  clear hB q hR1 hS
  have q := cells_res hR2 hu2 hz2
  go_wp2_with fail
  refine q.mono ?_
  rintro e w10 ⟨rfl, hB⟩
  replace hX := hX.trans (hB.mono hX.size)
  replace hR3 := hR3.below hB
  clear hB q hR2 hu2 hz2
  have q := cells_res hR3 (u := .slice none 0 0) (m := []) (.inl ⟨rfl, rfl⟩) (fun h => absurd h hM)
  go_wp2_with fail
  refine q.mono ?_
  rintro e w11 ⟨rfl, hB⟩
  replace hX := hX.trans (hB.mono hX.size)
  clear hB q hR3 hM
  have hY := hX.trans ((Below.refl _ w11).drew.mono hX.size)
  obtain ⟨d0, d1, d2, d3, d4, d5, d6, d7, d8, d9⟩ := kk _ hX
  have hS0 := kk _ hY
  go_wp2
  go_region_held3 (fun w' => w'.cell? ⟨w.heap.size, 0, none⟩ = some (.int .i64 bx) ∧ w'.cell? ⟨w.heap.size, 1, none⟩ = some (.int .i64 by_) ∧ w'.cell? ⟨w.heap.size, 2, none⟩ = some (.int .i64 bz) ∧ w'.cell? ⟨w.heap.size, 3, none⟩ = some (.int .i64 tn) ∧ w'.cell? ⟨w.heap.size, 4, none⟩ = some (.int .i64 ox) ∧ w'.cell? ⟨w.heap.size, 5, none⟩ = some (.int .i64 oy) ∧ w'.cell? ⟨w.heap.size, 6, none⟩ = some (.int .i64 oz) ∧ w'.cell? ⟨w.heap.size, 7, none⟩ = some (.int .i64 ax) ∧ w'.cell? ⟨w.heap.size, 8, none⟩ = some (.int .i64 at_) ∧ w'.cell? ⟨w.heap.size, 9, none⟩ = some (.int .i64 th)) (first | exact hS0 | exact kk _ (hY.alloc hY.size _) | go_keep) (first
    | (go_at_call 16; first
        | (with_reducible refine (kR2 _).mono ?_; rintro e wr ⟨rfl, hwr⟩; subst hwr)
        | (with_reducible refine (kR6 _).mono ?_; rintro e wr ⟨rfl, hwr⟩; subst hwr))
    | (go_at_call 14; refine (kF4 _ _ (by go_simp) (by go_simp)).mono ?_; rintro e wz ⟨rfl, hwz⟩; replace hY : Below _ _ wz := (by rw [hwz]; exact hY.alloc hY.size _); clear hwz))
  clear hS0 d0 d1 d2 d3 d4 d5 d6 d7 d8 d9 kR2 kR6 kF4
  go_wp2_with fail
  refine (kI _).mono ?_
  rintro e we ⟨rfl, hwe⟩
  subst hwe
  go_wp2
  go_ret
  exact ⟨rfl, hX0 _ hY⟩
end Go.Proofs
