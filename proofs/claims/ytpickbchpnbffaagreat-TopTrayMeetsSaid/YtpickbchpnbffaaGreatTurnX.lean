import Derived.Test.YtpickbchpnbffaaGreatMovedX
section
/- Shift of any list of cells by any vector: the first error, or the moved set. -/
namespace Go.Proofs
open Go.RowKit
set_option maxHeartbeats 8000000
set_option maxRecDepth 1000000
theorem checkVecG (x y z : Int) (w : World) : Calls Tryz.prog 34 #[.agg #[.int .i64 x, .int .i64 y, .int .i64 z], .int .i64 2000] w fun e w' => e = .returned (.int .i64 (vecI (x, y, z) 2000)) ∧ Below w.heap.size w w' := by
  refine (checkVector_ok x y z 2000 (by decide) w).mono ?_
  rintro e w' ⟨h, q, os, rfl⟩
  exact ⟨h, below_grow _ _ _⟩
theorem shiftG_bad (l : List Cel) (v : Value) (bx by_ bz : Int) (w : World) (hl : Sl w v l) (hn : l.length ≤ maxLen) (a1 a2 : Int) (hc1 : chkI l = a1) (hc2 : vecI (bx, by_, bz) 2000 = a2) (h0 : orI a1 a2 0 ≠ 0) :
    Calls Tryz.prog 10 #[v, .agg #[.int .i64 bx, .int .i64 by_, .int .i64 bz]] w fun e w' => e = .returned (.tuple #[.slice none 0 0, .int .i64 (orI a1 a2 0)]) ∧ Below w.heap.size w w' := by
  have hform := hl.form
  have hcv := fun W => checkVecG bx by_ bz W
  rw [hc2] at hcv
  obtain ⟨W, hW⟩ : ∃ W, W = (w.alloc (.cells #[.int .i64 bx, .int .i64 by_, .int .i64 bz] 34)) := ⟨_, rfl⟩
  have b0 : W.cell? ⟨w.heap.size, 0, none⟩ = some (.int .i64 bx) := by subst hW; go_simp
  have b1 : W.cell? ⟨w.heap.size, 1, none⟩ = some (.int .i64 by_) := by subst hW; go_simp
  have b2 : W.cell? ⟨w.heap.size, 2, none⟩ = some (.int .i64 bz) := by subst hW; go_simp
  have hBW : Below w.heap.size w W := by subst hW; exact (Below.refl _ _).alloc (Nat.le_refl _) _
  have hs : w.heap.size < W.heap.size := by subst hW; simp
  have hck := gridCheckG l v W.drew ((hl.below hBW).below (Below.refl _ _).drew) hn
  rw [hc1] at hck
  have hne : (orI a1 a2 0 != 0) = true := by rw [bne_iff_ne]; exact h0
  generalize hr : orI a1 a2 0 = r at hne ⊢
  have hf2 := fun blk W k0 k1 => first2_ok a1 a2 blk 2 W k0 k1
  clear hl hc1 hc2 h0 hn
  obtain ⟨A, cap, rfl⟩ : ∃ (A : Option Addr) (cap : Nat), v = .slice A l.length cap := hform
  go_enter Tryz.func10, Tryz.ntmps10
  go_wp2
  rw [← hW]
  clear hW
  go_region_held3 (fun w' => w'.cell? ⟨w.heap.size, 0, none⟩ = some (.int .i64 bx) ∧ w'.cell? ⟨w.heap.size, 1, none⟩ = some (.int .i64 by_) ∧ w'.cell? ⟨w.heap.size, 2, none⟩ = some (.int .i64 bz)) (first | exact ⟨e0, e1, e2⟩ | exact ⟨c0, c1, c2⟩ | exact ⟨b0, b1, b2⟩ | go_keep) (first
    | (go_at_call 33; refine hck.mono ?_; rintro e w2 ⟨rfl, hB2⟩; have c0 : w2.cell? ⟨w.heap.size, 0, none⟩ = some (.int .i64 bx) := (hB2.cell (p := ⟨w.heap.size, 0, none⟩) hs).trans b0; have c1 : w2.cell? ⟨w.heap.size, 1, none⟩ = some (.int .i64 by_) := (hB2.cell (p := ⟨w.heap.size, 1, none⟩) hs).trans b1; have c2 : w2.cell? ⟨w.heap.size, 2, none⟩ = some (.int .i64 bz) := (hB2.cell (p := ⟨w.heap.size, 2, none⟩) hs).trans b2; have hs2 : w.heap.size < w2.heap.size := Nat.lt_of_lt_of_le hs hB2.size)
    | (go_at_call 34; refine (hcv _).mono ?_; rintro e w3 ⟨rfl, hB3⟩; have e0 := (hB3.cell (p := ⟨w.heap.size, 0, none⟩) hs2).trans c0; have e1 := (hB3.cell (p := ⟨w.heap.size, 1, none⟩) hs2).trans c1; have e2 := (hB3.cell (p := ⟨w.heap.size, 2, none⟩) hs2).trans c2)
    | (go_at_call 32; refine (hf2 _ _ ?_ ?_).mono ?_; (go_simp); (go_simp); rintro e w5 ⟨rfl, hw5⟩; subst hw5; simp only [hr]))
  have hWe : Below W.heap.size W w2 := ⟨hB2.os, hB2.tape, hB2.output, hB2.size, hB2.block⟩
  have hWg := hWe.trans (hB3.mono hWe.size)
  have hWf := hWg.alloc hWg.size (.cells #[.int .i64 a1, .int .i64 a2] 28)
  clear hB2 hB3 hWe hWg hck hcv b0 b1 b2 c0 c1 c2 e0 e1 e2 hs2
  go_wp2
  go_ret2
  exact ⟨rfl, hBW.trans (hWf.mono hBW.size)⟩
theorem shiftG_via (l : List Cel) (v : Value) (bx by_ bz : Int) (w : World) (hl : Sl w v l) (hn : l.length ≤ maxLen) (hc1 : chkI l = 0) (hc2 : vecI (bx, by_, bz) 2000 = 0) (R : Value → Int → World → Prop)
    (hmov : ∀ W5, Below w.heap.size w W5 → w.heap.size < W5.heap.size → W5.cell? ⟨w.heap.size, 0, none⟩ = some (.int .i64 bx) → W5.cell? ⟨w.heap.size, 1, none⟩ = some (.int .i64 by_) → W5.cell? ⟨w.heap.size, 2, none⟩ = some (.int .i64 bz) → Calls Tryz.prog 35 #[v, .func (.func 36) #[] #[.pointer (some ⟨w.heap.size, 0, none⟩)]] W5 fun e w' => ∃ V E, e = .returned (.tuple #[V, .int .i64 E]) ∧ R V E w') :
    Calls Tryz.prog 10 #[v, .agg #[.int .i64 bx, .int .i64 by_, .int .i64 bz]] w fun e w' => ∃ V E, e = .returned (.tuple #[V, .int .i64 E]) ∧ R V E w' := by
  have hform := hl.form
  have hcv := fun W => checkVecG bx by_ bz W
  rw [hc2] at hcv
  obtain ⟨W, hW⟩ : ∃ W, W = (w.alloc (.cells #[.int .i64 bx, .int .i64 by_, .int .i64 bz] 34)) := ⟨_, rfl⟩
  have b0 : W.cell? ⟨w.heap.size, 0, none⟩ = some (.int .i64 bx) := by subst hW; go_simp
  have b1 : W.cell? ⟨w.heap.size, 1, none⟩ = some (.int .i64 by_) := by subst hW; go_simp
  have b2 : W.cell? ⟨w.heap.size, 2, none⟩ = some (.int .i64 bz) := by subst hW; go_simp
  have hBW : Below w.heap.size w W := by subst hW; exact (Below.refl _ _).alloc (Nat.le_refl _) _
  have hs : w.heap.size < W.heap.size := by subst hW; simp
  have hck := gridCheckG l v W.drew ((hl.below hBW).below (Below.refl _ _).drew) hn
  rw [hc1] at hck
  have hr : orI 0 0 0 = 0 := by decide
  have hmf : ∀ (fn : Fn) (first cap : Array Value) (w : World), (Instr.makeFunc fn first cap).run Tryz.prog w = .ok (.func fn first cap) w := fun _ _ _ _ => rfl
  have hf2 := fun blk W k0 k1 => first2_ok 0 0 blk 2 W k0 k1
  clear hl hc1 hc2 hn
  obtain ⟨A, cap, rfl⟩ : ∃ (A : Option Addr) (cap : Nat), v = .slice A l.length cap := hform
  go_enter Tryz.func10, Tryz.ntmps10
  go_wp2
  rw [← hW]
  clear hW
  go_region_held3 (fun w' => w'.cell? ⟨w.heap.size, 0, none⟩ = some (.int .i64 bx) ∧ w'.cell? ⟨w.heap.size, 1, none⟩ = some (.int .i64 by_) ∧ w'.cell? ⟨w.heap.size, 2, none⟩ = some (.int .i64 bz)) (first | exact ⟨e0, e1, e2⟩ | exact ⟨c0, c1, c2⟩ | exact ⟨b0, b1, b2⟩ | go_keep) (first
    | (go_at_call 33; refine hck.mono ?_; rintro e w2 ⟨rfl, hB2⟩; have c0 : w2.cell? ⟨w.heap.size, 0, none⟩ = some (.int .i64 bx) := (hB2.cell (p := ⟨w.heap.size, 0, none⟩) hs).trans b0; have c1 : w2.cell? ⟨w.heap.size, 1, none⟩ = some (.int .i64 by_) := (hB2.cell (p := ⟨w.heap.size, 1, none⟩) hs).trans b1; have c2 : w2.cell? ⟨w.heap.size, 2, none⟩ = some (.int .i64 bz) := (hB2.cell (p := ⟨w.heap.size, 2, none⟩) hs).trans b2; have hs2 : w.heap.size < w2.heap.size := Nat.lt_of_lt_of_le hs hB2.size)
    | (go_at_call 34; refine (hcv _).mono ?_; rintro e w3 ⟨rfl, hB3⟩; have e0 := (hB3.cell (p := ⟨w.heap.size, 0, none⟩) hs2).trans c0; have e1 := (hB3.cell (p := ⟨w.heap.size, 1, none⟩) hs2).trans c1; have e2 := (hB3.cell (p := ⟨w.heap.size, 2, none⟩) hs2).trans c2)
    | (go_at_call 32; refine (hf2 _ _ ?_ ?_).mono ?_; (go_simp); (go_simp); rintro e w5 ⟨rfl, hw5⟩; subst hw5; simp only [hr]))
  have hWe : Below W.heap.size W w2 := ⟨hB2.os, hB2.tape, hB2.output, hB2.size, hB2.block⟩
  have hWg := hWe.trans (hB3.mono hWe.size)
  have hWf := hWg.alloc hWg.size (.cells #[.int .i64 0, .int .i64 0] 28)
  have hm := hmov _ (hBW.trans (hWf.mono hBW.size)) (Nat.lt_of_lt_of_le hs hWf.size) ((hWf.cell (p := ⟨w.heap.size, 0, none⟩) hs).trans b0) ((hWf.cell (p := ⟨w.heap.size, 1, none⟩) hs).trans b1) ((hWf.cell (p := ⟨w.heap.size, 2, none⟩) hs).trans b2)
  clear hB2 hB3 hWe hWg hWf hck hcv hmov b0 b1 b2 c0 c1 c2 e0 e1 e2 hs2
  go_wp2_with (go_at_call 35; refine hm.mono ?_; rintro e w7 ⟨V, E, rfl, hR⟩)
  go_ret2
  exact ⟨V, E, rfl, hR⟩
end Go.Proofs
end

section
/- Turn and Mirror of any list of cells, with any numbers: the first error, or what moved says. -/
namespace Go.Proofs
open Go.RowKit
set_option maxHeartbeats 8000000
set_option maxRecDepth 1000000
theorem turnX_bad (l : List Cel) (v : Value) (n : Int) (ox oy oz : Int) (w : World) (hl : Sl w v l) (hn : l.length ≤ maxLen) (a1 a2 a3 : Int) (hc1 : chkI l = a1) (hc2 : withinI n 0 23 = a2) (hc3 : vecI (ox, oy, oz) 1000 = a3) (h0 : orI a1 a2 a3 ≠ 0) :
    Calls Tryz.prog 18 #[v, .int .i64 n, .agg #[.int .i64 ox, .int .i64 oy, .int .i64 oz]] w fun e w' => e = .returned (.tuple #[.slice none 0 0, .int .i64 (orI a1 a2 a3)]) ∧ Below w.heap.size w w' := by
  have hwj := hc2
  have hform := hl.form
  have hcc := fun W => checkCell_ok ox oy oz W
  rw [hc3] at hcc
  obtain ⟨W, hW⟩ : ∃ W, W = (w.alloc (.cells #[.int .i64 ox, .int .i64 oy, .int .i64 oz] 34)) := ⟨_, rfl⟩
  have b0 : W.cell? ⟨w.heap.size, 0, none⟩ = some (.int .i64 ox) := by subst hW; go_simp
  have b1 : W.cell? ⟨w.heap.size, 1, none⟩ = some (.int .i64 oy) := by subst hW; go_simp
  have b2 : W.cell? ⟨w.heap.size, 2, none⟩ = some (.int .i64 oz) := by subst hW; go_simp
  have hBW : Below w.heap.size w W := by subst hW; exact (Below.refl _ _).alloc (Nat.le_refl _) _
  have hs : w.heap.size < W.heap.size := by subst hW; simp
  have hck := gridCheckG l v W.drew ((hl.below hBW).below (Below.refl _ _).drew) hn
  rw [hc1] at hck
  have hne : (orI a1 a2 a3 != 0) = true := by rw [bne_iff_ne]; exact h0
  generalize hr : orI a1 a2 a3 = r at hne ⊢
  clear hl hc1 hc2 hc3 h0 hn
  have hf3 := fun blk W k0 k1 k2 => first3_ok a1 a2 a3 blk 3 W k0 k1 k2
  obtain ⟨A, cap, rfl⟩ : ∃ (A : Option Addr) (cap : Nat), v = .slice A l.length cap := hform
  go_enter Tryz.func18, Tryz.ntmps18
  go_wp2
  rw [← hW]
  clear hW
  go_region_held3 (fun w' => w'.cell? ⟨w.heap.size, 0, none⟩ = some (.int .i64 ox) ∧ w'.cell? ⟨w.heap.size, 1, none⟩ = some (.int .i64 oy) ∧ w'.cell? ⟨w.heap.size, 2, none⟩ = some (.int .i64 oz)) (first | exact ⟨e0, e1, e2⟩ | exact ⟨c0, c1, c2⟩ | exact ⟨b0, b1, b2⟩ | go_keep) (first
    | (go_at_call 33; refine hck.mono ?_; rintro e w2 ⟨rfl, hB2⟩; have c0 : w2.cell? ⟨w.heap.size, 0, none⟩ = some (.int .i64 ox) := (hB2.cell (p := ⟨w.heap.size, 0, none⟩) hs).trans b0; have c1 : w2.cell? ⟨w.heap.size, 1, none⟩ = some (.int .i64 oy) := (hB2.cell (p := ⟨w.heap.size, 1, none⟩) hs).trans b1; have c2 : w2.cell? ⟨w.heap.size, 2, none⟩ = some (.int .i64 oz) := (hB2.cell (p := ⟨w.heap.size, 2, none⟩) hs).trans b2; have hs2 : w.heap.size < w2.heap.size := Nat.lt_of_lt_of_le hs hB2.size)
    | (go_at_call 43; refine (within_ok _ _ _ _).mono ?_; rintro e w3 ⟨rfl, hw3⟩; subst hw3; try simp only [hwj])
    | (go_at_call 49; refine (hcc _).mono ?_; rintro e w4 ⟨rfl, hB4⟩; have e0 := (hB4.cell (p := ⟨w.heap.size, 0, none⟩) hs2).trans c0; have e1 := (hB4.cell (p := ⟨w.heap.size, 1, none⟩) hs2).trans c1; have e2 := (hB4.cell (p := ⟨w.heap.size, 2, none⟩) hs2).trans c2)
    | (go_at_call 32; refine (hf3 _ _ ?_ ?_ ?_).mono ?_; (go_simp); (go_simp); (go_simp); rintro e w5 ⟨rfl, hw5⟩; subst hw5; try simp only [hr]))
  have hWe : Below W.heap.size W w3 := ⟨hB2.os, hB2.tape, hB2.output, hB2.size, hB2.block⟩
  have hWg := hWe.trans (hB4.mono hWe.size)
  have hWf := hWg.alloc hWg.size (.cells #[.int .i64 a1, .int .i64 a2, .int .i64 a3] 28)
  clear hB2 hB4 hWe hWg hck hwj hcc b0 b1 b2 c0 c1 c2 e0 e1 e2 hs2
  go_wp2
  go_ret2
  exact ⟨rfl, hBW.trans (hWf.mono hBW.size)⟩
theorem turnX_via (l : List Cel) (v : Value) (n : Nat) (ox oy oz : Int) (w : World) (hl : Sl w v l) (hn : l.length ≤ maxLen) (hn24 : n < 24) (hc1 : chkI l = 0) (hc3 : vecI (ox, oy, oz) 1000 = 0) (R : Value → Int → World → Prop)
    (hmov : ∀ W6, Below w.heap.size w W6 → w.heap.size < W6.heap.size → W6.cell? ⟨w.heap.size, 0, none⟩ = some (.int .i64 ox) → W6.cell? ⟨w.heap.size, 1, none⟩ = some (.int .i64 oy) → W6.cell? ⟨w.heap.size, 2, none⟩ = some (.int .i64 oz) → Calls Tryz.prog 35 #[v, .func (.func 51) #[] #[.pointer (some ⟨W6.heap.size, 0, none⟩), .pointer (some ⟨w.heap.size, 0, none⟩)]] (W6.alloc (.cells #[.int .i64 (turnA n).1, .int .i64 (turnA n).2.1, .int .i64 (turnA n).2.2] 87)) fun e w' => ∃ V E, e = .returned (.tuple #[V, .int .i64 E]) ∧ R V E w') :
    Calls Tryz.prog 18 #[v, .int .i64 n, .agg #[.int .i64 ox, .int .i64 oy, .int .i64 oz]] w fun e w' => ∃ V E, e = .returned (.tuple #[V, .int .i64 E]) ∧ R V E w' := by
  have hix := fun W => turn_index n hn24 W
  generalize turnA n = tn at hix hmov
  obtain ⟨a, b, c⟩ := tn
  dsimp only at hix hmov
  have hwj : withinI n 0 23 = 0 := by unfold withinI; rw [if_neg (by omega)]
  have hmf : ∀ (fn : Fn) (first cap : Array Value) (w : World), (Instr.makeFunc fn first cap).run Tryz.prog w = .ok (.func fn first cap) w := fun _ _ _ _ => rfl
  have hform := hl.form
  have hcc := fun W => checkCell_ok ox oy oz W
  rw [hc3] at hcc
  obtain ⟨W, hW⟩ : ∃ W, W = (w.alloc (.cells #[.int .i64 ox, .int .i64 oy, .int .i64 oz] 34)) := ⟨_, rfl⟩
  have b0 : W.cell? ⟨w.heap.size, 0, none⟩ = some (.int .i64 ox) := by subst hW; go_simp
  have b1 : W.cell? ⟨w.heap.size, 1, none⟩ = some (.int .i64 oy) := by subst hW; go_simp
  have b2 : W.cell? ⟨w.heap.size, 2, none⟩ = some (.int .i64 oz) := by subst hW; go_simp
  have hBW : Below w.heap.size w W := by subst hW; exact (Below.refl _ _).alloc (Nat.le_refl _) _
  have hs : w.heap.size < W.heap.size := by subst hW; simp
  have hck := gridCheckG l v W.drew ((hl.below hBW).below (Below.refl _ _).drew) hn
  rw [hc1] at hck
  have hr : orI 0 0 0 = 0 := by decide
  clear hl hc1 hc3 hn hn24
  have hf3 := fun blk W k0 k1 k2 => first3_ok 0 0 0 blk 3 W k0 k1 k2
  obtain ⟨A, cap, rfl⟩ : ∃ (A : Option Addr) (cap : Nat), v = .slice A l.length cap := hform
  go_enter Tryz.func18, Tryz.ntmps18
  go_wp2
  rw [← hW]
  clear hW
  go_region_held3 (fun w' => w'.cell? ⟨w.heap.size, 0, none⟩ = some (.int .i64 ox) ∧ w'.cell? ⟨w.heap.size, 1, none⟩ = some (.int .i64 oy) ∧ w'.cell? ⟨w.heap.size, 2, none⟩ = some (.int .i64 oz)) (first | exact ⟨e0, e1, e2⟩ | exact ⟨c0, c1, c2⟩ | exact ⟨b0, b1, b2⟩ | go_keep) (first
    | (go_at_call 33; refine hck.mono ?_; rintro e w2 ⟨rfl, hB2⟩; have c0 : w2.cell? ⟨w.heap.size, 0, none⟩ = some (.int .i64 ox) := (hB2.cell (p := ⟨w.heap.size, 0, none⟩) hs).trans b0; have c1 : w2.cell? ⟨w.heap.size, 1, none⟩ = some (.int .i64 oy) := (hB2.cell (p := ⟨w.heap.size, 1, none⟩) hs).trans b1; have c2 : w2.cell? ⟨w.heap.size, 2, none⟩ = some (.int .i64 oz) := (hB2.cell (p := ⟨w.heap.size, 2, none⟩) hs).trans b2; have hs2 : w.heap.size < w2.heap.size := Nat.lt_of_lt_of_le hs hB2.size)
    | (go_at_call 43; refine (within_ok _ _ _ _).mono ?_; rintro e w3 ⟨rfl, hw3⟩; subst hw3; try simp only [hwj])
    | (go_at_call 49; refine (hcc _).mono ?_; rintro e w4 ⟨rfl, hB4⟩; have e0 := (hB4.cell (p := ⟨w.heap.size, 0, none⟩) hs2).trans c0; have e1 := (hB4.cell (p := ⟨w.heap.size, 1, none⟩) hs2).trans c1; have e2 := (hB4.cell (p := ⟨w.heap.size, 2, none⟩) hs2).trans c2)
    | (go_at_call 32; refine (hf3 _ _ ?_ ?_ ?_).mono ?_; (go_simp); (go_simp); (go_simp); rintro e w5 ⟨rfl, hw5⟩; subst hw5; try simp only [hr]))
  have hWe : Below W.heap.size W w3 := ⟨hB2.os, hB2.tape, hB2.output, hB2.size, hB2.block⟩
  have hWg := hWe.trans (hB4.mono hWe.size)
  have hWf := hWg.alloc hWg.size (.cells #[.int .i64 0, .int .i64 0, .int .i64 0] 28)
  have hm := fun W6 (h6 : Below W.heap.size W W6) => hmov W6 (hBW.trans (h6.mono hBW.size)) (Nat.lt_of_lt_of_le hs h6.size) ((h6.cell (p := ⟨w.heap.size, 0, none⟩) hs).trans b0) ((h6.cell (p := ⟨w.heap.size, 1, none⟩) hs).trans b1) ((h6.cell (p := ⟨w.heap.size, 2, none⟩) hs).trans b2)
  clear hB2 hB4 hWe hWg hck hwj hcc hmov b0 b1 b2 c0 c1 c2 e0 e1 e2 hs2
  go_wp2_with (first
    | (go_at_call 50; refine (turns_ok _).mono ?_; rintro e w9 ⟨rfl, hB9⟩)
    | (go_at_call 35; refine (hm w9 (hWf.trans (hB9.mono hWf.size))).mono ?_; rintro e w7 ⟨V, E, rfl, hR⟩))
  go_ret2
  exact ⟨V, E, rfl, hR⟩
end Go.Proofs
end
