/- Shift of any list of cells by any vector: the first error, or the moved set. -/
import Derived.Test.YtllameiilljelaaMovedX
namespace Go.Proofs
open Go.RowKit
set_option maxHeartbeats 8000000
set_option maxRecDepth 1000000
theorem checkVecG (x y z : Int) (w : World) : Calls Try.prog 29 #[.agg #[.int .i64 x, .int .i64 y, .int .i64 z], .int .i64 2000] w fun e w' => e = .returned (.int .i64 (vecI (x, y, z) 2000)) ∧ Below w.heap.size w w' := by
  refine (checkVector_ok x y z 2000 (by decide) w).mono ?_
  rintro e w' ⟨h, q, os, rfl⟩
  exact ⟨h, below_grow _ _ _⟩
theorem shiftG_bad (l : List Cel) (v : Value) (bx by_ bz : Int) (w : World) (hl : Sl w v l) (hn : l.length ≤ maxLen) (a1 a2 : Int) (hc1 : chkI l = a1) (hc2 : vecI (bx, by_, bz) 2000 = a2) (h0 : orI a1 a2 0 ≠ 0) :
    Calls Try.prog 9 #[v, .agg #[.int .i64 bx, .int .i64 by_, .int .i64 bz]] w fun e w' => e = .returned (.tuple #[.slice none 0 0, .int .i64 (orI a1 a2 0)]) ∧ Below w.heap.size w w' := by
  have hform := hl.form
  have hcv := fun W => checkVecG bx by_ bz W
  rw [hc2] at hcv
  obtain ⟨W, hW⟩ : ∃ W, W = (w.alloc (.cells #[.int .i64 bx, .int .i64 by_, .int .i64 bz] 26)) := ⟨_, rfl⟩
  have b0 : W.cell? ⟨w.heap.size, 0, none⟩ = some (.int .i64 bx) := by subst hW; go_simp
  have b1 : W.cell? ⟨w.heap.size, 1, none⟩ = some (.int .i64 by_) := by subst hW; go_simp
  have b2 : W.cell? ⟨w.heap.size, 2, none⟩ = some (.int .i64 bz) := by subst hW; go_simp
  have hBW : Below w.heap.size w W := by subst hW; exact (Below.refl _ _).alloc (Nat.le_refl _) _
  have hs : w.heap.size < W.heap.size := by subst hW; simp
  have hck := gridCheckG l v W.drew ((hl.below hBW).below (Below.refl _ _).drew) hn
  rw [hc1] at hck
  have hne : (orI a1 a2 0 != 0) = true := by rw [bne_iff_ne]; exact h0
  generalize hr : orI a1 a2 0 = r at hne ⊢
  have hf2 := fun blk W k0 k1 => first2_ok a1 a2 blk 2 W k0 k1
  clear hl hc1 hc2 h0 hn
  obtain ⟨A, cap, rfl⟩ : ∃ (A : Option Addr) (cap : Nat), v = .slice A l.length cap := hform
  go_enter Try.func9, Try.ntmps9
  go_wp2
  rw [← hW]
  clear hW
  go_region_held3 (fun w' => w'.cell? ⟨w.heap.size, 0, none⟩ = some (.int .i64 bx) ∧ w'.cell? ⟨w.heap.size, 1, none⟩ = some (.int .i64 by_) ∧ w'.cell? ⟨w.heap.size, 2, none⟩ = some (.int .i64 bz)) (first | exact ⟨e0, e1, e2⟩ | exact ⟨c0, c1, c2⟩ | exact ⟨b0, b1, b2⟩ | go_keep) (first
    | (go_at_call 22; refine hck.mono ?_; rintro e w2 ⟨rfl, hB2⟩; have c0 : w2.cell? ⟨w.heap.size, 0, none⟩ = some (.int .i64 bx) := (hB2.cell (p := ⟨w.heap.size, 0, none⟩) hs).trans b0; have c1 : w2.cell? ⟨w.heap.size, 1, none⟩ = some (.int .i64 by_) := (hB2.cell (p := ⟨w.heap.size, 1, none⟩) hs).trans b1; have c2 : w2.cell? ⟨w.heap.size, 2, none⟩ = some (.int .i64 bz) := (hB2.cell (p := ⟨w.heap.size, 2, none⟩) hs).trans b2; have hs2 : w.heap.size < w2.heap.size := Nat.lt_of_lt_of_le hs hB2.size)
    | (go_at_call 29; refine (hcv _).mono ?_; rintro e w3 ⟨rfl, hB3⟩; have e0 := (hB3.cell (p := ⟨w.heap.size, 0, none⟩) hs2).trans c0; have e1 := (hB3.cell (p := ⟨w.heap.size, 1, none⟩) hs2).trans c1; have e2 := (hB3.cell (p := ⟨w.heap.size, 2, none⟩) hs2).trans c2)
    | (go_at_call 28; refine (hf2 _ _ ?_ ?_).mono ?_; (go_simp); (go_simp); rintro e w5 ⟨rfl, hw5⟩; subst hw5; simp only [hr]))
  have hWe : Below W.heap.size W w2 := ⟨hB2.os, hB2.tape, hB2.output, hB2.size, hB2.block⟩
  have hWg := hWe.trans (hB3.mono hWe.size)
  have hWf := hWg.alloc hWg.size (.cells #[.int .i64 a1, .int .i64 a2] 30)
  clear hB2 hB3 hWe hWg hck hcv b0 b1 b2 c0 c1 c2 e0 e1 e2 hs2
  go_wp2
  go_ret2
  exact ⟨rfl, hBW.trans (hWf.mono hBW.size)⟩
theorem shiftG_via (l : List Cel) (v : Value) (bx by_ bz : Int) (w : World) (hl : Sl w v l) (hn : l.length ≤ maxLen) (hc1 : chkI l = 0) (hc2 : vecI (bx, by_, bz) 2000 = 0) (R : Value → Int → World → Prop)
    (hmov : ∀ W5, Below w.heap.size w W5 → w.heap.size < W5.heap.size → W5.cell? ⟨w.heap.size, 0, none⟩ = some (.int .i64 bx) → W5.cell? ⟨w.heap.size, 1, none⟩ = some (.int .i64 by_) → W5.cell? ⟨w.heap.size, 2, none⟩ = some (.int .i64 bz) → Calls Try.prog 30 #[v, .func (.func 31) #[] #[.pointer (some ⟨w.heap.size, 0, none⟩)]] W5 fun e w' => ∃ V E, e = .returned (.tuple #[V, .int .i64 E]) ∧ R V E w') :
    Calls Try.prog 9 #[v, .agg #[.int .i64 bx, .int .i64 by_, .int .i64 bz]] w fun e w' => ∃ V E, e = .returned (.tuple #[V, .int .i64 E]) ∧ R V E w' := by
  have hform := hl.form
  have hcv := fun W => checkVecG bx by_ bz W
  rw [hc2] at hcv
  obtain ⟨W, hW⟩ : ∃ W, W = (w.alloc (.cells #[.int .i64 bx, .int .i64 by_, .int .i64 bz] 26)) := ⟨_, rfl⟩
  have b0 : W.cell? ⟨w.heap.size, 0, none⟩ = some (.int .i64 bx) := by subst hW; go_simp
  have b1 : W.cell? ⟨w.heap.size, 1, none⟩ = some (.int .i64 by_) := by subst hW; go_simp
  have b2 : W.cell? ⟨w.heap.size, 2, none⟩ = some (.int .i64 bz) := by subst hW; go_simp
  have hBW : Below w.heap.size w W := by subst hW; exact (Below.refl _ _).alloc (Nat.le_refl _) _
  have hs : w.heap.size < W.heap.size := by subst hW; simp
  have hck := gridCheckG l v W.drew ((hl.below hBW).below (Below.refl _ _).drew) hn
  rw [hc1] at hck
  have hr : orI 0 0 0 = 0 := by decide
  have hmf : ∀ (fn : Fn) (first cap : Array Value) (w : World), (Instr.makeFunc fn first cap).run Try.prog w = .ok (.func fn first cap) w := fun _ _ _ _ => rfl
  have hf2 := fun blk W k0 k1 => first2_ok 0 0 blk 2 W k0 k1
  clear hl hc1 hc2 hn
  obtain ⟨A, cap, rfl⟩ : ∃ (A : Option Addr) (cap : Nat), v = .slice A l.length cap := hform
  go_enter Try.func9, Try.ntmps9
  go_wp2
  rw [← hW]
  clear hW
  go_region_held3 (fun w' => w'.cell? ⟨w.heap.size, 0, none⟩ = some (.int .i64 bx) ∧ w'.cell? ⟨w.heap.size, 1, none⟩ = some (.int .i64 by_) ∧ w'.cell? ⟨w.heap.size, 2, none⟩ = some (.int .i64 bz)) (first | exact ⟨e0, e1, e2⟩ | exact ⟨c0, c1, c2⟩ | exact ⟨b0, b1, b2⟩ | go_keep) (first
    | (go_at_call 22; refine hck.mono ?_; rintro e w2 ⟨rfl, hB2⟩; have c0 : w2.cell? ⟨w.heap.size, 0, none⟩ = some (.int .i64 bx) := (hB2.cell (p := ⟨w.heap.size, 0, none⟩) hs).trans b0; have c1 : w2.cell? ⟨w.heap.size, 1, none⟩ = some (.int .i64 by_) := (hB2.cell (p := ⟨w.heap.size, 1, none⟩) hs).trans b1; have c2 : w2.cell? ⟨w.heap.size, 2, none⟩ = some (.int .i64 bz) := (hB2.cell (p := ⟨w.heap.size, 2, none⟩) hs).trans b2; have hs2 : w.heap.size < w2.heap.size := Nat.lt_of_lt_of_le hs hB2.size)
    | (go_at_call 29; refine (hcv _).mono ?_; rintro e w3 ⟨rfl, hB3⟩; have e0 := (hB3.cell (p := ⟨w.heap.size, 0, none⟩) hs2).trans c0; have e1 := (hB3.cell (p := ⟨w.heap.size, 1, none⟩) hs2).trans c1; have e2 := (hB3.cell (p := ⟨w.heap.size, 2, none⟩) hs2).trans c2)
    | (go_at_call 28; refine (hf2 _ _ ?_ ?_).mono ?_; (go_simp); (go_simp); rintro e w5 ⟨rfl, hw5⟩; subst hw5; simp only [hr]))
  have hWe : Below W.heap.size W w2 := ⟨hB2.os, hB2.tape, hB2.output, hB2.size, hB2.block⟩
  have hWg := hWe.trans (hB3.mono hWe.size)
  have hWf := hWg.alloc hWg.size (.cells #[.int .i64 0, .int .i64 0] 30)
  have hm := hmov _ (hBW.trans (hWf.mono hBW.size)) (Nat.lt_of_lt_of_le hs hWf.size) ((hWf.cell (p := ⟨w.heap.size, 0, none⟩) hs).trans b0) ((hWf.cell (p := ⟨w.heap.size, 1, none⟩) hs).trans b1) ((hWf.cell (p := ⟨w.heap.size, 2, none⟩) hs).trans b2)
  clear hB2 hB3 hWe hWg hWf hck hcv hmov b0 b1 b2 c0 c1 c2 e0 e1 e2 hs2
  go_wp2_with (go_at_call 30; refine hm.mono ?_; rintro e w7 ⟨V, E, rfl, hR⟩)
  go_ret2
  exact ⟨V, E, rfl, hR⟩
end Go.Proofs
