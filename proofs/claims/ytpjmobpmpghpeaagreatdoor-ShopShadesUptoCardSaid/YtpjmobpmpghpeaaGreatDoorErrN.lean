import Derived.Test.YtpjmobpmpghpeaaGreatDoorNeaD
import Derived.Test.YtpjmobpmpghpeaaGreatDoorShdR
/- Shades, exactly: Distance, Nearest and Mixed of the program where there is an error. -/
namespace Go.Proofs
open Go.RowKit Go.MapKept
set_option maxHeartbeats 16000000
set_option maxRecDepth 1000000
theorem shGuideN_ok (ws : Cel) (v : Value) (l : List TabT) (n : Int) (w : World) (hl : SlT w v l) (hn : GuideX ws l n) :
    Calls Tryz.prog 29 #[gdV ws v] w fun e w' => e = .returned (.int .i64 n) ∧ Below w.heap.size w w' :=
  (shGuideX_ok ws v l w hl).mono fun e w' ⟨n', he, h, hB⟩ => ⟨by rw [he, h.same hn], hB⟩
theorem shDistanceE_ok (ws a b : Cel) (v : Value) (l : List TabT) (n : Int) (w : World) (hl : SlT w v l) (hn : GuideX ws l n) (he : or3 n (colE a) (colE b) ≠ 0) :
    Calls Tryz.prog 21 #[gdV ws v, colV a, colV b] w fun e w' => e = .returned (.tuple #[.int .i64 0, .int .i64 (or3 n (colE a) (colE b))]) ∧ Below w.heap.size w w' := by
  have kG := fun W (h : SlT W v l) => shGuideN_ok ws v l n W h hn
  have kA := fun W => shColourX_ok a W
  have kB := fun W => shColourX_ok b W
  generalize colE a = ca at kA he ⊢
  generalize colE b = cb at kB he ⊢
  clear hn
  obtain ⟨A, cap, rfl⟩ := hl.form
  obtain ⟨x, y, z⟩ := ws
  obtain ⟨p, q, r⟩ := a
  obtain ⟨s, t, u⟩ := b
  have ho := fun blk W => shFirst3 n ca cb blk 3 W
  generalize or3 n ca cb = er at ho he ⊢
  have hre : (er != 0) = true := by simpa using he
  clear he
  unfold gdV colV at *
  dsimp only at *
  obtain ⟨W0, hW⟩ : ∃ W0, W0 = ((w.alloc (.cells #[.int .i64 x, .int .i64 y, .int .i64 z, .slice A l.length cap] 50)).alloc (.cells #[.int .i64 p, .int .i64 q, .int .i64 r] 47)).alloc (.cells #[.int .i64 s, .int .i64 t, .int .i64 u] 47) := ⟨_, rfl⟩
  have hB0 : Below w.heap.size w W0 := by subst hW; exact (((Below.refl _ _).alloc (Nat.le_refl _) _).alloc (by simp) _).alloc (by simp; omega) _
  have hz0 : W0.heap.size = w.heap.size + 1 + 1 + 1 := by subst hW; simp
  have hrow : W0.heap[w.heap.size]? = some (.cells #[.int .i64 x, .int .i64 y, .int .i64 z, .slice A l.length cap] 50 (0, 0)) := by subst hW; exact (Below.heap_alloc _ _ _ (by simp; omega)).trans ((Below.heap_alloc _ _ _ (by simp)).trans (heap_alloc_new w _))
  have hcol : W0.heap[w.heap.size + 1]? = some (.cells #[.int .i64 p, .int .i64 q, .int .i64 r] 47 (0, 0)) := by
    have := heap_alloc_new (w.alloc (.cells #[.int .i64 x, .int .i64 y, .int .i64 z, .slice A l.length cap] 50)) (.cells #[.int .i64 p, .int .i64 q, .int .i64 r] 47)
    rw [hW, Below.heap_alloc _ _ _ (by simp)]
    simpa using this
  have hcol2 : W0.heap[w.heap.size + 1 + 1]? = some (.cells #[.int .i64 s, .int .i64 t, .int .i64 u] 47 (0, 0)) := by
    have := heap_alloc_new ((w.alloc (.cells #[.int .i64 x, .int .i64 y, .int .i64 z, .slice A l.length cap] 50)).alloc (.cells #[.int .i64 p, .int .i64 q, .int .i64 r] 47)) (.cells #[.int .i64 s, .int .i64 t, .int .i64 u] 47)
    rw [← hW] at this
    simpa using this
  have kk : ∀ V, Below W0.heap.size W0 V → (V.cell? ⟨w.heap.size, 0, none⟩ = some (.int .i64 x) ∧ V.cell? ⟨w.heap.size, 1, none⟩ = some (.int .i64 y) ∧ V.cell? ⟨w.heap.size, 2, none⟩ = some (.int .i64 z) ∧ V.cell? ⟨w.heap.size, 3, none⟩ = some (.slice A l.length cap)) ∧ (V.cell? ⟨w.heap.size + 1, 0, none⟩ = some (.int .i64 p) ∧ V.cell? ⟨w.heap.size + 1, 1, none⟩ = some (.int .i64 q) ∧ V.cell? ⟨w.heap.size + 1, 2, none⟩ = some (.int .i64 r)) ∧ (V.cell? ⟨w.heap.size + 1 + 1, 0, none⟩ = some (.int .i64 s) ∧ V.cell? ⟨w.heap.size + 1 + 1, 1, none⟩ = some (.int .i64 t) ∧ V.cell? ⟨w.heap.size + 1 + 1, 2, none⟩ = some (.int .i64 u)) := fun V h => ⟨four_cells ((h.block _ (by omega)).trans hrow), three_cellsS ((h.block _ (by omega)).trans hcol), three_cellsS ((h.block _ (by omega)).trans hcol2)⟩
  have hD := (Below.refl W0.heap.size W0).drew
  have hky := kk _ hD
  have ks : ∀ V, Below W0.heap.size W0 V → SlT V (.slice A l.length cap) l := fun V h => hl.below (hB0.trans (h.mono hB0.size))
  clear hl hrow hcol hcol2
  go_enter Tryz.func21, Tryz.ntmps21
  go_wp2_with fail
  rw [← hW]
  clear hW
  go_region_held3 (fun V => (V.cell? ⟨w.heap.size, 0, none⟩ = some (.int .i64 x) ∧ V.cell? ⟨w.heap.size, 1, none⟩ = some (.int .i64 y) ∧ V.cell? ⟨w.heap.size, 2, none⟩ = some (.int .i64 z) ∧ V.cell? ⟨w.heap.size, 3, none⟩ = some (.slice A l.length cap)) ∧ (V.cell? ⟨w.heap.size + 1, 0, none⟩ = some (.int .i64 p) ∧ V.cell? ⟨w.heap.size + 1, 1, none⟩ = some (.int .i64 q) ∧ V.cell? ⟨w.heap.size + 1, 2, none⟩ = some (.int .i64 r)) ∧ (V.cell? ⟨w.heap.size + 1 + 1, 0, none⟩ = some (.int .i64 s) ∧ V.cell? ⟨w.heap.size + 1 + 1, 1, none⟩ = some (.int .i64 t) ∧ V.cell? ⟨w.heap.size + 1 + 1, 2, none⟩ = some (.int .i64 u))) (first | exact hky | exact hkyA | go_keep)
    (first
      | (go_at_call 29; refine (kG _ (ks _ hD)).mono ?_; rintro e v1 ⟨rfl, hQ1⟩; have hX1 := hD.trans (hQ1.mono hD.size); have hky := kk _ hX1)
      | (go_at_call 55; with_reducible refine (kA _).mono ?_; rintro e v2 ⟨rfl, hQ2⟩; have hX2 := hX1.trans (hQ2.mono hX1.size); have hky := kk _ hX2)
      | (go_at_call 55; with_reducible refine (kB _).mono ?_; rintro e v4 ⟨rfl, hQ4⟩; have hX4 := hX2.trans (hQ4.mono hX2.size); have hky := kk _ hX4; have hX3 := hX4.alloc hX4.size (.cells #[.int .i64 n, .int .i64 ca, .int .i64 cb] 30); have hkyA := kk _ hX3)
      | (go_at_call 49; refine (ho _ _ ?_ ?_ ?_).mono ?_; (go_simp); (go_simp); (go_simp); rintro e w5 ⟨rfl, rfl⟩))
  rename_i hHeld
  clear hHeld hkyA hky kG kA kB
  generalize v4.alloc (.cells #[.int .i64 n, .int .i64 ca, .int .i64 cb] 30) = v3 at hX3 ⊢
  obtain ⟨⟨c0, c1, c2, c3⟩, ⟨d0, d1, d2⟩, e0, e1, e2⟩ := kk _ hX3
  have hB3 := hB0.trans (hX3.mono hB0.size)
  clear hX1 hX2 hX4 hQ1 hQ2 hQ4 hD ks ho
  go_wp2
  go_ret2
  exact ⟨rfl, hB3⟩
theorem shNearestE_ok (ws c : Cel) (v : Value) (l : List TabT) (n : Int) (w : World) (hl : SlT w v l) (hn : GuideX ws l n) (he : or3 n (colE c) 0 ≠ 0) :
    Calls Tryz.prog 22 #[gdV ws v, colV c] w fun e w' => e = .returned (.tuple #[.int .i64 0, .int .i64 (or3 n (colE c) 0)]) ∧ Below w.heap.size w w' := by
  have kG := fun W (h : SlT W v l) => shGuideN_ok ws v l n W h hn
  have kC := fun W => shColourX_ok c W
  generalize colE c = ca at kC he ⊢
  clear hn
  obtain ⟨A, cap, rfl⟩ := hl.form
  obtain ⟨x, y, z⟩ := ws
  obtain ⟨p, q, r⟩ := c
  have ho := fun blk W => shFirst2 n ca blk 2 W
  generalize or3 n ca 0 = er at ho he ⊢
  have hre : (er != 0) = true := by simpa using he
  clear he
  unfold gdV colV at *
  dsimp only at *
  obtain ⟨W0, hW⟩ : ∃ W0, W0 = (w.alloc (.cells #[.int .i64 x, .int .i64 y, .int .i64 z, .slice A l.length cap] 50)).alloc (.cells #[.int .i64 p, .int .i64 q, .int .i64 r] 47) := ⟨_, rfl⟩
  have hB0 : Below w.heap.size w W0 := by subst hW; exact ((Below.refl _ _).alloc (Nat.le_refl _) _).alloc (by simp) _
  have hz0 : W0.heap.size = w.heap.size + 1 + 1 := by subst hW; simp
  have hrow : W0.heap[w.heap.size]? = some (.cells #[.int .i64 x, .int .i64 y, .int .i64 z, .slice A l.length cap] 50 (0, 0)) := by subst hW; exact (Below.heap_alloc _ _ _ (by simp)).trans (heap_alloc_new w _)
  have hcol : W0.heap[w.heap.size + 1]? = some (.cells #[.int .i64 p, .int .i64 q, .int .i64 r] 47 (0, 0)) := by
    have := heap_alloc_new (w.alloc (.cells #[.int .i64 x, .int .i64 y, .int .i64 z, .slice A l.length cap] 50)) (.cells #[.int .i64 p, .int .i64 q, .int .i64 r] 47)
    rw [← hW] at this
    simpa using this
  have kk : ∀ V, Below W0.heap.size W0 V → (V.cell? ⟨w.heap.size, 0, none⟩ = some (.int .i64 x) ∧ V.cell? ⟨w.heap.size, 1, none⟩ = some (.int .i64 y) ∧ V.cell? ⟨w.heap.size, 2, none⟩ = some (.int .i64 z) ∧ V.cell? ⟨w.heap.size, 3, none⟩ = some (.slice A l.length cap)) ∧ V.cell? ⟨w.heap.size + 1, 0, none⟩ = some (.int .i64 p) ∧ V.cell? ⟨w.heap.size + 1, 1, none⟩ = some (.int .i64 q) ∧ V.cell? ⟨w.heap.size + 1, 2, none⟩ = some (.int .i64 r) := fun V h => ⟨four_cells ((h.block _ (by omega)).trans hrow), three_cellsS ((h.block _ (by omega)).trans hcol)⟩
  have hD := (Below.refl W0.heap.size W0).drew
  have hky := kk _ hD
  have ks : ∀ V, Below W0.heap.size W0 V → SlT V (.slice A l.length cap) l := fun V h => hl.below (hB0.trans (h.mono hB0.size))
  clear hl hrow hcol
  go_enter Tryz.func22, Tryz.ntmps22
  go_wp2_with fail
  rw [← hW]
  clear hW
  go_region_held3 (fun w' => (w'.cell? ⟨w.heap.size, 0, none⟩ = some (.int .i64 x) ∧ w'.cell? ⟨w.heap.size, 1, none⟩ = some (.int .i64 y) ∧ w'.cell? ⟨w.heap.size, 2, none⟩ = some (.int .i64 z) ∧ w'.cell? ⟨w.heap.size, 3, none⟩ = some (.slice A l.length cap)) ∧ w'.cell? ⟨w.heap.size + 1, 0, none⟩ = some (.int .i64 p) ∧ w'.cell? ⟨w.heap.size + 1, 1, none⟩ = some (.int .i64 q) ∧ w'.cell? ⟨w.heap.size + 1, 2, none⟩ = some (.int .i64 r)) (first | exact hky | exact hkyA | go_keep)
    (first
      | (go_at_call 29; refine (kG _ (ks _ hD)).mono ?_; rintro e v1 ⟨rfl, hQ1⟩; have hX1 := hD.trans (hQ1.mono hD.size); have hky := kk _ hX1)
      | (go_at_call 55; refine (kC _).mono ?_; rintro e v2 ⟨rfl, hQ2⟩; have hX2 := hX1.trans (hQ2.mono hX1.size); have hky := kk _ hX2; have hX3 := hX2.alloc hX2.size (.cells #[.int .i64 n, .int .i64 ca] 30); have hkyA := kk _ hX3)
      | (go_at_call 49; refine (ho _ _ ?_ ?_).mono ?_; (go_simp); (go_simp); rintro e w5 ⟨rfl, rfl⟩))
  rename_i hHeld
  clear hHeld hkyA hky kG kC
  generalize v2.alloc (.cells #[.int .i64 n, .int .i64 ca] 30) = v3 at hX3 ⊢
  obtain ⟨⟨c0, c1, c2, c3⟩, d0, d1, d2⟩ := kk _ hX3
  have hB3 := hB0.trans (hX3.mono hB0.size)
  clear hX1 hX2 hQ1 hQ2 hD ks ho
  go_wp2
  go_ret2
  exact ⟨rfl, hB3⟩
theorem shBestX_ok (ws c : Cel) (v : Value) (l : List TabT) (n : Int) (w : World) (hl : SlT w v l) (hn : GuideX ws l n) (he : or3 n (colE c) (if decide ((l.length : Int) < 2) = true then 7 else 0) ≠ 0) :
    Calls Tryz.prog 23 #[gdV ws v, colV c] w fun e w' => e = .returned (.tuple #[.agg #[.int .i64 0, .int .i64 0, .int .i64 0], .int .i64 (or3 n (colE c) (if decide ((l.length : Int) < 2) = true then 7 else 0))]) ∧ Below w.heap.size w w' := by
  have kG := fun W (h : SlT W v l) => shGuideN_ok ws v l n W h hn
  have kC := fun W => shColourX_ok c W
  obtain ⟨bs, hlt2⟩ : ∃ bs, decide ((l.length : Int) < 2) = bs := ⟨_, rfl⟩
  have kW := fun W => shWhen_ok bs 7 W
  rw [hlt2] at he ⊢
  generalize colE c = ca at kC he ⊢
  generalize (if bs = true then (7 : Int) else 0) = cs at kW he ⊢
  clear hn
  obtain ⟨A, cap, rfl⟩ := hl.form
  obtain ⟨x, y, z⟩ := ws
  obtain ⟨p, q, r⟩ := c
  have ho := fun blk W => shFirst3 n ca cs blk 3 W
  generalize or3 n ca cs = er at ho he ⊢
  have hre : (er != 0) = true := by simpa using he
  clear he
  unfold gdV colV at *
  dsimp only at *
  obtain ⟨W0, hW⟩ : ∃ W0, W0 = ((w.alloc (.cells #[.int .i64 x, .int .i64 y, .int .i64 z, .slice A l.length cap] 50)).alloc (.cells #[.int .i64 p, .int .i64 q, .int .i64 r] 47)).alloc (.cells #[.int .i64 0, .int .i64 0, .int .i64 0] 60) := ⟨_, rfl⟩
  have hB0 : Below w.heap.size w W0 := by subst hW; exact (((Below.refl _ _).alloc (Nat.le_refl _) _).alloc (by simp) _).alloc (by simp; omega) _
  have hz0 : W0.heap.size = w.heap.size + 1 + 1 + 1 := by subst hW; simp
  have hrow : W0.heap[w.heap.size]? = some (.cells #[.int .i64 x, .int .i64 y, .int .i64 z, .slice A l.length cap] 50 (0, 0)) := by subst hW; exact (Below.heap_alloc _ _ _ (by simp; omega)).trans ((Below.heap_alloc _ _ _ (by simp)).trans (heap_alloc_new w _))
  have hcol : W0.heap[w.heap.size + 1]? = some (.cells #[.int .i64 p, .int .i64 q, .int .i64 r] 47 (0, 0)) := by
    have := heap_alloc_new (w.alloc (.cells #[.int .i64 x, .int .i64 y, .int .i64 z, .slice A l.length cap] 50)) (.cells #[.int .i64 p, .int .i64 q, .int .i64 r] 47)
    rw [hW, Below.heap_alloc _ _ _ (by simp)]
    simpa using this
  have hres : RowK W0 60 (w.heap.size + 1 + 1) [.int .i64 0, .int .i64 0, .int .i64 0] := by
    have := heap_alloc_new ((w.alloc (.cells #[.int .i64 x, .int .i64 y, .int .i64 z, .slice A l.length cap] 50)).alloc (.cells #[.int .i64 p, .int .i64 q, .int .i64 r] 47)) (.cells #[.int .i64 0, .int .i64 0, .int .i64 0] 60)
    rw [← hW] at this
    unfold RowK
    simpa using this
  have kk : ∀ V, Below W0.heap.size W0 V → (V.cell? ⟨w.heap.size, 0, none⟩ = some (.int .i64 x) ∧ V.cell? ⟨w.heap.size, 1, none⟩ = some (.int .i64 y) ∧ V.cell? ⟨w.heap.size, 2, none⟩ = some (.int .i64 z) ∧ V.cell? ⟨w.heap.size, 3, none⟩ = some (.slice A l.length cap)) ∧ V.cell? ⟨w.heap.size + 1, 0, none⟩ = some (.int .i64 p) ∧ V.cell? ⟨w.heap.size + 1, 1, none⟩ = some (.int .i64 q) ∧ V.cell? ⟨w.heap.size + 1, 2, none⟩ = some (.int .i64 r) := fun V h => ⟨four_cells ((h.block _ (by omega)).trans hrow), three_cellsS ((h.block _ (by omega)).trans hcol)⟩
  have hD := (Below.refl W0.heap.size W0).drew
  have hky := kk _ hD
  have ks : ∀ V, Below W0.heap.size W0 V → SlT V (.slice A l.length cap) l := fun V h => hl.below (hB0.trans (h.mono hB0.size))
  have kr : ∀ V, Below W0.heap.size W0 V → RowK V 60 (w.heap.size + 1 + 1) [.int .i64 0, .int .i64 0, .int .i64 0] := fun V h => (h.block _ (by omega)).trans hres
  clear hl hrow hcol hres
  go_enter Tryz.func23, Tryz.ntmps23
  go_wp2_with fail
  rw [← hW]
  clear hW
  go_region_held3 (fun w' => (w'.cell? ⟨w.heap.size, 0, none⟩ = some (.int .i64 x) ∧ w'.cell? ⟨w.heap.size, 1, none⟩ = some (.int .i64 y) ∧ w'.cell? ⟨w.heap.size, 2, none⟩ = some (.int .i64 z) ∧ w'.cell? ⟨w.heap.size, 3, none⟩ = some (.slice A l.length cap)) ∧ w'.cell? ⟨w.heap.size + 1, 0, none⟩ = some (.int .i64 p) ∧ w'.cell? ⟨w.heap.size + 1, 1, none⟩ = some (.int .i64 q) ∧ w'.cell? ⟨w.heap.size + 1, 2, none⟩ = some (.int .i64 r)) (first | exact hky | exact hkyA | go_keep)
    (first
      | (go_at_call 29; refine (kG _ (ks _ hD)).mono ?_; rintro e v1 ⟨rfl, hQ1⟩; have hX1 := hD.trans (hQ1.mono hD.size); have hky := kk _ hX1)
      | (go_at_call 55; refine (kC _).mono ?_; rintro e v2 ⟨rfl, hQ2⟩; have hX2 := hX1.trans (hQ2.mono hX1.size); have hky := kk _ hX2; have hX3 := hX2.alloc hX2.size (.cells #[.int .i64 n, .int .i64 ca, .int .i64 cs] 30); have hkyA := kk _ hX3)
      | (go_at_call 60; refine (kW _).mono ?_; rintro e v4 ⟨rfl, rfl⟩)
      | (go_at_call 49; refine (ho _ _ ?_ ?_ ?_).mono ?_; (go_simp); (go_simp); (go_simp); rintro e w5 ⟨rfl, rfl⟩))
  rename_i hHeld
  clear hHeld hkyA hky kG kC kW
  generalize World.alloc _ (.cells #[.int .i64 n, .int .i64 ca, .int .i64 cs] 30) = v3 at hX3 ⊢
  have hr8 := kr _ hX3
  have z0 : v3.cell? ⟨w.heap.size + 1 + 1, 0, none⟩ = some (.int .i64 0) := hr8.cell (by rfl)
  have z1 : v3.cell? ⟨w.heap.size + 1 + 1, 1, none⟩ = some (.int .i64 0) := hr8.cell (by rfl)
  have z2 : v3.cell? ⟨w.heap.size + 1 + 1, 2, none⟩ = some (.int .i64 0) := hr8.cell (by rfl)
  have f0 := hr8.fz 0
  have f1 := hr8.fz 1
  have f2 := hr8.fz 2
  have hF : (((v3.setCell ⟨w.heap.size + 1 + 1, 0, none⟩ (.int .i64 0)).setCell ⟨w.heap.size + 1 + 1, 1, none⟩ (.int .i64 0)).setCell ⟨w.heap.size + 1 + 1, 2, none⟩ (.int .i64 0)).heap[w.heap.size + 1 + 1]? = some (.cells #[.int .i64 0, .int .i64 0, .int .i64 0] 60 (0, 0)) := ((hr8.set 0 (.int .i64 0)).set 1 (.int .i64 0)).set 2 (.int .i64 0)
  have hXw := hB0.trans (hX3.mono hB0.size)
  have hXf : Below w.heap.size w (((v3.setCell ⟨w.heap.size + 1 + 1, 0, none⟩ (.int .i64 0)).setCell ⟨w.heap.size + 1 + 1, 1, none⟩ (.int .i64 0)).setCell ⟨w.heap.size + 1 + 1, 2, none⟩ (.int .i64 0)) := ((hXw.setCell (p := ⟨w.heap.size + 1 + 1, 0, none⟩) (by show w.heap.size ≤ w.heap.size + 1 + 1; omega) _).setCell (p := ⟨w.heap.size + 1 + 1, 1, none⟩) (by show w.heap.size ≤ w.heap.size + 1 + 1; omega) _).setCell (p := ⟨w.heap.size + 1 + 1, 2, none⟩) (by show w.heap.size ≤ w.heap.size + 1 + 1; omega) _
  have HF := Lib.hid hF
  have HX := Lib.hid hXf
  clear hF hXf hXw hr8 hX3
  go_wp2
  refine bodyPost_ret (results_row_tmp rfl _ _ _ (w.heap.size + 1 + 1) #[.int .i64 0, .int .i64 0, .int .i64 0] rfl (run_loadVar_row _ _ _ _ _ _ _ HF.out Tryz.underlying60 rfl (by kernel_rfl))) rfl ?_
  exact ⟨rfl, HX.out⟩
end Go.Proofs
