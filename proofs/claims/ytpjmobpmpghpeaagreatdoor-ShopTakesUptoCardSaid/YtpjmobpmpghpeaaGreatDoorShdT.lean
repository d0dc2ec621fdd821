/- Shades: Far of the reference. -/
import Derived.Test.YtpjmobpmpghpeaaGreatDoorShdR
namespace Go.Proofs
open Go.RowKit Go.MapKept
set_option maxHeartbeats 16000000
set_option maxRecDepth 1000000
def mul8 (c : Cel) : Cel := (8 * c.1, 8 * c.2.1, 8 * c.2.2)
theorem mix8 (c : Cel) : mixC 8 c 0 c = mul8 c := by unfold mixC mul8; simp
theorem refFar_ok (ws : Cel) (l : List TabT) (v : Value) (i k : Nat) (e : Int) (s1 s2 : ByteArray) (c1 c2 c : Cel) (w : World) (hl : SlT w v l)
    (h1 : l[i]? = some (s1, c1)) (h2 : l[k]? = some (s2, c2)) (he : 1 ≤ e ∧ e ≤ 7) (k1 : ColOk c1 0 255) (k2 : ColOk c2 0 255) (hc : ColOk c 0 255) (hw : ColOk ws (-100) 100) :
    Calls Tryz.prog 31 #[gdV ws v, .agg #[.int .i64 i, .int .i64 k, .int .i64 e], colV c] w fun e' w' => e' = .returned (.int .i64 (distW ws (mixC (8 - e) c1 e c2) (mul8 c))) ∧ Below w.heap.size w w' := by
  have hM : ColOk (mixC (8 - e) c1 e c2) (-3000) 3000 := by
    unfold ColOk at k1 k2
    have key : ∀ x y : Int, 0 ≤ x ∧ x ≤ 255 → 0 ≤ y ∧ y ≤ 255 → -3000 ≤ (8 - e) * x + e * y ∧ (8 - e) * x + e * y ≤ 3000 := fun x y hx hy => by
      have a1 := Int.mul_le_mul_of_nonneg_left hx.2 (show 0 ≤ 8 - e by omega)
      have a2 := Int.mul_le_mul_of_nonneg_left hy.2 (show 0 ≤ e by omega)
      have a3 := Int.mul_nonneg (show 0 ≤ 8 - e by omega) hx.1
      have a4 := Int.mul_nonneg (show 0 ≤ e by omega) hy.1
      omega
    unfold ColOk mixC
    exact ⟨key _ _ k1.1 k2.1, key _ _ k1.2.1 k2.2.1, key _ _ k1.2.2 k2.2.2⟩
  have hT : ColOk (mul8 c) (-3000) 3000 := by unfold mul8; unfold ColOk at *; simp only; omega
  have kD := fun W => refDist_ok ws (mixC (8 - e) c1 e c2) (mul8 c) v W hw hM hT
  have hil : i < l.length := (List.getElem?_eq_some_iff.1 h1).1
  have hkl : k < l.length := (List.getElem?_eq_some_iff.1 h2).1
  obtain ⟨A, cap, rfl⟩ := hl.form
  obtain ⟨b, o, s1', x1, y1, z1, rfl, -, hb, hc1, p0, p1, p2, p3⟩ := hl.cells hil
  obtain ⟨b', o', s2', x2, y2, z2, e5, -, hb', hc2, r0, r1, r2, r3⟩ := hl.cells hkl
  obtain ⟨rfl, rfl⟩ : b = b' ∧ o = o' := by injection e5 with e6; injection e6 with e7 e8; exact ⟨e7, e8⟩
  obtain ⟨rfl, rfl⟩ : s1 = s1' ∧ c1 = (x1, y1, z1) := by have := h1.symm.trans hc1; simpa using this
  obtain ⟨rfl, rfl⟩ : s2 = s2' ∧ c2 = (x2, y2, z2) := by have := h2.symm.trans hc2; simpa using this
  obtain ⟨n0, n1, n2⟩ := ws
  obtain ⟨c0, c1, c2⟩ := c
  unfold ColOk at k1 k2 hc
  dsimp only at k1 k2 hc
  obtain ⟨wa0, wb0, wc0⟩ := mix_wraps (n := 8 - e) (m := e) (a := x1) (b := x2) (by omega) (by omega) (by omega) (by omega)
  obtain ⟨wa1, wb1, wc1⟩ := mix_wraps (n := 8 - e) (m := e) (a := y1) (b := y2) (by omega) (by omega) (by omega) (by omega)
  obtain ⟨wa2, wb2, wc2⟩ := mix_wraps (n := 8 - e) (m := e) (a := z1) (b := z2) (by omega) (by omega) (by omega) (by omega)
  have wd0 := wrap_small (n := 8 * c0) (by omega)
  have wd1 := wrap_small (n := 8 * c1) (by omega)
  have wd2 := wrap_small (n := 8 * c2) (by omega)
  have we1 := wrap64_small (n := 8 - e) (by omega)
  have we2 := wrap_small (n := 8 - e) (by omega)
  have wf0 := wrap64_small (n := 8 * c0) (by omega)
  have wf1 := wrap64_small (n := 8 * c1) (by omega)
  have wf2 := wrap64_small (n := 8 * c2) (by omega)
  have hd : ∀ d, d = distW (n0, n1, n2) (mixC (8 - e) (x1, y1, z1) e (x2, y2, z2)) (mul8 (c0, c1, c2)) → True := fun _ _ => trivial
  clear hd
  generalize distW (n0, n1, n2) (mixC (8 - e) (x1, y1, z1) e (x2, y2, z2)) (mul8 (c0, c1, c2)) = D at kD ⊢
  unfold gdV colV mixC mul8 at kD
  unfold gdV colV
  dsimp only at kD ⊢
  have et0 : (8 - e) * x1 + e * x2 = (8 - e) * x1 + e * x2 := rfl
  clear et0
  generalize ht0 : (8 - e) * x1 + e * x2 = t0 at kD wc0
  generalize ht1 : (8 - e) * y1 + e * y2 = t1 at kD wc1
  generalize ht2 : (8 - e) * z1 + e * z2 = t2 at kD wc2
  generalize hu0 : 8 * c0 = u0 at kD wd0 wf0
  generalize hu1 : 8 * c1 = u1 at kD wd1 wf1
  generalize hu2 : 8 * c2 = u2 at kD wd2 wf2
  have hi0 : (0 : Int) ≤ i := by omega
  have hi1 : (i : Int) < l.length := by omega
  have hk0 : (0 : Int) ≤ k := by omega
  have hk1 : (k : Int) < l.length := by omega
  clear e5 hc1 hc2 h1 h2 k1 k2 hc hw hM hT he
  obtain ⟨W0, hW⟩ : ∃ W0, W0 = ((w.alloc (.cells #[.int .i64 n0, .int .i64 n1, .int .i64 n2, .slice (some ⟨b, o, none⟩) l.length cap] 53)).alloc (.cells #[.int .i64 i, .int .i64 k, .int .i64 e] 65)).alloc (.cells #[.int .i64 c0, .int .i64 c1, .int .i64 c2] 47) := ⟨_, rfl⟩
  have hB0 : Below w.heap.size w W0 := by subst hW; exact (((Below.refl _ _).alloc (Nat.le_refl _) _).alloc (by simp) _).alloc (by simp; omega) _
  have hz0 : W0.heap.size = w.heap.size + 1 + 1 + 1 := by subst hW; simp
  have rg : W0.heap[w.heap.size]? = some (.cells #[.int .i64 n0, .int .i64 n1, .int .i64 n2, .slice (some ⟨b, o, none⟩) l.length cap] 53 (0, 0)) := by subst hW; exact (Below.heap_alloc _ _ _ (by simp; omega)).trans ((Below.heap_alloc _ _ _ (by simp)).trans (heap_alloc_new w _))
  have rm : W0.heap[w.heap.size + 1]? = some (.cells #[.int .i64 i, .int .i64 k, .int .i64 e] 65 (0, 0)) := by
    have := heap_alloc_new (w.alloc (.cells #[.int .i64 n0, .int .i64 n1, .int .i64 n2, .slice (some ⟨b, o, none⟩) l.length cap] 53)) (.cells #[.int .i64 i, .int .i64 k, .int .i64 e] 65)
    rw [hW, Below.heap_alloc _ _ _ (by simp)]
    simpa using this
  have rcc : W0.heap[w.heap.size + 1 + 1]? = some (.cells #[.int .i64 c0, .int .i64 c1, .int .i64 c2] 47 (0, 0)) := by
    have := heap_alloc_new ((w.alloc (.cells #[.int .i64 n0, .int .i64 n1, .int .i64 n2, .slice (some ⟨b, o, none⟩) l.length cap] 53)).alloc (.cells #[.int .i64 i, .int .i64 k, .int .i64 e] 65)) (.cells #[.int .i64 c0, .int .i64 c1, .int .i64 c2] 47)
    rw [← hW] at this
    simpa using this
  have kk : ∀ V, Below (w.heap.size + 1 + 1 + 1) W0 V → (V.cell? ⟨w.heap.size, 3, none⟩ = some (.slice (some ⟨b, o, none⟩) l.length cap)) ∧ (V.cell? ⟨w.heap.size + 1, 0, none⟩ = some (.int .i64 i) ∧ V.cell? ⟨w.heap.size + 1, 1, none⟩ = some (.int .i64 k) ∧ V.cell? ⟨w.heap.size + 1, 2, none⟩ = some (.int .i64 e)) ∧ (V.cell? ⟨b, o + i * 4 + 1, none⟩ = some (.int .i64 x1) ∧ V.cell? ⟨b, o + i * 4 + 1 + 1, none⟩ = some (.int .i64 y1) ∧ V.cell? ⟨b, o + i * 4 + 1 + 2, none⟩ = some (.int .i64 z1)) ∧ V.cell? ⟨b, o + k * 4 + 1, none⟩ = some (.int .i64 x2) ∧ V.cell? ⟨b, o + k * 4 + 1 + 1, none⟩ = some (.int .i64 y2) ∧ V.cell? ⟨b, o + k * 4 + 1 + 2, none⟩ = some (.int .i64 z2) := fun V h => by
    have hV := hB0.trans (h.mono (by omega))
    exact ⟨(four_cells ((h.block _ (by omega)).trans rg)).2.2.2, three_cellsS ((h.block _ (by omega)).trans rm), ⟨(hV.cell (p := ⟨b, _, none⟩) hb).trans p1, (hV.cell (p := ⟨b, _, none⟩) hb).trans p2, (hV.cell (p := ⟨b, _, none⟩) hb).trans p3⟩, (hV.cell (p := ⟨b, _, none⟩) hb).trans r1, (hV.cell (p := ⟨b, _, none⟩) hb).trans r2, (hV.cell (p := ⟨b, _, none⟩) hb).trans r3⟩
  have kc : ∀ V, Below (w.heap.size + 1 + 1 + 1) W0 V → V.cell? ⟨w.heap.size + 1 + 1, 0, none⟩ = some (.int .i64 c0) ∧ V.cell? ⟨w.heap.size + 1 + 1, 1, none⟩ = some (.int .i64 c1) ∧ V.cell? ⟨w.heap.size + 1 + 1, 2, none⟩ = some (.int .i64 c2) := fun V h => three_cellsS ((h.block _ (by omega)).trans rcc)
  have kg : ∀ V, Below (w.heap.size + 1 + 1 + 1) W0 V → V.cell? ⟨w.heap.size, 0, none⟩ = some (.int .i64 n0) ∧ V.cell? ⟨w.heap.size, 1, none⟩ = some (.int .i64 n1) ∧ V.cell? ⟨w.heap.size, 2, none⟩ = some (.int .i64 n2) ∧ V.cell? ⟨w.heap.size, 3, none⟩ = some (.slice (some ⟨b, o, none⟩) l.length cap) := fun V h => four_cells ((h.block _ (by omega)).trans rg)
  obtain ⟨W1, hW1⟩ : ∃ W1, W1 = (W0.alloc (.cells #[.int .i64 0, .int .i64 0, .int .i64 0] 47)).alloc (.cells #[.int .i64 0, .int .i64 0, .int .i64 0] 47) := ⟨_, rfl⟩
  have hX0 : Below (w.heap.size + 1 + 1 + 1) W0 W1 := by
    subst hW1
    have h0 : Below W0.heap.size W0 ((W0.alloc (.cells #[.int .i64 0, .int .i64 0, .int .i64 0] 47)).alloc (.cells #[.int .i64 0, .int .i64 0, .int .i64 0] 47)) := ((Below.refl _ _).alloc (Nat.le_refl _) _).alloc (by simp) _
    exact h0.mono (by omega)
  have ra : RowK W1 47 (w.heap.size + 1 + 1 + 1) [.int .i64 0, .int .i64 0, .int .i64 0] := by
    have := heap_alloc_new W0 (.cells #[.int .i64 0, .int .i64 0, .int .i64 0] 47)
    rw [hz0] at this
    unfold RowK
    rw [hW1, Below.heap_alloc _ _ _ (by simp; omega)]
    exact this
  have rb : RowK W1 47 (w.heap.size + 1 + 1 + 1 + 1) [.int .i64 0, .int .i64 0, .int .i64 0] := by
    have := heap_alloc_new (W0.alloc (.cells #[.int .i64 0, .int .i64 0, .int .i64 0] 47)) (.cells #[.int .i64 0, .int .i64 0, .int .i64 0] 47)
    rw [← hW1] at this
    unfold RowK
    simpa [hz0] using this
  clear hl rg rm rcc p0 p1 p2 p3 r0 r1 r2 r3
  go_enter Tryz.func31, Tryz.ntmps31
  go_wp2_with fail
  rw [← hW, ← hW1]
  clear hW hW1
  refine wp_loop_rounds 4 ?_
  rw [rounds_succ]
  have hky := kk _ hX0.drew
  have o0 : W1.cell? ⟨w.heap.size + 1 + 1 + 1, 0, none⟩ = some (.int .i64 0) := ra.cell (by rfl)
  have fz := ra.fz 0
  have hXa := (hX0.setCell (p := ⟨w.heap.size + 1 + 1 + 1, 0, none⟩) (Nat.le_refl _) (.int .i64 t0)).drew
  have ra2 : RowK (W1.setCell ⟨w.heap.size + 1 + 1 + 1, 0, none⟩ (.int .i64 t0)).drew 47 (w.heap.size + 1 + 1 + 1) [.int .i64 t0, .int .i64 0, .int .i64 0] := ra.set 0 _
  have rb2 : RowK (W1.setCell ⟨w.heap.size + 1 + 1 + 1, 0, none⟩ (.int .i64 t0)).drew 47 (w.heap.size + 1 + 1 + 1 + 1) [.int .i64 0, .int .i64 0, .int .i64 0] := rb.keep (Below.heap_setCell _ ⟨w.heap.size + 1 + 1 + 1, 0, none⟩ _ _ (by show w.heap.size + 1 + 1 + 1 + 1 ≠ w.heap.size + 1 + 1 + 1; omega))
  have hkyA := kk _ hXa
  go_wp2_with fail
  go_region_held3 (fun V => (V.cell? ⟨w.heap.size, 3, none⟩ = some (.slice (some ⟨b, o, none⟩) l.length cap)) ∧ (V.cell? ⟨w.heap.size + 1, 0, none⟩ = some (.int .i64 i) ∧ V.cell? ⟨w.heap.size + 1, 1, none⟩ = some (.int .i64 k) ∧ V.cell? ⟨w.heap.size + 1, 2, none⟩ = some (.int .i64 e)) ∧ (V.cell? ⟨b, o + i * 4 + 1, none⟩ = some (.int .i64 x1) ∧ V.cell? ⟨b, o + i * 4 + 1 + 1, none⟩ = some (.int .i64 y1) ∧ V.cell? ⟨b, o + i * 4 + 1 + 2, none⟩ = some (.int .i64 z1)) ∧ V.cell? ⟨b, o + k * 4 + 1, none⟩ = some (.int .i64 x2) ∧ V.cell? ⟨b, o + k * 4 + 1 + 1, none⟩ = some (.int .i64 y2) ∧ V.cell? ⟨b, o + k * 4 + 1 + 2, none⟩ = some (.int .i64 z2)) (first | exact hky | exact hkyA | go_keep) (fail)
  rename_i hHeld
  clear hHeld hky hkyA o0 fz ra rb hX0
  generalize (W1.setCell ⟨w.heap.size + 1 + 1 + 1, 0, none⟩ (.int .i64 t0)).drew = V0 at ra2 rb2 hXa ⊢
  have q0 : V0.cell? ⟨w.heap.size + 1 + 1 + 1 + 1, 0, none⟩ = some (.int .i64 0) := rb2.cell (by rfl)
  have fz := rb2.fz 0
  obtain ⟨g0, g1, g2⟩ := kc _ hXa
  have hX1 := hXa.setCell (p := ⟨w.heap.size + 1 + 1 + 1 + 1, 0, none⟩) (Nat.le_succ _) (.int .i64 u0)
  have rb : RowK (V0.setCell ⟨w.heap.size + 1 + 1 + 1 + 1, 0, none⟩ (.int .i64 u0)) 47 (w.heap.size + 1 + 1 + 1 + 1) [.int .i64 u0, .int .i64 0, .int .i64 0] := rb2.set 0 _
  have ra : RowK (V0.setCell ⟨w.heap.size + 1 + 1 + 1 + 1, 0, none⟩ (.int .i64 u0)) 47 (w.heap.size + 1 + 1 + 1) [.int .i64 t0, .int .i64 0, .int .i64 0] := ra2.keep (Below.heap_setCell _ ⟨w.heap.size + 1 + 1 + 1 + 1, 0, none⟩ _ _ (by show w.heap.size + 1 + 1 + 1 ≠ w.heap.size + 1 + 1 + 1 + 1; omega))
  go_wp2
  generalize V0.setCell ⟨w.heap.size + 1 + 1 + 1 + 1, 0, none⟩ (.int .i64 u0) = W2 at ra rb hX1 ⊢
  clear ra2 rb2 hXa q0 fz g0 g1 g2
  rw [rounds_succ]
  have hky := kk _ hX1.drew
  have o1 : W2.cell? ⟨w.heap.size + 1 + 1 + 1, 1, none⟩ = some (.int .i64 0) := ra.cell (by rfl)
  have fz := ra.fz 1
  have hXa := (hX1.setCell (p := ⟨w.heap.size + 1 + 1 + 1, 1, none⟩) (Nat.le_refl _) (.int .i64 t1)).drew
  have ra2 : RowK (W2.setCell ⟨w.heap.size + 1 + 1 + 1, 1, none⟩ (.int .i64 t1)).drew 47 (w.heap.size + 1 + 1 + 1) [.int .i64 t0, .int .i64 t1, .int .i64 0] := ra.set 1 _
  have rb2 : RowK (W2.setCell ⟨w.heap.size + 1 + 1 + 1, 1, none⟩ (.int .i64 t1)).drew 47 (w.heap.size + 1 + 1 + 1 + 1) [.int .i64 u0, .int .i64 0, .int .i64 0] := rb.keep (Below.heap_setCell _ ⟨w.heap.size + 1 + 1 + 1, 1, none⟩ _ _ (by show w.heap.size + 1 + 1 + 1 + 1 ≠ w.heap.size + 1 + 1 + 1; omega))
  have hkyA := kk _ hXa
  go_wp2_with fail
  go_region_held3 (fun V => (V.cell? ⟨w.heap.size, 3, none⟩ = some (.slice (some ⟨b, o, none⟩) l.length cap)) ∧ (V.cell? ⟨w.heap.size + 1, 0, none⟩ = some (.int .i64 i) ∧ V.cell? ⟨w.heap.size + 1, 1, none⟩ = some (.int .i64 k) ∧ V.cell? ⟨w.heap.size + 1, 2, none⟩ = some (.int .i64 e)) ∧ (V.cell? ⟨b, o + i * 4 + 1, none⟩ = some (.int .i64 x1) ∧ V.cell? ⟨b, o + i * 4 + 1 + 1, none⟩ = some (.int .i64 y1) ∧ V.cell? ⟨b, o + i * 4 + 1 + 2, none⟩ = some (.int .i64 z1)) ∧ V.cell? ⟨b, o + k * 4 + 1, none⟩ = some (.int .i64 x2) ∧ V.cell? ⟨b, o + k * 4 + 1 + 1, none⟩ = some (.int .i64 y2) ∧ V.cell? ⟨b, o + k * 4 + 1 + 2, none⟩ = some (.int .i64 z2)) (first | exact hky | exact hkyA | go_keep) (fail)
  rename_i hHeld
  clear hHeld hky hkyA o1 fz ra rb hX1
  generalize (W2.setCell ⟨w.heap.size + 1 + 1 + 1, 1, none⟩ (.int .i64 t1)).drew = V1 at ra2 rb2 hXa ⊢
  have q1 : V1.cell? ⟨w.heap.size + 1 + 1 + 1 + 1, 1, none⟩ = some (.int .i64 0) := rb2.cell (by rfl)
  have fz := rb2.fz 1
  obtain ⟨g0, g1, g2⟩ := kc _ hXa
  have hX2 := hXa.setCell (p := ⟨w.heap.size + 1 + 1 + 1 + 1, 1, none⟩) (Nat.le_succ _) (.int .i64 u1)
  have rb : RowK (V1.setCell ⟨w.heap.size + 1 + 1 + 1 + 1, 1, none⟩ (.int .i64 u1)) 47 (w.heap.size + 1 + 1 + 1 + 1) [.int .i64 u0, .int .i64 u1, .int .i64 0] := rb2.set 1 _
  have ra : RowK (V1.setCell ⟨w.heap.size + 1 + 1 + 1 + 1, 1, none⟩ (.int .i64 u1)) 47 (w.heap.size + 1 + 1 + 1) [.int .i64 t0, .int .i64 t1, .int .i64 0] := ra2.keep (Below.heap_setCell _ ⟨w.heap.size + 1 + 1 + 1 + 1, 1, none⟩ _ _ (by show w.heap.size + 1 + 1 + 1 ≠ w.heap.size + 1 + 1 + 1 + 1; omega))
  go_wp2
  generalize V1.setCell ⟨w.heap.size + 1 + 1 + 1 + 1, 1, none⟩ (.int .i64 u1) = W3 at ra rb hX2 ⊢
  clear ra2 rb2 hXa q1 fz g0 g1 g2
  rw [rounds_succ]
  have hky := kk _ hX2.drew
  have o2 : W3.cell? ⟨w.heap.size + 1 + 1 + 1, 2, none⟩ = some (.int .i64 0) := ra.cell (by rfl)
  have fz := ra.fz 2
  have hXa := (hX2.setCell (p := ⟨w.heap.size + 1 + 1 + 1, 2, none⟩) (Nat.le_refl _) (.int .i64 t2)).drew
  have ra2 : RowK (W3.setCell ⟨w.heap.size + 1 + 1 + 1, 2, none⟩ (.int .i64 t2)).drew 47 (w.heap.size + 1 + 1 + 1) [.int .i64 t0, .int .i64 t1, .int .i64 t2] := ra.set 2 _
  have rb2 : RowK (W3.setCell ⟨w.heap.size + 1 + 1 + 1, 2, none⟩ (.int .i64 t2)).drew 47 (w.heap.size + 1 + 1 + 1 + 1) [.int .i64 u0, .int .i64 u1, .int .i64 0] := rb.keep (Below.heap_setCell _ ⟨w.heap.size + 1 + 1 + 1, 2, none⟩ _ _ (by show w.heap.size + 1 + 1 + 1 + 1 ≠ w.heap.size + 1 + 1 + 1; omega))
  have hkyA := kk _ hXa
  go_wp2_with fail
  go_region_held3 (fun V => (V.cell? ⟨w.heap.size, 3, none⟩ = some (.slice (some ⟨b, o, none⟩) l.length cap)) ∧ (V.cell? ⟨w.heap.size + 1, 0, none⟩ = some (.int .i64 i) ∧ V.cell? ⟨w.heap.size + 1, 1, none⟩ = some (.int .i64 k) ∧ V.cell? ⟨w.heap.size + 1, 2, none⟩ = some (.int .i64 e)) ∧ (V.cell? ⟨b, o + i * 4 + 1, none⟩ = some (.int .i64 x1) ∧ V.cell? ⟨b, o + i * 4 + 1 + 1, none⟩ = some (.int .i64 y1) ∧ V.cell? ⟨b, o + i * 4 + 1 + 2, none⟩ = some (.int .i64 z1)) ∧ V.cell? ⟨b, o + k * 4 + 1, none⟩ = some (.int .i64 x2) ∧ V.cell? ⟨b, o + k * 4 + 1 + 1, none⟩ = some (.int .i64 y2) ∧ V.cell? ⟨b, o + k * 4 + 1 + 2, none⟩ = some (.int .i64 z2)) (first | exact hky | exact hkyA | go_keep) (fail)
  rename_i hHeld
  clear hHeld hky hkyA o2 fz ra rb hX2
  generalize (W3.setCell ⟨w.heap.size + 1 + 1 + 1, 2, none⟩ (.int .i64 t2)).drew = V2 at ra2 rb2 hXa ⊢
  have q2 : V2.cell? ⟨w.heap.size + 1 + 1 + 1 + 1, 2, none⟩ = some (.int .i64 0) := rb2.cell (by rfl)
  have fz := rb2.fz 2
  obtain ⟨g0, g1, g2⟩ := kc _ hXa
  have hX3 := hXa.setCell (p := ⟨w.heap.size + 1 + 1 + 1 + 1, 2, none⟩) (Nat.le_succ _) (.int .i64 u2)
  have rb : RowK (V2.setCell ⟨w.heap.size + 1 + 1 + 1 + 1, 2, none⟩ (.int .i64 u2)) 47 (w.heap.size + 1 + 1 + 1 + 1) [.int .i64 u0, .int .i64 u1, .int .i64 u2] := rb2.set 2 _
  have ra : RowK (V2.setCell ⟨w.heap.size + 1 + 1 + 1 + 1, 2, none⟩ (.int .i64 u2)) 47 (w.heap.size + 1 + 1 + 1) [.int .i64 t0, .int .i64 t1, .int .i64 t2] := ra2.keep (Below.heap_setCell _ ⟨w.heap.size + 1 + 1 + 1 + 1, 2, none⟩ _ _ (by show w.heap.size + 1 + 1 + 1 ≠ w.heap.size + 1 + 1 + 1 + 1; omega))
  go_wp2
  generalize V2.setCell ⟨w.heap.size + 1 + 1 + 1 + 1, 2, none⟩ (.int .i64 u2) = W4 at ra rb hX3 ⊢
  clear ra2 rb2 hXa q2 fz g0 g1 g2
  obtain ⟨g0, g1, g2, g3⟩ := kg _ hX3
  have a0 : W4.cell? ⟨w.heap.size + 1 + 1 + 1, 0, none⟩ = some (.int .i64 t0) := ra.cell (by rfl)
  have a1 : W4.cell? ⟨w.heap.size + 1 + 1 + 1, 1, none⟩ = some (.int .i64 t1) := ra.cell (by rfl)
  have a2 : W4.cell? ⟨w.heap.size + 1 + 1 + 1, 2, none⟩ = some (.int .i64 t2) := ra.cell (by rfl)
  have d0 : W4.cell? ⟨w.heap.size + 1 + 1 + 1 + 1, 0, none⟩ = some (.int .i64 u0) := rb.cell (by rfl)
  have d1 : W4.cell? ⟨w.heap.size + 1 + 1 + 1 + 1, 1, none⟩ = some (.int .i64 u1) := rb.cell (by rfl)
  have d2 : W4.cell? ⟨w.heap.size + 1 + 1 + 1 + 1, 2, none⟩ = some (.int .i64 u2) := rb.cell (by rfl)
  have hBf := hB0.trans (hX3.mono (by omega))
  clear kk kc kg hX3 ra rb hB0
  rw [rounds_succ]
  go_wp2_with (go_at_call 26; refine (kD _).mono ?_; rintro e' w9 ⟨rfl, hQ⟩)
  go_ret
  exact ⟨rfl, hBf.trans (hQ.mono hBf.size)⟩
end Go.Proofs
