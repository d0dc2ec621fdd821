/- Shades: the colour of a mix. -/
import Derived.Test.YtpjmobpmpghpeaaGreatDoorShdL
namespace Go.Proofs
open Go.RowKit Go.MapKept
set_option maxHeartbeats 16000000
set_option maxRecDepth 1000000
/-- The sum of two colours, each one so many times. -/
def mixC (n : Int) (a : Cel) (m : Int) (b : Cel) : Cel := (n * a.1 + m * b.1, n * a.2.1 + m * b.2.1, n * a.2.2 + m * b.2.2)
theorem mix_wraps {n a m b : Int} (hn : -10 ≤ n ∧ n ≤ 10) (hm : -10 ≤ m ∧ m ≤ 10) (ha : -3000 ≤ a ∧ a ≤ 3000) (hb : -3000 ≤ b ∧ b ≤ 3000) :
    IntKind.i64.wrap (n * a) = n * a ∧ IntKind.i64.wrap (m * b) = m * b ∧ IntKind.i64.wrap (n * a + m * b) = n * a + m * b := by
  have h1 := mul_bd (A := 10) (B := 3000) (a := n) (b := a) (by omega) (by omega)
  have h2 := mul_bd (A := 10) (B := 3000) (a := m) (b := b) (by omega) (by omega)
  exact ⟨wrap_small (by omega), wrap_small (by omega), wrap_small (by omega)⟩
theorem shMixed_ok (n m : Int) (a b : Cel) (w : World) (hn : -10 ≤ n ∧ n ≤ 10) (hm : -10 ≤ m ∧ m ≤ 10) (ha : ColOk a (-3000) 3000) (hb : ColOk b (-3000) 3000) :
    Calls Tryz.prog 64 #[.int .i64 n, colV a, .int .i64 m, colV b] w fun e w' => e = .returned (colV (mixC n a m b)) ∧ Below w.heap.size w w' := by
  obtain ⟨a0, a1, a2⟩ := a
  obtain ⟨b0, b1, b2⟩ := b
  unfold ColOk at ha hb
  dsimp only at ha hb
  obtain ⟨p0, q0, s0⟩ := mix_wraps hn hm ha.1 hb.1
  obtain ⟨p1, q1, s1⟩ := mix_wraps hn hm ha.2.1 hb.2.1
  obtain ⟨p2, q2, s2⟩ := mix_wraps hn hm ha.2.2 hb.2.2
  unfold mixC colV
  dsimp only
  clear ha hb hn hm
  obtain ⟨t0, ht0⟩ : ∃ t, t = n * a0 + m * b0 := ⟨_, rfl⟩
  obtain ⟨t1, ht1⟩ : ∃ t, t = n * a1 + m * b1 := ⟨_, rfl⟩
  obtain ⟨t2, ht2⟩ : ∃ t, t = n * a2 + m * b2 := ⟨_, rfl⟩
  rw [← ht0, ← ht1, ← ht2]
  rw [← ht0] at s0
  rw [← ht1] at s1
  rw [← ht2] at s2
  have HT := Lib.hid (And.intro ht0 (And.intro ht1 ht2))
  have e0 : n * a0 + m * b0 = t0 := ht0.symm
  have e1 : n * a1 + m * b1 = t1 := ht1.symm
  have e2 : n * a2 + m * b2 = t2 := ht2.symm
  clear ht0 ht1 ht2
  obtain ⟨W0, hW⟩ : ∃ W0, W0 = ((w.alloc (.cells #[.int .i64 a0, .int .i64 a1, .int .i64 a2] 47)).alloc (.cells #[.int .i64 b0, .int .i64 b1, .int .i64 b2] 47)).alloc (.cells #[.int .i64 0, .int .i64 0, .int .i64 0] 47) := ⟨_, rfl⟩
  have hB0 : Below w.heap.size w W0 := by subst hW; exact (((Below.refl _ _).alloc (Nat.le_refl _) _).alloc (by simp) _).alloc (by simp; omega) _
  go_enter Tryz.func64, Tryz.ntmps64
  go_wp2_with fail
  rw [← hW]
  have ra : W0.heap[w.heap.size]? = some (.cells #[.int .i64 a0, .int .i64 a1, .int .i64 a2] 47 (0, 0)) := by subst hW; exact (Below.heap_alloc _ _ _ (by simp; omega)).trans ((Below.heap_alloc _ _ _ (by simp)).trans (heap_alloc_new w _))
  have hz : W0.heap.size = w.heap.size + 1 + 1 + 1 := by subst hW; simp
  have rb : W0.heap[w.heap.size + 1]? = some (.cells #[.int .i64 b0, .int .i64 b1, .int .i64 b2] 47 (0, 0)) := by
    have := heap_alloc_new (w.alloc (.cells #[.int .i64 a0, .int .i64 a1, .int .i64 a2] 47)) (.cells #[.int .i64 b0, .int .i64 b1, .int .i64 b2] 47)
    rw [hW, Below.heap_alloc _ _ _ (by simp)]
    simpa using this
  have rr : W0.heap[w.heap.size + 1 + 1]? = some (.cells #[.int .i64 0, .int .i64 0, .int .i64 0] 47 (0, 0)) := by
    have := heap_alloc_new ((w.alloc (.cells #[.int .i64 a0, .int .i64 a1, .int .i64 a2] 47)).alloc (.cells #[.int .i64 b0, .int .i64 b1, .int .i64 b2] 47)) (.cells #[.int .i64 0, .int .i64 0, .int .i64 0] 47)
    rw [← hW] at this
    simpa using this
  clear hW
  have rc : RowK (W0.alloc (.cells #[.int .i64 0, .int .i64 0, .int .i64 0] 47)) 47 (w.heap.size + 1 + 1 + 1) [.int .i64 0, .int .i64 0, .int .i64 0] := by
    have := heap_alloc_new W0 (.cells #[.int .i64 0, .int .i64 0, .int .i64 0] 47)
    rw [hz] at this
    exact this
  have hX : Below W0.heap.size W0 (W0.alloc (.cells #[.int .i64 0, .int .i64 0, .int .i64 0] 47)) := (Below.refl _ _).alloc (Nat.le_refl _) _
  generalize W0.alloc (.cells #[.int .i64 0, .int .i64 0, .int .i64 0] 47) = W1 at rc hX ⊢
  have kk : ∀ V, Below W0.heap.size W0 V → (V.cell? ⟨w.heap.size, 0, none⟩ = some (.int .i64 a0) ∧ V.cell? ⟨w.heap.size, 1, none⟩ = some (.int .i64 a1) ∧ V.cell? ⟨w.heap.size, 2, none⟩ = some (.int .i64 a2)) ∧ V.cell? ⟨w.heap.size + 1, 0, none⟩ = some (.int .i64 b0) ∧ V.cell? ⟨w.heap.size + 1, 1, none⟩ = some (.int .i64 b1) ∧ V.cell? ⟨w.heap.size + 1, 2, none⟩ = some (.int .i64 b2) := fun V h => ⟨three_cellsS ((h.block _ (by omega)).trans ra), three_cellsS ((h.block _ (by omega)).trans rb)⟩
  have hn1 : w.heap.size ≠ w.heap.size + 1 + 1 + 1 := by omega
  have hn2 : w.heap.size + 1 ≠ w.heap.size + 1 + 1 + 1 := by omega
  refine wp_loop_rounds 4 ?_
  rw [rounds_succ]
  have hky := kk _ hX.drew
  have o0 : W1.cell? ⟨w.heap.size + 1 + 1 + 1, 0, none⟩ = some (.int .i64 0) := rc.cell (by rfl)
  have fz := rc.fz 0
  have hX1 := (hX.setCell (p := ⟨w.heap.size + 1 + 1 + 1, 0, none⟩) (Nat.le_of_eq hz) (.int .i64 t0)).drew
  have rc2 : RowK (W1.setCell ⟨w.heap.size + 1 + 1 + 1, 0, none⟩ (.int .i64 t0)).drew 47 (w.heap.size + 1 + 1 + 1) [.int .i64 t0, .int .i64 0, .int .i64 0] := rc.set 0 _
  have hkyA := kk _ hX1
  go_wp2_with fail
  go_region_held3 (fun w' => (w'.cell? ⟨w.heap.size, 0, none⟩ = some (.int .i64 a0) ∧ w'.cell? ⟨w.heap.size, 1, none⟩ = some (.int .i64 a1) ∧ w'.cell? ⟨w.heap.size, 2, none⟩ = some (.int .i64 a2)) ∧ w'.cell? ⟨w.heap.size + 1, 0, none⟩ = some (.int .i64 b0) ∧ w'.cell? ⟨w.heap.size + 1, 1, none⟩ = some (.int .i64 b1) ∧ w'.cell? ⟨w.heap.size + 1, 2, none⟩ = some (.int .i64 b2)) (first | exact hky | exact hkyA | go_keep) (fail)
  rename_i hHeld
  clear hHeld hky hkyA o0 fz rc hX
  have rc := rc2
  clear rc2
  generalize (W1.setCell ⟨w.heap.size + 1 + 1 + 1, 0, none⟩ (.int .i64 t0)).drew = W2 at rc hX1 ⊢
  go_wp2
  rw [rounds_succ]
  have hky := kk _ hX1.drew
  have o1 : W2.cell? ⟨w.heap.size + 1 + 1 + 1, 1, none⟩ = some (.int .i64 0) := rc.cell (by rfl)
  have fz := rc.fz 1
  have hX2 := (hX1.setCell (p := ⟨w.heap.size + 1 + 1 + 1, 1, none⟩) (Nat.le_of_eq hz) (.int .i64 t1)).drew
  have rc2 : RowK (W2.setCell ⟨w.heap.size + 1 + 1 + 1, 1, none⟩ (.int .i64 t1)).drew 47 (w.heap.size + 1 + 1 + 1) [.int .i64 t0, .int .i64 t1, .int .i64 0] := rc.set 1 _
  have hkyA := kk _ hX2
  go_wp2_with fail
  go_region_held3 (fun w' => (w'.cell? ⟨w.heap.size, 0, none⟩ = some (.int .i64 a0) ∧ w'.cell? ⟨w.heap.size, 1, none⟩ = some (.int .i64 a1) ∧ w'.cell? ⟨w.heap.size, 2, none⟩ = some (.int .i64 a2)) ∧ w'.cell? ⟨w.heap.size + 1, 0, none⟩ = some (.int .i64 b0) ∧ w'.cell? ⟨w.heap.size + 1, 1, none⟩ = some (.int .i64 b1) ∧ w'.cell? ⟨w.heap.size + 1, 2, none⟩ = some (.int .i64 b2)) (first | exact hky | exact hkyA | go_keep) (fail)
  rename_i hHeld
  clear hHeld hky hkyA o1 fz rc hX1
  have rc := rc2
  clear rc2
  generalize (W2.setCell ⟨w.heap.size + 1 + 1 + 1, 1, none⟩ (.int .i64 t1)).drew = W3 at rc hX2 ⊢
  go_wp2
  rw [rounds_succ]
  have hky := kk _ hX2.drew
  have o2 : W3.cell? ⟨w.heap.size + 1 + 1 + 1, 2, none⟩ = some (.int .i64 0) := rc.cell (by rfl)
  have fz := rc.fz 2
  have hX3 := (hX2.setCell (p := ⟨w.heap.size + 1 + 1 + 1, 2, none⟩) (Nat.le_of_eq hz) (.int .i64 t2)).drew
  have rc2 : RowK (W3.setCell ⟨w.heap.size + 1 + 1 + 1, 2, none⟩ (.int .i64 t2)).drew 47 (w.heap.size + 1 + 1 + 1) [.int .i64 t0, .int .i64 t1, .int .i64 t2] := rc.set 2 _
  have hkyA := kk _ hX3
  go_wp2_with fail
  go_region_held3 (fun w' => (w'.cell? ⟨w.heap.size, 0, none⟩ = some (.int .i64 a0) ∧ w'.cell? ⟨w.heap.size, 1, none⟩ = some (.int .i64 a1) ∧ w'.cell? ⟨w.heap.size, 2, none⟩ = some (.int .i64 a2)) ∧ w'.cell? ⟨w.heap.size + 1, 0, none⟩ = some (.int .i64 b0) ∧ w'.cell? ⟨w.heap.size + 1, 1, none⟩ = some (.int .i64 b1) ∧ w'.cell? ⟨w.heap.size + 1, 2, none⟩ = some (.int .i64 b2)) (first | exact hky | exact hkyA | go_keep) (fail)
  rename_i hHeld
  clear hHeld hky hkyA o2 fz rc hX2
  have rc := rc2
  clear rc2
  generalize (W3.setCell ⟨w.heap.size + 1 + 1 + 1, 2, none⟩ (.int .i64 t2)).drew = W4 at rc hX3 ⊢
  go_wp2
  have y0 : W4.cell? ⟨w.heap.size + 1 + 1 + 1, 0, none⟩ = some (.int .i64 t0) := rc.cell (by rfl)
  have y1 : W4.cell? ⟨w.heap.size + 1 + 1 + 1, 1, none⟩ = some (.int .i64 t1) := rc.cell (by rfl)
  have y2 : W4.cell? ⟨w.heap.size + 1 + 1 + 1, 2, none⟩ = some (.int .i64 t2) := rc.cell (by rfl)
  have r4 : RowK W4 47 (w.heap.size + 1 + 1) [.int .i64 0, .int .i64 0, .int .i64 0] := (hX3.block _ (by omega)).trans rr
  have z0 : W4.cell? ⟨w.heap.size + 1 + 1, 0, none⟩ = some (.int .i64 0) := r4.cell (by rfl)
  have z1 : W4.cell? ⟨w.heap.size + 1 + 1, 1, none⟩ = some (.int .i64 0) := r4.cell (by rfl)
  have z2 : W4.cell? ⟨w.heap.size + 1 + 1, 2, none⟩ = some (.int .i64 0) := r4.cell (by rfl)
  have f0 := r4.fz 0
  have f1 := r4.fz 1
  have f2 := r4.fz 2
  have hF : (((W4.setCell ⟨w.heap.size + 1 + 1, 0, none⟩ (.int .i64 t0)).setCell ⟨w.heap.size + 1 + 1, 1, none⟩ (.int .i64 t1)).setCell ⟨w.heap.size + 1 + 1, 2, none⟩ (.int .i64 t2)).heap[w.heap.size + 1 + 1]? = some (.cells #[.int .i64 t0, .int .i64 t1, .int .i64 t2] 47 (0, 0)) := ((r4.set 0 (.int .i64 t0)).set 1 (.int .i64 t1)).set 2 (.int .i64 t2)
  have hXw := hB0.trans (hX3.mono hB0.size)
  have hXf : Below w.heap.size w (((W4.setCell ⟨w.heap.size + 1 + 1, 0, none⟩ (.int .i64 t0)).setCell ⟨w.heap.size + 1 + 1, 1, none⟩ (.int .i64 t1)).setCell ⟨w.heap.size + 1 + 1, 2, none⟩ (.int .i64 t2)) := ((hXw.setCell (p := ⟨w.heap.size + 1 + 1, 0, none⟩) (by show w.heap.size ≤ w.heap.size + 1 + 1; omega) _).setCell (p := ⟨w.heap.size + 1 + 1, 1, none⟩) (by show w.heap.size ≤ w.heap.size + 1 + 1; omega) _).setCell (p := ⟨w.heap.size + 1 + 1, 2, none⟩) (by show w.heap.size ≤ w.heap.size + 1 + 1; omega) _
  have HF := Lib.hid hF
  have HX := Lib.hid hXf
  clear hF hXf hXw r4 rc rr ra rb hX3 kk hB0 e0 e1 e2 s0 s1 s2 p0 p1 p2 q0 q1 q2
  rw [rounds_succ]
  go_wp2
  refine bodyPost_ret (results_cell_row rfl _ _ _ 47 #[.int .i64 t0, .int .i64 t1, .int .i64 t2] (0, 0) _ rfl HF.out Tryz.underlying47 rfl (by kernel_rfl)) rfl ?_
  exact ⟨rfl, HX.out⟩
end Go.Proofs
