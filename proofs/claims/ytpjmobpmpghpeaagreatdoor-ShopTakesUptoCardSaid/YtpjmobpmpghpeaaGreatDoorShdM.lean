import Derived.Test.YtpjmobpmpghpeaaGreatDoorShdL
import Derived.Test.YtpjmobpmpghpeaaGreatDoorShdP
import Derived.Test.YtpjmobpmpghpeaaGreatDoorAmE
section
/- Shades: the colour of a mix. -/
namespace Go.Proofs
open Go.RowKit Go.MapKept
set_option maxHeartbeats 16000000
set_option maxRecDepth 1000000
/-- The sum of two colours, each one so many times. -/
def mixC (n : Int) (a : Cel) (m : Int) (b : Cel) : Cel := (n * a.1 + m * b.1, n * a.2.1 + m * b.2.1, n * a.2.2 + m * b.2.2)
theorem mix_wraps {n a m b : Int} (hn : -10 ≤ n ∧ n ≤ 10) (hm : -10 ≤ m ∧ m ≤ 10) (ha : -3000 ≤ a ∧ a ≤ 3000) (hb : -3000 ≤ b ∧ b ≤ 3000) :
    IntKind.i64.wrap (n * a) = n * a ∧ IntKind.i64.wrap (m * b) = m * b ∧ IntKind.i64.wrap (n * a + m * b) = n * a + m * b := by
  have h1 := mul_bd (A := 10) (B := 3000) (a := n) (b := a) (by omega) (by omega)
  have h2 := mul_bd (A := 10) (B := 3000) (a := m) (b := b) (by omega) (by omega)
  exact ⟨wrap_small (by omega), wrap_small (by omega), wrap_small (by omega)⟩
theorem shMixed_ok (n m : Int) (a b : Cel) (w : World) (hn : -10 ≤ n ∧ n ≤ 10) (hm : -10 ≤ m ∧ m ≤ 10) (ha : ColOk a (-3000) 3000) (hb : ColOk b (-3000) 3000) :
    Calls Tryz.prog 64 #[.int .i64 n, colV a, .int .i64 m, colV b] w fun e w' => e = .returned (colV (mixC n a m b)) ∧ Below w.heap.size w w' := by
  obtain ⟨a0, a1, a2⟩ := a
  obtain ⟨b0, b1, b2⟩ := b
  unfold ColOk at ha hb
  dsimp only at ha hb
  obtain ⟨p0, q0, s0⟩ := mix_wraps hn hm ha.1 hb.1
  obtain ⟨p1, q1, s1⟩ := mix_wraps hn hm ha.2.1 hb.2.1
  obtain ⟨p2, q2, s2⟩ := mix_wraps hn hm ha.2.2 hb.2.2
  unfold mixC colV
  dsimp only
  clear ha hb hn hm
  obtain ⟨t0, ht0⟩ : ∃ t, t = n * a0 + m * b0 := ⟨_, rfl⟩
  obtain ⟨t1, ht1⟩ : ∃ t, t = n * a1 + m * b1 := ⟨_, rfl⟩
  obtain ⟨t2, ht2⟩ : ∃ t, t = n * a2 + m * b2 := ⟨_, rfl⟩
  rw [← ht0, ← ht1, ← ht2]
  rw [← ht0] at s0
  rw [← ht1] at s1
  rw [← ht2] at s2
  have HT := Lib.hid (And.intro ht0 (And.intro ht1 ht2))
  have e0 : n * a0 + m * b0 = t0 := ht0.symm
  have e1 : n * a1 + m * b1 = t1 := ht1.symm
  have e2 : n * a2 + m * b2 = t2 := ht2.symm
  clear ht0 ht1 ht2
  obtain ⟨W0, hW⟩ : ∃ W0, W0 = ((w.alloc (.cells #[.int .i64 a0, .int .i64 a1, .int .i64 a2] 47)).alloc (.cells #[.int .i64 b0, .int .i64 b1, .int .i64 b2] 47)).alloc (.cells #[.int .i64 0, .int .i64 0, .int .i64 0] 47) := ⟨_, rfl⟩
  have hB0 : Below w.heap.size w W0 := by subst hW; exact (((Below.refl _ _).alloc (Nat.le_refl _) _).alloc (by simp) _).alloc (by simp; omega) _
  go_enter Tryz.func64, Tryz.ntmps64
  go_wp2_with fail
  rw [← hW]
  have ra : W0.heap[w.heap.size]? = some (.cells #[.int .i64 a0, .int .i64 a1, .int .i64 a2] 47 (0, 0)) := by subst hW; exact (Below.heap_alloc _ _ _ (by simp; omega)).trans ((Below.heap_alloc _ _ _ (by simp)).trans (heap_alloc_new w _))
  have hz : W0.heap.size = w.heap.size + 1 + 1 + 1 := by subst hW; simp
  have rb : W0.heap[w.heap.size + 1]? = some (.cells #[.int .i64 b0, .int .i64 b1, .int .i64 b2] 47 (0, 0)) := by
    have := heap_alloc_new (w.alloc (.cells #[.int .i64 a0, .int .i64 a1, .int .i64 a2] 47)) (.cells #[.int .i64 b0, .int .i64 b1, .int .i64 b2] 47)
    rw [hW, Below.heap_alloc _ _ _ (by simp)]
    simpa using this
  have rr : W0.heap[w.heap.size + 1 + 1]? = some (.cells #[.int .i64 0, .int .i64 0, .int .i64 0] 47 (0, 0)) := by
    have := heap_alloc_new ((w.alloc (.cells #[.int .i64 a0, .int .i64 a1, .int .i64 a2] 47)).alloc (.cells #[.int .i64 b0, .int .i64 b1, .int .i64 b2] 47)) (.cells #[.int .i64 0, .int .i64 0, .int .i64 0] 47)
    rw [← hW] at this
    simpa using this
  clear hW
  have rc : RowK (W0.alloc (.cells #[.int .i64 0, .int .i64 0, .int .i64 0] 47)) 47 (w.heap.size + 1 + 1 + 1) [.int .i64 0, .int .i64 0, .int .i64 0] := by
    have := heap_alloc_new W0 (.cells #[.int .i64 0, .int .i64 0, .int .i64 0] 47)
    rw [hz] at this
    exact this
  have hX : Below W0.heap.size W0 (W0.alloc (.cells #[.int .i64 0, .int .i64 0, .int .i64 0] 47)) := (Below.refl _ _).alloc (Nat.le_refl _) _
  generalize W0.alloc (.cells #[.int .i64 0, .int .i64 0, .int .i64 0] 47) = W1 at rc hX ⊢
  have kk : ∀ V, Below W0.heap.size W0 V → (V.cell? ⟨w.heap.size, 0, none⟩ = some (.int .i64 a0) ∧ V.cell? ⟨w.heap.size, 1, none⟩ = some (.int .i64 a1) ∧ V.cell? ⟨w.heap.size, 2, none⟩ = some (.int .i64 a2)) ∧ V.cell? ⟨w.heap.size + 1, 0, none⟩ = some (.int .i64 b0) ∧ V.cell? ⟨w.heap.size + 1, 1, none⟩ = some (.int .i64 b1) ∧ V.cell? ⟨w.heap.size + 1, 2, none⟩ = some (.int .i64 b2) := fun V h => ⟨three_cellsS ((h.block _ (by omega)).trans ra), three_cellsS ((h.block _ (by omega)).trans rb)⟩
  have hn1 : w.heap.size ≠ w.heap.size + 1 + 1 + 1 := by omega
  have hn2 : w.heap.size + 1 ≠ w.heap.size + 1 + 1 + 1 := by omega
  refine wp_loop_rounds 4 ?_
  rw [rounds_succ]
  have hky := kk _ hX.drew
  have o0 : W1.cell? ⟨w.heap.size + 1 + 1 + 1, 0, none⟩ = some (.int .i64 0) := rc.cell (by rfl)
  have fz := rc.fz 0
  have hX1 := (hX.setCell (p := ⟨w.heap.size + 1 + 1 + 1, 0, none⟩) (Nat.le_of_eq hz) (.int .i64 t0)).drew
  have rc2 : RowK (W1.setCell ⟨w.heap.size + 1 + 1 + 1, 0, none⟩ (.int .i64 t0)).drew 47 (w.heap.size + 1 + 1 + 1) [.int .i64 t0, .int .i64 0, .int .i64 0] := rc.set 0 _
  have hkyA := kk _ hX1
  go_wp2_with fail
  go_region_held3 (fun w' => (w'.cell? ⟨w.heap.size, 0, none⟩ = some (.int .i64 a0) ∧ w'.cell? ⟨w.heap.size, 1, none⟩ = some (.int .i64 a1) ∧ w'.cell? ⟨w.heap.size, 2, none⟩ = some (.int .i64 a2)) ∧ w'.cell? ⟨w.heap.size + 1, 0, none⟩ = some (.int .i64 b0) ∧ w'.cell? ⟨w.heap.size + 1, 1, none⟩ = some (.int .i64 b1) ∧ w'.cell? ⟨w.heap.size + 1, 2, none⟩ = some (.int .i64 b2)) (first | exact hky | exact hkyA | go_keep) (fail)
  rename_i hHeld
  clear hHeld hky hkyA o0 fz rc hX
  have rc := rc2
  clear rc2
  generalize (W1.setCell ⟨w.heap.size + 1 + 1 + 1, 0, none⟩ (.int .i64 t0)).drew = W2 at rc hX1 ⊢
  go_wp2
  rw [rounds_succ]
  have hky := kk _ hX1.drew
  have o1 : W2.cell? ⟨w.heap.size + 1 + 1 + 1, 1, none⟩ = some (.int .i64 0) := rc.cell (by rfl)
  have fz := rc.fz 1
  have hX2 := (hX1.setCell (p := ⟨w.heap.size + 1 + 1 + 1, 1, none⟩) (Nat.le_of_eq hz) (.int .i64 t1)).drew
  have rc2 : RowK (W2.setCell ⟨w.heap.size + 1 + 1 + 1, 1, none⟩ (.int .i64 t1)).drew 47 (w.heap.size + 1 + 1 + 1) [.int .i64 t0, .int .i64 t1, .int .i64 0] := rc.set 1 _
  have hkyA := kk _ hX2
  go_wp2_with fail
  go_region_held3 (fun w' => (w'.cell? ⟨w.heap.size, 0, none⟩ = some (.int .i64 a0) ∧ w'.cell? ⟨w.heap.size, 1, none⟩ = some (.int .i64 a1) ∧ w'.cell? ⟨w.heap.size, 2, none⟩ = some (.int .i64 a2)) ∧ w'.cell? ⟨w.heap.size + 1, 0, none⟩ = some (.int .i64 b0) ∧ w'.cell? ⟨w.heap.size + 1, 1, none⟩ = some (.int .i64 b1) ∧ w'.cell? ⟨w.heap.size + 1, 2, none⟩ = some (.int .i64 b2)) (first | exact hky | exact hkyA | go_keep) (fail)
  rename_i hHeld
  clear hHeld hky hkyA o1 fz rc hX1
  have rc := rc2
  clear rc2
  generalize (W2.setCell ⟨w.heap.size + 1 + 1 + 1, 1, none⟩ (.int .i64 t1)).drew = W3 at rc hX2 ⊢
  go_wp2
  rw [rounds_succ]
  have hky := kk _ hX2.drew
  have o2 : W3.cell? ⟨w.heap.size + 1 + 1 + 1, 2, none⟩ = some (.int .i64 0) := rc.cell (by rfl)
  have fz := rc.fz 2
  have hX3 := (hX2.setCell (p := ⟨w.heap.size + 1 + 1 + 1, 2, none⟩) (Nat.le_of_eq hz) (.int .i64 t2)).drew
  have rc2 : RowK (W3.setCell ⟨w.heap.size + 1 + 1 + 1, 2, none⟩ (.int .i64 t2)).drew 47 (w.heap.size + 1 + 1 + 1) [.int .i64 t0, .int .i64 t1, .int .i64 t2] := rc.set 2 _
  have hkyA := kk _ hX3
  go_wp2_with fail
  go_region_held3 (fun w' => (w'.cell? ⟨w.heap.size, 0, none⟩ = some (.int .i64 a0) ∧ w'.cell? ⟨w.heap.size, 1, none⟩ = some (.int .i64 a1) ∧ w'.cell? ⟨w.heap.size, 2, none⟩ = some (.int .i64 a2)) ∧ w'.cell? ⟨w.heap.size + 1, 0, none⟩ = some (.int .i64 b0) ∧ w'.cell? ⟨w.heap.size + 1, 1, none⟩ = some (.int .i64 b1) ∧ w'.cell? ⟨w.heap.size + 1, 2, none⟩ = some (.int .i64 b2)) (first | exact hky | exact hkyA | go_keep) (fail)
  rename_i hHeld
  clear hHeld hky hkyA o2 fz rc hX2
  have rc := rc2
  clear rc2
  generalize (W3.setCell ⟨w.heap.size + 1 + 1 + 1, 2, none⟩ (.int .i64 t2)).drew = W4 at rc hX3 ⊢
  go_wp2
  have y0 : W4.cell? ⟨w.heap.size + 1 + 1 + 1, 0, none⟩ = some (.int .i64 t0) := rc.cell (by rfl)
  have y1 : W4.cell? ⟨w.heap.size + 1 + 1 + 1, 1, none⟩ = some (.int .i64 t1) := rc.cell (by rfl)
  have y2 : W4.cell? ⟨w.heap.size + 1 + 1 + 1, 2, none⟩ = some (.int .i64 t2) := rc.cell (by rfl)
  have r4 : RowK W4 47 (w.heap.size + 1 + 1) [.int .i64 0, .int .i64 0, .int .i64 0] := (hX3.block _ (by omega)).trans rr
  have z0 : W4.cell? ⟨w.heap.size + 1 + 1, 0, none⟩ = some (.int .i64 0) := r4.cell (by rfl)
  have z1 : W4.cell? ⟨w.heap.size + 1 + 1, 1, none⟩ = some (.int .i64 0) := r4.cell (by rfl)
  have z2 : W4.cell? ⟨w.heap.size + 1 + 1, 2, none⟩ = some (.int .i64 0) := r4.cell (by rfl)
  have f0 := r4.fz 0
  have f1 := r4.fz 1
  have f2 := r4.fz 2
  have hF : (((W4.setCell ⟨w.heap.size + 1 + 1, 0, none⟩ (.int .i64 t0)).setCell ⟨w.heap.size + 1 + 1, 1, none⟩ (.int .i64 t1)).setCell ⟨w.heap.size + 1 + 1, 2, none⟩ (.int .i64 t2)).heap[w.heap.size + 1 + 1]? = some (.cells #[.int .i64 t0, .int .i64 t1, .int .i64 t2] 47 (0, 0)) := ((r4.set 0 (.int .i64 t0)).set 1 (.int .i64 t1)).set 2 (.int .i64 t2)
  have hXw := hB0.trans (hX3.mono hB0.size)
  have hXf : Below w.heap.size w (((W4.setCell ⟨w.heap.size + 1 + 1, 0, none⟩ (.int .i64 t0)).setCell ⟨w.heap.size + 1 + 1, 1, none⟩ (.int .i64 t1)).setCell ⟨w.heap.size + 1 + 1, 2, none⟩ (.int .i64 t2)) := ((hXw.setCell (p := ⟨w.heap.size + 1 + 1, 0, none⟩) (by show w.heap.size ≤ w.heap.size + 1 + 1; omega) _).setCell (p := ⟨w.heap.size + 1 + 1, 1, none⟩) (by show w.heap.size ≤ w.heap.size + 1 + 1; omega) _).setCell (p := ⟨w.heap.size + 1 + 1, 2, none⟩) (by show w.heap.size ≤ w.heap.size + 1 + 1; omega) _
  have HF := Lib.hid hF
  have HX := Lib.hid hXf
  clear hF hXf hXw r4 rc rr ra rb hX3 kk hB0 e0 e1 e2 s0 s1 s2 p0 p1 p2 q0 q1 q2
  rw [rounds_succ]
  go_wp2
  refine bodyPost_ret (results_cell_row rfl _ _ _ 47 #[.int .i64 t0, .int .i64 t1, .int .i64 t2] (0, 0) _ rfl HF.out Tryz.underlying47 rfl (by kernel_rfl)) rfl ?_
  exact ⟨rfl, HX.out⟩
end Go.Proofs
end

section
/- Shades: the colour of a mix of two tabs, and of all mixes. -/
namespace Go.Proofs
open Go.RowKit Go.MapKept
set_option maxHeartbeats 16000000
set_option maxRecDepth 1000000
theorem shMixCol_ok (l : List TabT) (A : Option Addr) (cap gb : Nat) (x y z : Int) (i k : Nat) (e : Int) (s1 s2 : ByteArray) (c1 c2 : Cel) (w : World) (hg : w.heap[gb]? = some (.cells #[.int .i64 x, .int .i64 y, .int .i64 z, .slice A l.length cap] 50 (0, 0))) (hl : SlT w (.slice A l.length cap) l)
    (h1 : l[i]? = some (s1, c1)) (h2 : l[k]? = some (s2, c2)) (he : 1 ≤ e ∧ e ≤ 7) (k1 : ColOk c1 (-3000) 3000) (k2 : ColOk c2 (-3000) 3000) :
    Calls Tryz.prog 63 #[.agg #[.int .i64 i, .int .i64 k, .int .i64 e], .pointer (some ⟨gb, 0, none⟩)] w fun e' w' => e' = .returned (colV (mixC (8 - e) c1 e c2)) ∧ Below w.heap.size w w' := by
  have kM := fun W => shMixed_ok (8 - e) e c1 c2 W (by omega) (by omega) k1 k2
  have hgl : gb < w.heap.size := (Array.getElem?_eq_some_iff.1 hg).1
  have hil : i < l.length := (List.getElem?_eq_some_iff.1 h1).1
  have hkl : k < l.length := (List.getElem?_eq_some_iff.1 h2).1
  obtain ⟨b, o, s1', x1, y1, z1, rfl, -, hb, hc1, p0, p1, p2, p3⟩ := hl.cells hil
  obtain ⟨b', o', s2', x2, y2, z2, e5, -, hb', hc2, q0, q1, q2, q3⟩ := hl.cells hkl
  obtain ⟨rfl, rfl⟩ : b = b' ∧ o = o' := by injection e5 with e6; injection e6 with e7 e8; exact ⟨e7, e8⟩
  obtain ⟨rfl, rfl⟩ : s1 = s1' ∧ c1 = (x1, y1, z1) := by have := h1.symm.trans hc1; simpa using this
  obtain ⟨rfl, rfl⟩ : s2 = s2' ∧ c2 = (x2, y2, z2) := by have := h2.symm.trans hc2; simpa using this
  clear e5 hc1 hc2 h1 h2 k1 k2
  unfold colV at kM ⊢
  generalize mixC (8 - e) (x1, y1, z1) e (x2, y2, z2) = M at kM ⊢
  obtain ⟨m0, m1, m2⟩ := M
  dsimp only at kM ⊢
  have u1 := wrap64_small (n := 8 - e) (by omega)
  have u2 := wrap_small (n := 8 - e) (by omega)
  have hi0 : (0 : Int) ≤ i := by omega
  have hi1 : (i : Int) < l.length := by omega
  have hk0 : (0 : Int) ≤ k := by omega
  have hk1 : (k : Int) < l.length := by omega
  obtain ⟨W0, hW⟩ : ∃ W0, W0 = (w.alloc (.cells #[.int .i64 i, .int .i64 k, .int .i64 e] 60)).alloc (.cells #[.int .i64 0, .int .i64 0, .int .i64 0] 47) := ⟨_, rfl⟩
  have hB0 : Below w.heap.size w W0 := by subst hW; exact ((Below.refl _ _).alloc (Nat.le_refl _) _).alloc (by simp) _
  have hz0 : W0.heap.size = w.heap.size + 1 + 1 := by subst hW; simp
  have rm : W0.heap[w.heap.size]? = some (.cells #[.int .i64 i, .int .i64 k, .int .i64 e] 60 (0, 0)) := by subst hW; exact (Below.heap_alloc _ _ _ (by simp)).trans (heap_alloc_new w _)
  have rr : RowK W0 47 (w.heap.size + 1) [.int .i64 0, .int .i64 0, .int .i64 0] := by
    have := heap_alloc_new (w.alloc (.cells #[.int .i64 i, .int .i64 k, .int .i64 e] 60)) (.cells #[.int .i64 0, .int .i64 0, .int .i64 0] 47)
    rw [← hW] at this
    unfold RowK
    simpa using this
  have hz2 : w.heap.size + 1 < W0.heap.size := by omega
  have kk : ∀ V, Below (w.heap.size + 1) W0 V → (V.cell? ⟨gb, 3, none⟩ = some (.slice (some ⟨b, o, none⟩) l.length cap)) ∧ (V.cell? ⟨w.heap.size, 0, none⟩ = some (.int .i64 i) ∧ V.cell? ⟨w.heap.size, 1, none⟩ = some (.int .i64 k) ∧ V.cell? ⟨w.heap.size, 2, none⟩ = some (.int .i64 e)) ∧ (V.cell? ⟨b, o + i * 4 + 1, none⟩ = some (.int .i64 x1) ∧ V.cell? ⟨b, o + i * 4 + 1 + 1, none⟩ = some (.int .i64 y1) ∧ V.cell? ⟨b, o + i * 4 + 1 + 2, none⟩ = some (.int .i64 z1)) ∧ V.cell? ⟨b, o + k * 4 + 1, none⟩ = some (.int .i64 x2) ∧ V.cell? ⟨b, o + k * 4 + 1 + 1, none⟩ = some (.int .i64 y2) ∧ V.cell? ⟨b, o + k * 4 + 1 + 2, none⟩ = some (.int .i64 z2) := fun V h => by
    have hV := hB0.trans (h.mono (Nat.le_succ _))
    exact ⟨(four_cells ((hV.block _ hgl).trans hg)).2.2.2, three_cellsS ((h.block _ (by omega)).trans rm), ⟨(hV.cell (p := ⟨b, _, none⟩) hb).trans p1, (hV.cell (p := ⟨b, _, none⟩) hb).trans p2, (hV.cell (p := ⟨b, _, none⟩) hb).trans p3⟩, (hV.cell (p := ⟨b, _, none⟩) hb).trans q1, (hV.cell (p := ⟨b, _, none⟩) hb).trans q2, (hV.cell (p := ⟨b, _, none⟩) hb).trans q3⟩
  have hD := (Below.refl W0.heap.size W0).drew
  have hky := kk _ (hD.mono (Nat.le_of_lt hz2))
  clear hl hg p0 p1 p2 p3 q0 q1 q2 q3 rm
  go_enter Tryz.func63, Tryz.ntmps63
  go_wp2_with fail
  rw [← hW]
  clear hW
  go_region_held3 (fun V => (V.cell? ⟨gb, 3, none⟩ = some (.slice (some ⟨b, o, none⟩) l.length cap)) ∧ (V.cell? ⟨w.heap.size, 0, none⟩ = some (.int .i64 i) ∧ V.cell? ⟨w.heap.size, 1, none⟩ = some (.int .i64 k) ∧ V.cell? ⟨w.heap.size, 2, none⟩ = some (.int .i64 e)) ∧ (V.cell? ⟨b, o + i * 4 + 1, none⟩ = some (.int .i64 x1) ∧ V.cell? ⟨b, o + i * 4 + 1 + 1, none⟩ = some (.int .i64 y1) ∧ V.cell? ⟨b, o + i * 4 + 1 + 2, none⟩ = some (.int .i64 z1)) ∧ V.cell? ⟨b, o + k * 4 + 1, none⟩ = some (.int .i64 x2) ∧ V.cell? ⟨b, o + k * 4 + 1 + 1, none⟩ = some (.int .i64 y2) ∧ V.cell? ⟨b, o + k * 4 + 1 + 2, none⟩ = some (.int .i64 z2)) (first | exact hky | exact hkyA | go_keep)
    (first
      | (go_at_call 64; refine (kM _).mono ?_; rintro e' v1 ⟨rfl, hQ1⟩; have hX1 := (hD.trans (hQ1.mono hD.size)).mono (Nat.le_of_lt hz2); have hky := kk _ hX1; have r4 : RowK v1 47 (w.heap.size + 1) [.int .i64 0, .int .i64 0, .int .i64 0] := ((hD.trans (hQ1.mono hD.size)).block _ hz2).trans rr; have z0 : v1.cell? ⟨w.heap.size + 1, 0, none⟩ = some (.int .i64 0) := r4.cell (by rfl); have z1 : v1.cell? ⟨w.heap.size + 1, 1, none⟩ = some (.int .i64 0) := r4.cell (by rfl); have z2 : v1.cell? ⟨w.heap.size + 1, 2, none⟩ = some (.int .i64 0) := r4.cell (by rfl); have f0 := r4.fz 0; have f1 := r4.fz 1; have f2 := r4.fz 2; have hXf := ((hX1.setCell (p := ⟨w.heap.size + 1, 0, none⟩) (Nat.le_refl _) (.int .i64 m0)).setCell (p := ⟨w.heap.size + 1, 1, none⟩) (Nat.le_refl _) (.int .i64 m1)).setCell (p := ⟨w.heap.size + 1, 2, none⟩) (Nat.le_refl _) (.int .i64 m2); have hkyA := kk _ hXf))
  rename_i hHeld
  clear hHeld hky hkyA kk kM
  have hF : (((v1.setCell ⟨w.heap.size + 1, 0, none⟩ (.int .i64 m0)).setCell ⟨w.heap.size + 1, 1, none⟩ (.int .i64 m1)).setCell ⟨w.heap.size + 1, 2, none⟩ (.int .i64 m2)).heap[w.heap.size + 1]? = some (.cells #[.int .i64 m0, .int .i64 m1, .int .i64 m2] 47 (0, 0)) := ((r4.set 0 (.int .i64 m0)).set 1 (.int .i64 m1)).set 2 (.int .i64 m2)
  have hXw := hB0.trans (hXf.mono (Nat.le_succ _))
  have HF := Lib.hid hF
  have HX := Lib.hid hXw
  clear hF hXw hXf r4 rr hB0 hX1 hQ1 hD z0 z1 z2 f0 f1 f2
  go_wp2
  refine bodyPost_ret (results_cell_row rfl _ _ _ 47 #[.int .i64 m0, .int .i64 m1, .int .i64 m2] (0, 0) _ rfl HF.out Tryz.underlying47 rfl (by kernel_rfl)) rfl ?_
  exact ⟨rfl, HX.out⟩
end Go.Proofs
end

section
/- Shades: the fixed example, and all mixes of a few tabs, reckoned. -/
namespace Go.Proofs
open Go.AM Go.RowKit
set_option maxRecDepth 1000000
theorem shd_names : NamesOk Tryz.prog := namesOk_of (by kernel_rfl)
theorem shd_mixed : Tryz.prog.follows .mixedOrders = true := by kernel_rfl
noncomputable def resRow (r : Option (Value × AHeap)) : Option (Nat × List Value) := match r with
  | some (.slice (some ⟨j, 0, none⟩) n _, h) => match h.get j with
    | some (.cells c) => match c.row 0 (n * 3) with
      | some l => some (n, l)
      | none => none
    | _ => none
  | _ => none
theorem row_result {f : FuncId} {args : List Value} {n : Nat} {l : List Value} (e : resRow (callF Tryz.prog noSum 100000 f args h0) = some (n, l)) (ha : args.all flat = true) (hl : l.all flat = true) (hn : 0 < n) (w : World) :
    Calls Tryz.prog f args.toArray w fun e w' => ∃ B o cap, e = .returned (.slice (some ⟨B, o, none⟩) n cap) ∧ B < w'.heap.size ∧ (∀ i v, l[i]? = some v → w'.cell? ⟨B, i + o, none⟩ = some v) ∧ Below w.heap.size w w' := by
  unfold resRow at e
  split at e
  · rename_i j n' c' h heq
    split at e
    · rename_i c hg
      split at e
      · rename_i l' hrow
        simp only [Option.some.injEq, Prod.mk.injEq] at e
        obtain ⟨rfl, rfl⟩ := e
        rw [callF_eq] at heq
        refine (closed_callS shd_names shd_mixed noSum_ok (w := w) heq ha).mono ?_
        rintro e' w' ⟨v', θ', rfl, hv, R, hb⟩
        obtain ⟨-, hbl, hor⟩ := R.obj j _ hg
        have hcr : CRel Tryz.prog θ' (θ'.f j) c w' := hor
        have hcells : ∀ i v, l'[i]? = some v → w'.cell? ⟨(θ'.f j).blk, i + (θ'.f j).sh, none⟩ = some v := fun i v hi => by
          obtain ⟨v2, e2, r2⟩ := hcr.at_ i v (by have := row_at hrow i v hi; simpa using this)
          rwa [flat_eq (List.all_eq_true.1 hl v (List.mem_of_getElem? hi)) r2] at e2
        cases hv with
        | slice _ _ => exact ⟨_, (θ'.f j).sh, _, by rw [Nat.zero_add], hbl, hcells, hb⟩
        | sliceO _ _ _ => exact ⟨_, (θ'.f j).sh, _, by rw [Nat.zero_add], hbl, hcells, hb⟩
        | sliceE _ _ => exact absurd hn (Nat.lt_irrefl 0)
        | sliceZ _ => exact absurd hn (Nat.lt_irrefl 0)
      · cases e
    · cases e
  · cases e
/-- All mixes of n tabs, in their order. -/
def mixL (n : Nat) : List Cel := (List.range n).flatMap fun (i : Nat) => (List.range n).flatMap fun (k : Nat) => if i < k then (List.range 7).map fun (e : Nat) => ((i : Int), (k : Int), (e : Int) + 1) else []
def flat3 (l : List Cel) : List Value := l.flatMap fun c => [.int .i64 c.1, .int .i64 c.2.1, .int .i64 c.2.2]
theorem mix2 : resRow (callF Tryz.prog noSum 100000 61 [.int .i64 2] h0) = some ((mixL 2).length, flat3 (mixL 2)) := by kernel_rfl
theorem mix3 : resRow (callF Tryz.prog noSum 100000 61 [.int .i64 3] h0) = some ((mixL 3).length, flat3 (mixL 3)) := by kernel_rfl
theorem mix4 : resRow (callF Tryz.prog noSum 100000 61 [.int .i64 4] h0) = some ((mixL 4).length, flat3 (mixL 4)) := by kernel_rfl
theorem mix5 : resRow (callF Tryz.prog noSum 100000 61 [.int .i64 5] h0) = some ((mixL 5).length, flat3 (mixL 5)) := by kernel_rfl
theorem mix6 : resRow (callF Tryz.prog noSum 100000 61 [.int .i64 6] h0) = some ((mixL 6).length, flat3 (mixL 6)) := by kernel_rfl
end Go.Proofs
end
