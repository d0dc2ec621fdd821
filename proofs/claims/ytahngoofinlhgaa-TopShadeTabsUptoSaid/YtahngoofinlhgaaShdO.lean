/- Shades: the colour of a mix of two tabs, and of all mixes. -/
import Derived.Test.YtahngoofinlhgaaShdN
namespace Go.Proofs
open Go.RowKit Go.MapKept
set_option maxHeartbeats 16000000
set_option maxRecDepth 1000000
theorem shMixCol_ok (l : List TabT) (A : Option Addr) (cap gb : Nat) (x y z : Int) (i k : Nat) (e : Int) (s1 s2 : ByteArray) (c1 c2 : Cel) (w : World) (hg : w.heap[gb]? = some (.cells #[.int .i64 x, .int .i64 y, .int .i64 z, .slice A l.length cap] 47 (0, 0))) (hl : SlT w (.slice A l.length cap) l)
    (h1 : l[i]? = some (s1, c1)) (h2 : l[k]? = some (s2, c2)) (he : 1 ≤ e ∧ e ≤ 7) (k1 : ColOk c1 (-3000) 3000) (k2 : ColOk c2 (-3000) 3000) :
    Calls Try.prog 57 #[.agg #[.int .i64 i, .int .i64 k, .int .i64 e], .pointer (some ⟨gb, 0, none⟩)] w fun e' w' => e' = .returned (colV (mixC (8 - e) c1 e c2)) ∧ Below w.heap.size w w' := by
  have kM := fun W => shMixed_ok (8 - e) e c1 c2 W (by omega) (by omega) k1 k2
  have hgl : gb < w.heap.size := (Array.getElem?_eq_some_iff.1 hg).1
  have hil : i < l.length := (List.getElem?_eq_some_iff.1 h1).1
  have hkl : k < l.length := (List.getElem?_eq_some_iff.1 h2).1
  obtain ⟨b, o, s1', x1, y1, z1, rfl, -, hb, hc1, p0, p1, p2, p3⟩ := hl.cells hil
  obtain ⟨b', o', s2', x2, y2, z2, e5, -, hb', hc2, q0, q1, q2, q3⟩ := hl.cells hkl
  obtain ⟨rfl, rfl⟩ : b = b' ∧ o = o' := by injection e5 with e6; injection e6 with e7 e8; exact ⟨e7, e8⟩
  obtain ⟨rfl, rfl⟩ : s1 = s1' ∧ c1 = (x1, y1, z1) := by have := h1.symm.trans hc1; simpa using this
  obtain ⟨rfl, rfl⟩ : s2 = s2' ∧ c2 = (x2, y2, z2) := by have := h2.symm.trans hc2; simpa using this
  clear e5 hc1 hc2 h1 h2 k1 k2
  unfold colV at kM ⊢
  generalize mixC (8 - e) (x1, y1, z1) e (x2, y2, z2) = M at kM ⊢
  obtain ⟨m0, m1, m2⟩ := M
  dsimp only at kM ⊢
  have u1 := wrap64_small (n := 8 - e) (by omega)
  have u2 := wrap_small (n := 8 - e) (by omega)
  have hi0 : (0 : Int) ≤ i := by omega
  have hi1 : (i : Int) < l.length := by omega
  have hk0 : (0 : Int) ≤ k := by omega
  have hk1 : (k : Int) < l.length := by omega
  obtain ⟨W0, hW⟩ : ∃ W0, W0 = (w.alloc (.cells #[.int .i64 i, .int .i64 k, .int .i64 e] 62)).alloc (.cells #[.int .i64 0, .int .i64 0, .int .i64 0] 44) := ⟨_, rfl⟩
  have hB0 : Below w.heap.size w W0 := by subst hW; exact ((Below.refl _ _).alloc (Nat.le_refl _) _).alloc (by simp) _
  have hz0 : W0.heap.size = w.heap.size + 1 + 1 := by subst hW; simp
  have rm : W0.heap[w.heap.size]? = some (.cells #[.int .i64 i, .int .i64 k, .int .i64 e] 62 (0, 0)) := by subst hW; exact (Below.heap_alloc _ _ _ (by simp)).trans (heap_alloc_new w _)
  have rr : RowK W0 44 (w.heap.size + 1) [.int .i64 0, .int .i64 0, .int .i64 0] := by
    have := heap_alloc_new (w.alloc (.cells #[.int .i64 i, .int .i64 k, .int .i64 e] 62)) (.cells #[.int .i64 0, .int .i64 0, .int .i64 0] 44)
    rw [← hW] at this
    unfold RowK
    simpa using this
  have hz2 : w.heap.size + 1 < W0.heap.size := by omega
  have kk : ∀ V, Below (w.heap.size + 1) W0 V → (V.cell? ⟨gb, 3, none⟩ = some (.slice (some ⟨b, o, none⟩) l.length cap)) ∧ (V.cell? ⟨w.heap.size, 0, none⟩ = some (.int .i64 i) ∧ V.cell? ⟨w.heap.size, 1, none⟩ = some (.int .i64 k) ∧ V.cell? ⟨w.heap.size, 2, none⟩ = some (.int .i64 e)) ∧ (V.cell? ⟨b, o + i * 4 + 1, none⟩ = some (.int .i64 x1) ∧ V.cell? ⟨b, o + i * 4 + 1 + 1, none⟩ = some (.int .i64 y1) ∧ V.cell? ⟨b, o + i * 4 + 1 + 2, none⟩ = some (.int .i64 z1)) ∧ V.cell? ⟨b, o + k * 4 + 1, none⟩ = some (.int .i64 x2) ∧ V.cell? ⟨b, o + k * 4 + 1 + 1, none⟩ = some (.int .i64 y2) ∧ V.cell? ⟨b, o + k * 4 + 1 + 2, none⟩ = some (.int .i64 z2) := fun V h => by
    have hV := hB0.trans (h.mono (Nat.le_succ _))
    exact ⟨(four_cells ((hV.block _ hgl).trans hg)).2.2.2, three_cellsS ((h.block _ (by omega)).trans rm), ⟨(hV.cell (p := ⟨b, _, none⟩) hb).trans p1, (hV.cell (p := ⟨b, _, none⟩) hb).trans p2, (hV.cell (p := ⟨b, _, none⟩) hb).trans p3⟩, (hV.cell (p := ⟨b, _, none⟩) hb).trans q1, (hV.cell (p := ⟨b, _, none⟩) hb).trans q2, (hV.cell (p := ⟨b, _, none⟩) hb).trans q3⟩
  have hD := (Below.refl W0.heap.size W0).drew
  have hky := kk _ (hD.mono (Nat.le_of_lt hz2))
  clear hl hg p0 p1 p2 p3 q0 q1 q2 q3 rm
  go_enter Try.func57, Try.ntmps57
  go_wp2_with fail
  rw [← hW]
  clear hW
  go_region_held3 (fun V => (V.cell? ⟨gb, 3, none⟩ = some (.slice (some ⟨b, o, none⟩) l.length cap)) ∧ (V.cell? ⟨w.heap.size, 0, none⟩ = some (.int .i64 i) ∧ V.cell? ⟨w.heap.size, 1, none⟩ = some (.int .i64 k) ∧ V.cell? ⟨w.heap.size, 2, none⟩ = some (.int .i64 e)) ∧ (V.cell? ⟨b, o + i * 4 + 1, none⟩ = some (.int .i64 x1) ∧ V.cell? ⟨b, o + i * 4 + 1 + 1, none⟩ = some (.int .i64 y1) ∧ V.cell? ⟨b, o + i * 4 + 1 + 2, none⟩ = some (.int .i64 z1)) ∧ V.cell? ⟨b, o + k * 4 + 1, none⟩ = some (.int .i64 x2) ∧ V.cell? ⟨b, o + k * 4 + 1 + 1, none⟩ = some (.int .i64 y2) ∧ V.cell? ⟨b, o + k * 4 + 1 + 2, none⟩ = some (.int .i64 z2)) (first | exact hky | exact hkyA | go_keep)
    (first
      | (go_at_call 58; refine (kM _).mono ?_; rintro e' v1 ⟨rfl, hQ1⟩; have hX1 := (hD.trans (hQ1.mono hD.size)).mono (Nat.le_of_lt hz2); have hky := kk _ hX1; have r4 : RowK v1 44 (w.heap.size + 1) [.int .i64 0, .int .i64 0, .int .i64 0] := ((hD.trans (hQ1.mono hD.size)).block _ hz2).trans rr; have z0 : v1.cell? ⟨w.heap.size + 1, 0, none⟩ = some (.int .i64 0) := r4.cell (by rfl); have z1 : v1.cell? ⟨w.heap.size + 1, 1, none⟩ = some (.int .i64 0) := r4.cell (by rfl); have z2 : v1.cell? ⟨w.heap.size + 1, 2, none⟩ = some (.int .i64 0) := r4.cell (by rfl); have f0 := r4.fz 0; have f1 := r4.fz 1; have f2 := r4.fz 2; have hXf := ((hX1.setCell (p := ⟨w.heap.size + 1, 0, none⟩) (Nat.le_refl _) (.int .i64 m0)).setCell (p := ⟨w.heap.size + 1, 1, none⟩) (Nat.le_refl _) (.int .i64 m1)).setCell (p := ⟨w.heap.size + 1, 2, none⟩) (Nat.le_refl _) (.int .i64 m2); have hkyA := kk _ hXf))
  rename_i hHeld
  clear hHeld hky hkyA kk kM
  have hF : (((v1.setCell ⟨w.heap.size + 1, 0, none⟩ (.int .i64 m0)).setCell ⟨w.heap.size + 1, 1, none⟩ (.int .i64 m1)).setCell ⟨w.heap.size + 1, 2, none⟩ (.int .i64 m2)).heap[w.heap.size + 1]? = some (.cells #[.int .i64 m0, .int .i64 m1, .int .i64 m2] 44 (0, 0)) := ((r4.set 0 (.int .i64 m0)).set 1 (.int .i64 m1)).set 2 (.int .i64 m2)
  have hXw := hB0.trans (hXf.mono (Nat.le_succ _))
  have HF := Lib.hid hF
  have HX := Lib.hid hXw
  clear hF hXw hXf r4 rr hB0 hX1 hQ1 hD z0 z1 z2 f0 f1 f2
  go_wp2
  refine bodyPost_ret (results_cell_row rfl _ _ _ 44 #[.int .i64 m0, .int .i64 m1, .int .i64 m2] (0, 0) _ rfl HF.out Try.underlying44 rfl (by kernel_rfl)) rfl ?_
  exact ⟨rfl, HX.out⟩
end Go.Proofs
