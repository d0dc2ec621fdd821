/- Shades: Nearest of the program. -/
import Derived.Test.YtpjmobpmpghpeaaGreatDoorShdK
namespace Go.Proofs
open Go.RowKit Go.MapKept
set_option maxHeartbeats 16000000
set_option maxRecDepth 1000000
theorem three_cellsS {W : World} {b : Nat} {T : TypeId} {x0 x1 x2 : Value} (h : W.heap[b]? = some (.cells #[x0, x1, x2] T (0, 0))) :
    W.cell? ⟨b, 0, none⟩ = some x0 ∧ W.cell? ⟨b, 1, none⟩ = some x1 ∧ W.cell? ⟨b, 2, none⟩ = some x2 := by
  have hz := fun j => cell_of_row W b j _ _ _ h
  refine ⟨?_, ?_, ?_⟩
  · rw [hz 0]; simp
  · rw [hz 1]; simp
  · rw [hz 2]; simp
theorem shMake : ∀ (fn : Fn) (first cap : Array Value) (w : World), (Instr.makeFunc fn first cap).run Tryz.prog w = .ok (.func fn first cap) w := fun _ _ _ _ => rfl
theorem guide_cols {ws : Cel} {l : List TabT} (ok : GuideOk ws l) : ∀ c ∈ l.map (·.2), ColOk c (-3000) 3000 := fun c hc => by
  obtain ⟨t, ht, rfl⟩ := List.mem_map.1 hc
  obtain ⟨i, hi⟩ := List.mem_iff_getElem?.1 ht
  have := (ok.at_ i t hi).2
  unfold ColOk at *
  omega
theorem shNearest_ok (ws c : Cel) (v : Value) (l : List TabT) (w : World) (hl : SlT w v l) (ok : GuideOk ws l) (hc : ColOk c 0 255) :
    Calls Tryz.prog 22 #[gdV ws v, colV c] w fun e w' => (∃ j : Nat, e = .returned (.tuple #[.int .i64 j, .int .i64 0]) ∧ Least1 (l.map (·.2)) ws c j) ∧ Below w.heap.size w w' := by
  have kG := fun W (h : SlT W v l) => shGuide_ok ws v l W h ok
  have kC := fun W => shColour_ok c W hc
  have kL := fun W (h : SlT W v l) => shListT_ok l v W h (by have := ok.few; omega)
  have hml : (l.map (·.2)).length = l.length := List.length_map _
  have kN := fun b cap W (h : RowAt W b 0 (l.map (·.2))) (hb : b < W.heap.size) => shNear_ok (l.map (·.2)) ws c b 0 cap W h hb (by rw [hml]; exact ok.pos) (by rw [hml]; have := ok.few; omega) (by have := ok.wt; unfold ColOk at *; omega) (by unfold ColOk at *; omega) (guide_cols ok)
  rw [hml] at kN
  generalize l.map (·.2) = m at kN kL ⊢
  clear hc ok hml
  obtain ⟨A, cap, rfl⟩ := hl.form
  obtain ⟨x, y, z⟩ := ws
  obtain ⟨p, q, r⟩ := c
  have ho := fun blk W => shFirst2 0 0 blk 2 W
  rw [show or3 0 0 0 = 0 from rfl] at ho
  unfold gdV colV at *
  unfold tgtV at kN
  dsimp only at *
  obtain ⟨W0, hW⟩ : ∃ W0, W0 = (w.alloc (.cells #[.int .i64 x, .int .i64 y, .int .i64 z, .slice A l.length cap] 50)).alloc (.cells #[.int .i64 p, .int .i64 q, .int .i64 r] 47) := ⟨_, rfl⟩
  have hB0 : Below w.heap.size w W0 := by subst hW; exact ((Below.refl _ _).alloc (Nat.le_refl _) _).alloc (by simp) _
  have hz0 : W0.heap.size = w.heap.size + 1 + 1 := by subst hW; simp
  have hrow : W0.heap[w.heap.size]? = some (.cells #[.int .i64 x, .int .i64 y, .int .i64 z, .slice A l.length cap] 50 (0, 0)) := by subst hW; exact (Below.heap_alloc _ _ _ (by simp)).trans (heap_alloc_new w _)
  have hcol : W0.heap[w.heap.size + 1]? = some (.cells #[.int .i64 p, .int .i64 q, .int .i64 r] 47 (0, 0)) := by
    have := heap_alloc_new (w.alloc (.cells #[.int .i64 x, .int .i64 y, .int .i64 z, .slice A l.length cap] 50)) (.cells #[.int .i64 p, .int .i64 q, .int .i64 r] 47)
    rw [← hW] at this
    simpa using this
  have kk : ∀ V, Below W0.heap.size W0 V → (V.cell? ⟨w.heap.size, 0, none⟩ = some (.int .i64 x) ∧ V.cell? ⟨w.heap.size, 1, none⟩ = some (.int .i64 y) ∧ V.cell? ⟨w.heap.size, 2, none⟩ = some (.int .i64 z) ∧ V.cell? ⟨w.heap.size, 3, none⟩ = some (.slice A l.length cap)) ∧ V.cell? ⟨w.heap.size + 1, 0, none⟩ = some (.int .i64 p) ∧ V.cell? ⟨w.heap.size + 1, 1, none⟩ = some (.int .i64 q) ∧ V.cell? ⟨w.heap.size + 1, 2, none⟩ = some (.int .i64 r) := fun V h => ⟨four_cells ((h.block _ (by omega)).trans hrow), three_cellsS ((h.block _ (by omega)).trans hcol)⟩
  have hD := (Below.refl W0.heap.size W0).drew
  have hky := kk _ hD
  have ks : ∀ V, Below W0.heap.size W0 V → SlT V (.slice A l.length cap) l := fun V h => hl.below (hB0.trans (h.mono hB0.size))
  have hmf := shMake
  clear hl hrow hcol
  go_enter Tryz.func22, Tryz.ntmps22
  go_wp2_with fail
  rw [← hW]
  clear hW
  go_region_held3 (fun w' => (w'.cell? ⟨w.heap.size, 0, none⟩ = some (.int .i64 x) ∧ w'.cell? ⟨w.heap.size, 1, none⟩ = some (.int .i64 y) ∧ w'.cell? ⟨w.heap.size, 2, none⟩ = some (.int .i64 z) ∧ w'.cell? ⟨w.heap.size, 3, none⟩ = some (.slice A l.length cap)) ∧ w'.cell? ⟨w.heap.size + 1, 0, none⟩ = some (.int .i64 p) ∧ w'.cell? ⟨w.heap.size + 1, 1, none⟩ = some (.int .i64 q) ∧ w'.cell? ⟨w.heap.size + 1, 2, none⟩ = some (.int .i64 r)) (first | exact hky | exact hkyA | go_keep)
    (first
      | (go_at_call 29; refine (kG _ (ks _ hD)).mono ?_; rintro e v1 ⟨rfl, hQ1⟩; have hX1 := hD.trans (hQ1.mono hD.size); have hky := kk _ hX1)
      | (go_at_call 55; refine (kC _).mono ?_; rintro e v2 ⟨rfl, hQ2⟩; have hX2 := hX1.trans (hQ2.mono hX1.size); have hky := kk _ hX2; have hX3 := hX2.alloc hX2.size (.cells #[.int .i64 0, .int .i64 0] 30); have hkyA := kk _ hX3)
      | (go_at_call 49; refine (ho _ _ ?_ ?_).mono ?_; (go_simp); (go_simp); rintro e w5 ⟨rfl, rfl⟩))
  rename_i hHeld
  clear hHeld hkyA hky kG kC
  generalize v2.alloc (.cells #[.int .i64 0, .int .i64 0] 30) = v3 at hX3 ⊢
  obtain ⟨⟨c0, c1, c2, c3⟩, d0, d1, d2⟩ := kk _ hX3
  have hs3 := ks _ hX3
  have hB3 := hB0.trans (hX3.mono hB0.size)
  clear hX1 hX2 hQ1 hQ2 hD ks ho
  go_wp2_with (go_at_call 57; refine (kL _ hs3).mono ?_; rintro e v4 ⟨B, rfl, hBl, hRow, hQ4⟩; have hX4 := hX3.trans (hQ4.mono hX3.size); obtain ⟨⟨c0, c1, c2, c3⟩, d0, d1, d2⟩ := kk _ hX4; have hB4 := hB3.trans (hQ4.mono hB3.size))
  go_wp2_with (go_at_call 59; refine (kN _ _ _ hRow hBl).mono ?_; rintro e v5 ⟨⟨j, rfl, hj⟩, hQ5⟩)
  go_ret2
  exact ⟨⟨j, rfl, hj⟩, hB4.trans (hQ5.mono hB4.size)⟩
end Go.Proofs
