import Derived.Test.YtpjmobpmpghpeaaGreatDoorShdL
import Derived.Deep.RegionHeld3
section
/- ShopNears: Distance of the program. -/
namespace Go.Proofs
open Go.RowKit Go.MapKept
set_option maxHeartbeats 16000000
set_option maxRecDepth 1000000
theorem shDistance_ok (ws a b : Cel) (v : Value) (l : List TabT) (w : World) (hl : SlT w v l) (ok : GuideOk ws l) (ha : ColOk a 0 255) (hb : ColOk b 0 255) :
    Calls Tryz.prog 21 #[gdV ws v, colV a, colV b] w fun e w' => e = .returned (.tuple #[.int .i64 (distW ws b a), .int .i64 0]) ∧ Below w.heap.size w w' := by
  have kG := fun W (h : SlT W v l) => shGuide_ok ws v l W h ok
  have kA := fun W => shColour_ok a W ha
  have kB := fun W => shColour_ok b W hb
  have kN := fun W => shDist_ok ws a b W (by have := ok.wt; unfold ColOk at *; omega) (by unfold ColOk at *; omega) (by unfold ColOk at *; omega)
  generalize distW ws b a = D at kN ⊢
  clear ha hb ok
  obtain ⟨A, cap, rfl⟩ := hl.form
  obtain ⟨x, y, z⟩ := ws
  obtain ⟨p, q, r⟩ := a
  obtain ⟨s, t, u⟩ := b
  have ho := fun blk W => shFirst3 0 0 0 blk 3 W
  rw [show or3 0 0 0 = 0 from rfl] at ho
  unfold gdV colV at *
  unfold tgtV at kN
  dsimp only at *
  obtain ⟨W0, hW⟩ : ∃ W0, W0 = ((w.alloc (.cells #[.int .i64 x, .int .i64 y, .int .i64 z, .slice A l.length cap] 50)).alloc (.cells #[.int .i64 p, .int .i64 q, .int .i64 r] 47)).alloc (.cells #[.int .i64 s, .int .i64 t, .int .i64 u] 47) := ⟨_, rfl⟩
  have hB0 : Below w.heap.size w W0 := by subst hW; exact (((Below.refl _ _).alloc (Nat.le_refl _) _).alloc (by simp) _).alloc (by simp; omega) _
  have hz0 : W0.heap.size = w.heap.size + 1 + 1 + 1 := by subst hW; simp
  have hrow : W0.heap[w.heap.size]? = some (.cells #[.int .i64 x, .int .i64 y, .int .i64 z, .slice A l.length cap] 50 (0, 0)) := by subst hW; exact (Below.heap_alloc _ _ _ (by simp; omega)).trans ((Below.heap_alloc _ _ _ (by simp)).trans (heap_alloc_new w _))
  have hcol : W0.heap[w.heap.size + 1]? = some (.cells #[.int .i64 p, .int .i64 q, .int .i64 r] 47 (0, 0)) := by
    have := heap_alloc_new (w.alloc (.cells #[.int .i64 x, .int .i64 y, .int .i64 z, .slice A l.length cap] 50)) (.cells #[.int .i64 p, .int .i64 q, .int .i64 r] 47)
    rw [hW, Below.heap_alloc _ _ _ (by simp)]
    simpa using this
  have hcol2 : W0.heap[w.heap.size + 1 + 1]? = some (.cells #[.int .i64 s, .int .i64 t, .int .i64 u] 47 (0, 0)) := by
    have := heap_alloc_new ((w.alloc (.cells #[.int .i64 x, .int .i64 y, .int .i64 z, .slice A l.length cap] 50)).alloc (.cells #[.int .i64 p, .int .i64 q, .int .i64 r] 47)) (.cells #[.int .i64 s, .int .i64 t, .int .i64 u] 47)
    rw [← hW] at this
    simpa using this
  have kk : ∀ V, Below W0.heap.size W0 V → (V.cell? ⟨w.heap.size, 0, none⟩ = some (.int .i64 x) ∧ V.cell? ⟨w.heap.size, 1, none⟩ = some (.int .i64 y) ∧ V.cell? ⟨w.heap.size, 2, none⟩ = some (.int .i64 z) ∧ V.cell? ⟨w.heap.size, 3, none⟩ = some (.slice A l.length cap)) ∧ (V.cell? ⟨w.heap.size + 1, 0, none⟩ = some (.int .i64 p) ∧ V.cell? ⟨w.heap.size + 1, 1, none⟩ = some (.int .i64 q) ∧ V.cell? ⟨w.heap.size + 1, 2, none⟩ = some (.int .i64 r)) ∧ (V.cell? ⟨w.heap.size + 1 + 1, 0, none⟩ = some (.int .i64 s) ∧ V.cell? ⟨w.heap.size + 1 + 1, 1, none⟩ = some (.int .i64 t) ∧ V.cell? ⟨w.heap.size + 1 + 1, 2, none⟩ = some (.int .i64 u)) := fun V h => ⟨four_cells ((h.block _ (by omega)).trans hrow), three_cellsS ((h.block _ (by omega)).trans hcol), three_cellsS ((h.block _ (by omega)).trans hcol2)⟩
  have hD := (Below.refl W0.heap.size W0).drew
  have hky := kk _ hD
  have ks : ∀ V, Below W0.heap.size W0 V → SlT V (.slice A l.length cap) l := fun V h => hl.below (hB0.trans (h.mono hB0.size))
  clear hl hrow hcol hcol2
  go_enter Tryz.func21, Tryz.ntmps21
  go_wp2_with fail
  rw [← hW]
  clear hW
  go_region_held3 (fun V => (V.cell? ⟨w.heap.size, 0, none⟩ = some (.int .i64 x) ∧ V.cell? ⟨w.heap.size, 1, none⟩ = some (.int .i64 y) ∧ V.cell? ⟨w.heap.size, 2, none⟩ = some (.int .i64 z) ∧ V.cell? ⟨w.heap.size, 3, none⟩ = some (.slice A l.length cap)) ∧ (V.cell? ⟨w.heap.size + 1, 0, none⟩ = some (.int .i64 p) ∧ V.cell? ⟨w.heap.size + 1, 1, none⟩ = some (.int .i64 q) ∧ V.cell? ⟨w.heap.size + 1, 2, none⟩ = some (.int .i64 r)) ∧ (V.cell? ⟨w.heap.size + 1 + 1, 0, none⟩ = some (.int .i64 s) ∧ V.cell? ⟨w.heap.size + 1 + 1, 1, none⟩ = some (.int .i64 t) ∧ V.cell? ⟨w.heap.size + 1 + 1, 2, none⟩ = some (.int .i64 u))) (first | exact hky | exact hkyA | go_keep)
    (first
      | (go_at_call 29; refine (kG _ (ks _ hD)).mono ?_; rintro e v1 ⟨rfl, hQ1⟩; have hX1 := hD.trans (hQ1.mono hD.size); have hky := kk _ hX1)
      | (go_at_call 55; with_reducible refine (kA _).mono ?_; rintro e v2 ⟨rfl, hQ2⟩; have hX2 := hX1.trans (hQ2.mono hX1.size); have hky := kk _ hX2)
      | (go_at_call 55; with_reducible refine (kB _).mono ?_; rintro e v4 ⟨rfl, hQ4⟩; have hX4 := hX2.trans (hQ4.mono hX2.size); have hky := kk _ hX4; have hX3 := hX4.alloc hX4.size (.cells #[.int .i64 0, .int .i64 0, .int .i64 0] 30); have hkyA := kk _ hX3)
      | (go_at_call 49; refine (ho _ _ ?_ ?_ ?_).mono ?_; (go_simp); (go_simp); (go_simp); rintro e w5 ⟨rfl, rfl⟩))
  rename_i hHeld
  clear hHeld hkyA hky kG kA kB
  generalize v4.alloc (.cells #[.int .i64 0, .int .i64 0, .int .i64 0] 30) = v3 at hX3 ⊢
  obtain ⟨⟨c0, c1, c2, c3⟩, ⟨d0, d1, d2⟩, e0, e1, e2⟩ := kk _ hX3
  have hB3 := hB0.trans (hX3.mono hB0.size)
  clear hX1 hX2 hX4 hQ1 hQ2 hQ4 hD ks ho
  go_wp2_with (go_at_call 56; refine (kN _).mono ?_; rintro e v5 ⟨rfl, hQ5⟩)
  go_ret2
  exact ⟨rfl, hB3.trans (hQ5.mono hB3.size)⟩
end Go.Proofs
end

section
/- Steps of a held region by hand: an operation whose guard says no is passed over first. -/
namespace Go.Proofs
theorem held_no {P : Program} {ops : Array Oper} {Q : Exit → Act → World → Prop} {md : Region.Mode} {S : World → Prop} (i : Nat) (d : Option Tmp) {oi : Oper} {fuel : Nat} {listed : Array Bool} {a : Act} {w : World} (hi : ops[i]? = some oi) (hd : oi.dst = d)
    (hs : Region.noSelect ops = true) (hf : Region.free md ops listed i = true) (hr : (Region.ready md ops listed).contains i = true)
    (hQ : ∀ c a w, Q (.panic c) (a.put oi.dst undef) w → Q (.panic c) a w) (hw : Region.wanted oi (yielded ops a.tmps) = false) (hS : S w)
    (h : wpAnyH P md ops Q S fuel (listed.setIfInBounds i true) (a.put d undef) w) : wpAnyH P md ops Q S (fuel + 1) listed a w := by
  subst hd
  exact wpAnyH_take hi hs hf hr hQ (.inr ⟨hw, rfl⟩) hS h
theorem held_yes {P : Program} {ops : Array Oper} {Q : Exit → Act → World → Prop} {md : Region.Mode} {S : World → Prop} (i : Nat) (d : Option Tmp) (v : Value) {oi : Oper} {fuel : Nat} {listed : Array Bool} {a : Act} {w : World} (hi : ops[i]? = some oi) (hd : oi.dst = d)
    (hs : Region.noSelect ops = true) (hf : Region.free md ops listed i = true) (hr : (Region.ready md ops listed).contains i = true)
    (hQ : ∀ c a w, Q (.panic c) (a.put oi.dst v) w → Q (.panic c) a w) (hw : Region.wanted oi (yielded ops a.tmps) = true) (hy : ∀ w, S w → (execOp a.eval oi).run P w = .ok (.value v) w) (hS : S w)
    (h : wpAnyH P md ops Q S fuel (listed.setIfInBounds i true) (a.put d v) w) : wpAnyH P md ops Q S (fuel + 1) listed a w := by
  subst hd
  exact wpAnyH_take hi hs hf hr hQ (.inl ⟨hw, hy⟩) hS h
end Go.Proofs
end
