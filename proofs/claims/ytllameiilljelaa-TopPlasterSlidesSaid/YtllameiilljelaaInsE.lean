/- insert: stop and Stuck. -/
import Derived.Test.YtllameiilljelaaInsD
import Derived.Test.YtllameiilljelaaHeldF
namespace Go.Proofs
open Go.RowKit
set_option maxHeartbeats 16000000
set_option maxRecDepth 1000000
/-- What a call of stop ends with. -/
def StopE (w : World) (part S : List Cel) (d : Cel) (e : Ending) (w' : World) : Prop := ∃ (k a b c : Int) (h : Bool), e = .returned (.tuple #[.int .i64 k, .agg #[.int .i64 a, .int .i64 b, .int .i64 c], .bool h]) ∧ StopS part S d k (a, b, c) h ∧ Below w.heap.size w w'
theorem six_cellsI {V : World} {B : Nat} {c0 c1 c2 c3 c4 c5 : Value} {T : TypeId} (h : V.heap[B]? = some (.cells #[c0, c1, c2, c3, c4, c5] T (0, 0))) :
    (V.cell? ⟨B, 0, none⟩ = some c0 ∧ V.cell? ⟨B, 1, none⟩ = some c1 ∧ V.cell? ⟨B, 2, none⟩ = some c2 ∧ V.cell? ⟨B, 3, none⟩ = some c3 ∧ V.cell? ⟨B, 4, none⟩ = some c4 ∧ V.cell? ⟨B, 5, none⟩ = some c5) ∧
    (V.frozen? ⟨B, 0, none⟩ = false ∧ V.frozen? ⟨B, 1, none⟩ = false ∧ V.frozen? ⟨B, 2, none⟩ = false ∧ V.frozen? ⟨B, 3, none⟩ = false ∧ V.frozen? ⟨B, 4, none⟩ = false ∧ V.frozen? ⟨B, 5, none⟩ = false) := by
  have zl := fun j => cell_of_row V B j _ _ _ h
  have fz := fun j => frozen_of_row V B j _ _ h
  have z0 := zl 0
  have z1 := zl 1
  have z2 := zl 2
  have z3 := zl 3
  have z4 := zl 4
  have z5 := zl 5
  simp at z0 z1 z2 z3 z4 z5
  exact ⟨⟨z0, z1, z2, z3, z4, z5⟩, fz 0, fz 1, fz 2, fz 3, fz 4, fz 5⟩
theorem six_storedI {W : World} {B : Nat} {c0 c1 c2 c3 c4 c5 d0 d1 d2 d3 d4 d5 : Value} {T : TypeId} (h : W.heap[B]? = some (.cells #[c0, c1, c2, c3, c4, c5] T (0, 0))) :
    ((((((W.setCell ⟨B, 0, none⟩ d0).setCell ⟨B, 1, none⟩ d1).setCell ⟨B, 2, none⟩ d2).setCell ⟨B, 3, none⟩ d3).setCell ⟨B, 4, none⟩ d4).setCell ⟨B, 5, none⟩ d5).heap[B]? = some (.cells #[d0, d1, d2, d3, d4, d5] T (0, 0)) := by
  have hz := heap_setCell_same _ B 5 _ _ d5 (heap_setCell_same _ B 4 _ _ d4 (heap_setCell_same _ B 3 _ _ d3 (heap_setCell_same _ B 2 _ _ d2 (heap_setCell_same _ B 1 _ _ d1 (heap_setCell_same _ B 0 _ _ d0 h)))))
  simpa using hz
theorem twoWays {C G : Nat → World → Prop} {Goal : Prop} (rest : ∀ B W, C B W → G B W) (h : (∀ B W, C B W → G B W) → Goal) : Goal := h rest
theorem stop_ok (m : Nat) (bx : Cel × Cel) (part S : List Cel) (v : Value) (x y z : Int) (w : World) (hl : Sl w v part) (hc : chkI part = 0) (hd : dirI (x, y, z) = 0) (hS : CSet w m S) (hb1 : Near bx.1 1000) (hb2 : Near bx.2 1000) (hbx : InBox S bx)
    (hbw : bx.1.1 ≤ bx.2.1 ∧ bx.1.2.1 ≤ bx.2.2.1 ∧ bx.1.2.2 ≤ bx.2.2.2) :
    Calls Try.prog 25 #[obsV m bx, v, .agg #[.int .i64 x, .int .i64 y, .int .i64 z]] w (StopE w part S (x, y, z)) := by
  obtain ⟨A, cap, rfl⟩ := hl.form
  obtain ⟨hpl, hpn, -⟩ := chkI_zero.1 hc
  obtain ⟨n1, n2, hpin, hpw⟩ := base_in (l := part) (m := 1000) (by omega) hpn
  obtain ⟨⟨b1, b2, b3⟩, ⟨b4, b5, b6⟩⟩ := bx
  unfold obsV
  dsimp only at hbw ⊢
  obtain ⟨W0, hW⟩ : ∃ W0, W0 = ((w.alloc (.cells #[.map (some m), .int .i64 b1, .int .i64 b2, .int .i64 b3, .int .i64 b4, .int .i64 b5, .int .i64 b6] 56)).alloc (.cells #[.int .i64 x, .int .i64 y, .int .i64 z] 26)).alloc (.cells #[.int .i64 0, .int .i64 0, .int .i64 0] 26) := ⟨_, rfl⟩
  have hB0 : Below w.heap.size w W0 := by subst hW; exact (((Below.refl _ _).alloc (Nat.le_refl _) _).alloc (by simp) _).alloc (by simp; omega) _
  have hsz0 : W0.heap.size = w.heap.size + 1 + 1 + 1 := by subst hW; simp
  have c0 : W0.cell? ⟨w.heap.size, 0, none⟩ = some (.map (some m)) := by subst hW; go_simp
  have c1 : W0.cell? ⟨w.heap.size, 1, none⟩ = some (.int .i64 b1) := by subst hW; go_simp
  have c2 : W0.cell? ⟨w.heap.size, 2, none⟩ = some (.int .i64 b2) := by subst hW; go_simp
  have c3 : W0.cell? ⟨w.heap.size, 3, none⟩ = some (.int .i64 b3) := by subst hW; go_simp
  have c4 : W0.cell? ⟨w.heap.size, 4, none⟩ = some (.int .i64 b4) := by subst hW; go_simp
  have c5 : W0.cell? ⟨w.heap.size, 5, none⟩ = some (.int .i64 b5) := by subst hW; go_simp
  have c6 : W0.cell? ⟨w.heap.size, 6, none⟩ = some (.int .i64 b6) := by subst hW; go_simp
  have c7 : W0.cell? ⟨w.heap.size + 1, 0, none⟩ = some (.int .i64 x) := by subst hW; go_simp
  have c8 : W0.cell? ⟨w.heap.size + 1, 1, none⟩ = some (.int .i64 y) := by subst hW; go_simp
  have c9 : W0.cell? ⟨w.heap.size + 1, 2, none⟩ = some (.int .i64 z) := by subst hW; go_simp
  have hr0 : W0.heap[w.heap.size + 1 + 1]? = some (.cells #[.int .i64 0, .int .i64 0, .int .i64 0] 26 (0, 0)) := by
    have := heap_alloc_new ((w.alloc (.cells #[.map (some m), .int .i64 b1, .int .i64 b2, .int .i64 b3, .int .i64 b4, .int .i64 b5, .int .i64 b6] 56)).alloc (.cells #[.int .i64 x, .int .i64 y, .int .i64 z] 26)) (.cells #[.int .i64 0, .int .i64 0, .int .i64 0] 26)
    rw [← hW] at this
    simpa using this
  have kk : ∀ V, Below W0.heap.size W0 V → V.cell? ⟨w.heap.size, 0, none⟩ = some (.map (some m)) ∧ V.cell? ⟨w.heap.size, 1, none⟩ = some (.int .i64 b1) ∧ V.cell? ⟨w.heap.size, 2, none⟩ = some (.int .i64 b2) ∧ V.cell? ⟨w.heap.size, 3, none⟩ = some (.int .i64 b3) ∧ V.cell? ⟨w.heap.size, 4, none⟩ = some (.int .i64 b4) ∧ V.cell? ⟨w.heap.size, 5, none⟩ = some (.int .i64 b5) ∧ V.cell? ⟨w.heap.size, 6, none⟩ = some (.int .i64 b6) ∧ V.cell? ⟨w.heap.size + 1, 0, none⟩ = some (.int .i64 x) ∧ V.cell? ⟨w.heap.size + 1, 1, none⟩ = some (.int .i64 y) ∧ V.cell? ⟨w.heap.size + 1, 2, none⟩ = some (.int .i64 z) := fun V h =>
    ⟨(h.cell (p := ⟨w.heap.size, 0, none⟩) (by show w.heap.size < _; omega)).trans c0, (h.cell (p := ⟨w.heap.size, 1, none⟩) (by show w.heap.size < _; omega)).trans c1, (h.cell (p := ⟨w.heap.size, 2, none⟩) (by show w.heap.size < _; omega)).trans c2, (h.cell (p := ⟨w.heap.size, 3, none⟩) (by show w.heap.size < _; omega)).trans c3, (h.cell (p := ⟨w.heap.size, 4, none⟩) (by show w.heap.size < _; omega)).trans c4, (h.cell (p := ⟨w.heap.size, 5, none⟩) (by show w.heap.size < _; omega)).trans c5, (h.cell (p := ⟨w.heap.size, 6, none⟩) (by show w.heap.size < _; omega)).trans c6, (h.cell (p := ⟨w.heap.size + 1, 0, none⟩) (by show w.heap.size + 1 < _; omega)).trans c7, (h.cell (p := ⟨w.heap.size + 1, 1, none⟩) (by show w.heap.size + 1 < _; omega)).trans c8, (h.cell (p := ⟨w.heap.size + 1, 2, none⟩) (by show w.heap.size + 1 < _; omega)).trans c9⟩
  have hR : ∀ V, Below W0.heap.size W0 V → V.heap[w.heap.size + 1 + 1]? = some (.cells #[.int .i64 0, .int .i64 0, .int .i64 0] 26 (0, 0)) := fun V h => (h.block _ (by omega)).trans hr0
  have hSV : ∀ V, Below W0.heap.size W0 V → CSet V m S := fun V h => (hS.below hB0 hS.lt).below h (by have := hS.lt; omega)
  have hlV : ∀ V, Below W0.heap.size W0 V → Sl V (.slice A part.length cap) part := fun V h => hl.below (hB0.trans (h.mono hB0.size))
  have hX : Below W0.heap.size W0 W0 := Below.refl _ _
  have q := bound_any part _ W0 (hlV _ hX) hc
  generalize baseB part = bp at n1 n2 hpin hpw q
  obtain ⟨⟨p1, p2, p3⟩, ⟨p4, p5, p6⟩⟩ := bp
  unfold boxV at q
  dsimp only at q hpw
  obtain ⟨hx, hy, hz⟩ := dir_zero hd
  clear hl hS c0 c1 c2 c3 c4 c5 c6 c7 c8 c9 hr0 hd hc
  go_enter Try.func25, Try.ntmps25
  go_wp2_with fail
  rw [← hW]
  clear hW
  refine q.mono ?_
  rintro e w2 ⟨⟨r, rfl⟩, hB2⟩
  replace hX := hX.trans (hB2.mono hX.size)
  clear hB2 q
  obtain ⟨W1, hW1⟩ : ∃ W1, W1 = w2.alloc (.cells #[.int .i64 p1, .int .i64 p2, .int .i64 p3, .int .i64 p4, .int .i64 p5, .int .i64 p6] 45) := ⟨_, rfl⟩
  have hX1 : Below W0.heap.size W0 W1 := by rw [hW1]; exact hX.alloc hX.size _
  have hbox0 : W1.heap[w2.heap.size]? = some (.cells #[.int .i64 p1, .int .i64 p2, .int .i64 p3, .int .i64 p4, .int .i64 p5, .int .i64 p6] 45 (0, 0)) := by rw [hW1]; exact heap_alloc_new w2 _
  have hltb : w2.heap.size < W1.heap.size := by rw [hW1]; simp
  have kS : ∀ V, Below W1.heap.size W1 V → V.cell? ⟨w.heap.size, 1, none⟩ = some (.int .i64 b1) ∧ V.cell? ⟨w.heap.size, 2, none⟩ = some (.int .i64 b2) ∧ V.cell? ⟨w.heap.size, 3, none⟩ = some (.int .i64 b3) ∧ V.cell? ⟨w.heap.size, 4, none⟩ = some (.int .i64 b4) ∧ V.cell? ⟨w.heap.size, 5, none⟩ = some (.int .i64 b5) ∧ V.cell? ⟨w.heap.size, 6, none⟩ = some (.int .i64 b6) ∧ V.cell? ⟨w2.heap.size, 0, none⟩ = some (.int .i64 p1) ∧ V.cell? ⟨w2.heap.size, 1, none⟩ = some (.int .i64 p2) ∧ V.cell? ⟨w2.heap.size, 2, none⟩ = some (.int .i64 p3) ∧ V.cell? ⟨w2.heap.size, 3, none⟩ = some (.int .i64 p4) ∧ V.cell? ⟨w2.heap.size, 4, none⟩ = some (.int .i64 p5) ∧ V.cell? ⟨w2.heap.size, 5, none⟩ = some (.int .i64 p6) := fun V h => by
    obtain ⟨_, k1, k2, k3, k4, k5, k6, _, _, _⟩ := kk V (hX1.trans (h.mono hX1.size))
    obtain ⟨⟨z0, z1, z2, z3, z4, z5⟩, _⟩ := six_cellsI ((h.block _ hltb).trans hbox0)
    exact ⟨k1, k2, k3, k4, k5, k6, z0, z1, z2, z3, z4, z5⟩
  have kM1 := fun W => insMinus_ok b1 b2 b3 p4 p5 p6 W (hb1.mono (by omega)) (n2.mono (by omega))
  have kM2 := fun W => insMinus_ok b4 b5 b6 p1 p2 p3 W (hb2.mono (by omega)) (n1.mono (by omega))
  go_wp2_with fail
  rw [← hW1]
  clear hW1 hX
  have hY : Below W1.heap.size W1 W1.drew := (Below.refl _ _).drew
  refine twoWays (C := fun n W => W1.heap.size ≤ n ∧ Below W1.heap.size W1 W ∧ W.heap[n]? = some (.cells #[.int .i64 (b1 - p4), .int .i64 (b2 - p5), .int .i64 (b3 - p6), .int .i64 (b4 - p1), .int .i64 (b5 - p2), .int .i64 (b6 - p3)] 45 (0, 0))) (G := ?G) ?rest (fun key => ?main)
  case main =>
    refine wp_region_held_drew (S := fun w' => w'.cell? ⟨w.heap.size, 1, none⟩ = some (.int .i64 b1) ∧ w'.cell? ⟨w.heap.size, 2, none⟩ = some (.int .i64 b2) ∧ w'.cell? ⟨w.heap.size, 3, none⟩ = some (.int .i64 b3) ∧ w'.cell? ⟨w.heap.size, 4, none⟩ = some (.int .i64 b4) ∧ w'.cell? ⟨w.heap.size, 5, none⟩ = some (.int .i64 b5) ∧ w'.cell? ⟨w.heap.size, 6, none⟩ = some (.int .i64 b6) ∧ w'.cell? ⟨w2.heap.size, 0, none⟩ = some (.int .i64 p1) ∧ w'.cell? ⟨w2.heap.size, 1, none⟩ = some (.int .i64 p2) ∧ w'.cell? ⟨w2.heap.size, 2, none⟩ = some (.int .i64 p3) ∧ w'.cell? ⟨w2.heap.size, 3, none⟩ = some (.int .i64 p4) ∧ w'.cell? ⟨w2.heap.size, 4, none⟩ = some (.int .i64 p5) ∧ w'.cell? ⟨w2.heap.size, 5, none⟩ = some (.int .i64 p6)) (by kernel_rfl) (kS _ hY) (fun hHeld => ?_)
    refine held_yes 0 (some 21) (.pointer (some ⟨w.heap.size, 1, none⟩)) rfl rfl (by kernel_rfl) (by kernel_rfl) (by kernel_rfl) (fun _ _ _ h => h) rfl (fun w' hS => by obtain ⟨t0, t1, t2, t3, t4, t5, t6, t7, t8, t9, t10, t11⟩ := hS; go_simp) hHeld ?_
    try simp only [Act.put, List.setIfInBounds_toArray, List.set_cons_zero, List.set_cons_succ]
    refine held_yes 1 (some 22) (.pointer (some ⟨w.heap.size, 1, none⟩)) rfl rfl (by kernel_rfl) (by kernel_rfl) (by kernel_rfl) (fun _ _ _ h => h) rfl (fun w' hS => by obtain ⟨t0, t1, t2, t3, t4, t5, t6, t7, t8, t9, t10, t11⟩ := hS; go_simp) hHeld ?_
    try simp only [Act.put, List.setIfInBounds_toArray, List.set_cons_zero, List.set_cons_succ]
    refine held_yes 2 (some 23) (.agg #[.int .i64 b1, .int .i64 b2, .int .i64 b3]) rfl rfl (by kernel_rfl) (by kernel_rfl) (by kernel_rfl) (fun _ _ _ h => h) rfl (fun w' hS => by obtain ⟨t0, t1, t2, t3, t4, t5, t6, t7, t8, t9, t10, t11⟩ := hS; go_simp) hHeld ?_
    try simp only [Act.put, List.setIfInBounds_toArray, List.set_cons_zero, List.set_cons_succ]
    refine held_yes 3 (some 24) (.pointer (some ⟨w2.heap.size, 3, none⟩)) rfl rfl (by kernel_rfl) (by kernel_rfl) (by kernel_rfl) (fun _ _ _ h => h) rfl (fun w' hS => by obtain ⟨t0, t1, t2, t3, t4, t5, t6, t7, t8, t9, t10, t11⟩ := hS; go_simp) hHeld ?_
    try simp only [Act.put, List.setIfInBounds_toArray, List.set_cons_zero, List.set_cons_succ]
    refine held_yes 4 (some 25) (.agg #[.int .i64 p4, .int .i64 p5, .int .i64 p6]) rfl rfl (by kernel_rfl) (by kernel_rfl) (by kernel_rfl) (fun _ _ _ h => h) rfl (fun w' hS => by obtain ⟨t0, t1, t2, t3, t4, t5, t6, t7, t8, t9, t10, t11⟩ := hS; go_simp) hHeld ?_
    try simp only [Act.put, List.setIfInBounds_toArray, List.set_cons_zero, List.set_cons_succ]
    refine held_yes 6 (some 27) (.pointer (some ⟨w.heap.size, 1, none⟩)) rfl rfl (by kernel_rfl) (by kernel_rfl) (by kernel_rfl) (fun _ _ _ h => h) rfl (fun w' hS => by obtain ⟨t0, t1, t2, t3, t4, t5, t6, t7, t8, t9, t10, t11⟩ := hS; go_simp) hHeld ?_
    try simp only [Act.put, List.setIfInBounds_toArray, List.set_cons_zero, List.set_cons_succ]
    refine held_yes 7 (some 28) (.pointer (some ⟨w.heap.size, 4, none⟩)) rfl rfl (by kernel_rfl) (by kernel_rfl) (by kernel_rfl) (fun _ _ _ h => h) rfl (fun w' hS => by obtain ⟨t0, t1, t2, t3, t4, t5, t6, t7, t8, t9, t10, t11⟩ := hS; go_simp) hHeld ?_
    try simp only [Act.put, List.setIfInBounds_toArray, List.set_cons_zero, List.set_cons_succ]
    refine held_yes 8 (some 29) (.agg #[.int .i64 b4, .int .i64 b5, .int .i64 b6]) rfl rfl (by kernel_rfl) (by kernel_rfl) (by kernel_rfl) (fun _ _ _ h => h) rfl (fun w' hS => by obtain ⟨t0, t1, t2, t3, t4, t5, t6, t7, t8, t9, t10, t11⟩ := hS; go_simp) hHeld ?_
    try simp only [Act.put, List.setIfInBounds_toArray, List.set_cons_zero, List.set_cons_succ]
    refine held_yes 9 (some 30) (.pointer (some ⟨w2.heap.size, 0, none⟩)) rfl rfl (by kernel_rfl) (by kernel_rfl) (by kernel_rfl) (fun _ _ _ h => h) rfl (fun w' hS => by obtain ⟨t0, t1, t2, t3, t4, t5, t6, t7, t8, t9, t10, t11⟩ := hS; go_simp) hHeld ?_
    try simp only [Act.put, List.setIfInBounds_toArray, List.set_cons_zero, List.set_cons_succ]
    refine held_yes 10 (some 31) (.agg #[.int .i64 p1, .int .i64 p2, .int .i64 p3]) rfl rfl (by kernel_rfl) (by kernel_rfl) (by kernel_rfl) (fun _ _ _ h => h) rfl (fun w' hS => by obtain ⟨t0, t1, t2, t3, t4, t5, t6, t7, t8, t9, t10, t11⟩ := hS; go_simp) hHeld ?_
    try simp only [Act.put, List.setIfInBounds_toArray, List.set_cons_zero, List.set_cons_succ]
    refine wpAnyH_ready (rs := [5, 13]) (by kernel_rfl) (by simp) ?_
    refine AllReadyH.cons rfl (fun K hK => ?_) (AllReadyH.cons rfl (fun K hK => ?_) AllReadyH.nil)
    · go_simp
      refine (kM1 _).mono ?_
      rintro e w3 ⟨rfl, hB⟩
      replace hY := hY.trans (hB.mono hY.size)
      refine hK.out _ _ (kS _ hY) (fun hHeld => ?_)
      clear hK K hB
      try simp only [Act.put, List.setIfInBounds_toArray, List.set_cons_zero, List.set_cons_succ]
      refine wpAnyH_ready (rs := [11, 13]) (by kernel_rfl) (by simp) ?_
      refine AllReadyH.cons rfl (fun K hK => ?_) (AllReadyH.cons rfl (fun K hK => ?_) AllReadyH.nil)
      · go_simp
        refine (kM2 _).mono ?_
        rintro e w4 ⟨rfl, hB⟩
        replace hY := hY.trans (hB.mono hY.size)
        refine hK.out _ _ (kS _ hY) (fun hHeld => ?_)
        clear hK K hB
        try simp only [Act.put, List.setIfInBounds_toArray, List.set_cons_zero, List.set_cons_succ]
        refine held_yes 12 (some 33) ((.agg #[.int .i64 (b1 - p4), .int .i64 (b2 - p5), .int .i64 (b3 - p6), .int .i64 (b4 - p1), .int .i64 (b5 - p2), .int .i64 (b6 - p3)])) rfl rfl (by kernel_rfl) (by kernel_rfl) (by kernel_rfl) (fun _ _ _ h => h) rfl (fun w' hS => by obtain ⟨t0, t1, t2, t3, t4, t5, t6, t7, t8, t9, t10, t11⟩ := hS; go_simp) hHeld ?_
        try simp only [Act.put, List.setIfInBounds_toArray, List.set_cons_zero, List.set_cons_succ]
        refine wpAnyH_ready (rs := [13]) (by kernel_rfl) (by simp) ?_
        refine AllReadyH.cons rfl (fun K hK => ?_) AllReadyH.nil
        go_simp
        have ff := six_cellsI (heap_alloc_new w4 (.cells #[.int .i64 0, .int .i64 0, .int .i64 0, .int .i64 0, .int .i64 0, .int .i64 0] 45))
        obtain ⟨⟨z0, z1, z2, z3, z4, z5⟩, f0, f1, f2, f3, f4, f5⟩ := ff
        have hY0 := hY
        replace hY := hY.alloc hY.size (.cells #[.int .i64 0, .int .i64 0, .int .i64 0, .int .i64 0, .int .i64 0, .int .i64 0] 45)
        refine hK.out _ _ (kS _ hY) (fun hHeld => ?_)
        clear hK K
        try simp only [Act.put, List.setIfInBounds_toArray, List.set_cons_zero, List.set_cons_succ]
        refine wpAnyH_ready (rs := [14]) (by kernel_rfl) (by simp) ?_
        refine AllReadyH.cons rfl (fun K hK => ?_) AllReadyH.nil
        go_simp
        have hC : W1.heap.size ≤ w4.heap.size ∧ Below W1.heap.size W1 (w4.alloc (.cells #[.int .i64 (b1 - p4), .int .i64 (b2 - p5), .int .i64 (b3 - p6), .int .i64 (b4 - p1), .int .i64 (b5 - p2), .int .i64 (b6 - p3)] 45)) ∧ (w4.alloc (.cells #[.int .i64 (b1 - p4), .int .i64 (b2 - p5), .int .i64 (b3 - p6), .int .i64 (b4 - p1), .int .i64 (b5 - p2), .int .i64 (b6 - p3)] 45)).heap[w4.heap.size]? = some (.cells #[.int .i64 (b1 - p4), .int .i64 (b2 - p5), .int .i64 (b3 - p6), .int .i64 (b4 - p1), .int .i64 (b5 - p2), .int .i64 (b6 - p3)] 45 (0, 0)) := ⟨hY0.size, hY0.alloc hY0.size _, heap_alloc_new w4 _⟩
        refine hK.out _ _ (kS _ hC.2.1) (fun hHeld => ?_)
        clear hK K
        try simp only [Act.put, List.setIfInBounds_toArray, List.set_cons_zero, List.set_cons_succ]
        refine wpAnyH_done (by kernel_rfl) ?_ _
        clear hHeld
        generalize (w4.alloc (.cells #[.int .i64 (b1 - p4), .int .i64 (b2 - p5), .int .i64 (b3 - p6), .int .i64 (b4 - p1), .int .i64 (b5 - p2), .int .i64 (b6 - p3)] 45)) = Wf at hC ⊢
        generalize w4.heap.size = nn at hC ⊢
        exact key nn Wf hC
      · go_simp
        have hYs := hY.size
        replace hY := hY.alloc hY.size (.cells #[.int .i64 0, .int .i64 0, .int .i64 0, .int .i64 0, .int .i64 0, .int .i64 0] 45)
        have hrow := heap_alloc_new w3 (.cells #[.int .i64 0, .int .i64 0, .int .i64 0, .int .i64 0, .int .i64 0, .int .i64 0] 45)
        refine hK.out _ _ (kS _ hY) (fun hHeld => ?_)
        clear hK K
        try simp only [Act.put, List.setIfInBounds_toArray, List.set_cons_zero, List.set_cons_succ]
        refine wpAnyH_ready (rs := [11]) (by kernel_rfl) (by simp) ?_
        refine AllReadyH.cons rfl (fun K hK => ?_) AllReadyH.nil
        go_simp
        refine (kM2 _).mono ?_
        rintro e w4 ⟨rfl, hB⟩
        replace hY := hY.trans (hB.mono hY.size)
        replace hrow := (hB.block _ (Array.getElem?_eq_some_iff.1 hrow).1).trans hrow
        obtain ⟨⟨z0, z1, z2, z3, z4, z5⟩, f0, f1, f2, f3, f4, f5⟩ := six_cellsI hrow
        refine hK.out _ _ (kS _ hY) (fun hHeld => ?_)
        clear hK K hB
        try simp only [Act.put, List.setIfInBounds_toArray, List.set_cons_zero, List.set_cons_succ]
        refine held_yes 12 (some 33) ((.agg #[.int .i64 (b1 - p4), .int .i64 (b2 - p5), .int .i64 (b3 - p6), .int .i64 (b4 - p1), .int .i64 (b5 - p2), .int .i64 (b6 - p3)])) rfl rfl (by kernel_rfl) (by kernel_rfl) (by kernel_rfl) (fun _ _ _ h => h) rfl (fun w' hS => by obtain ⟨t0, t1, t2, t3, t4, t5, t6, t7, t8, t9, t10, t11⟩ := hS; go_simp) hHeld ?_
        try simp only [Act.put, List.setIfInBounds_toArray, List.set_cons_zero, List.set_cons_succ]
        refine wpAnyH_ready (rs := [14]) (by kernel_rfl) (by simp) ?_
        refine AllReadyH.cons rfl (fun K hK => ?_) AllReadyH.nil
        go_simp
        have hle : W1.heap.size ≤ w3.heap.size := hYs
        have hC : W1.heap.size ≤ w3.heap.size ∧ Below W1.heap.size W1 ((((((w4.setCell ⟨w3.heap.size, 0, none⟩ (.int .i64 (b1 - p4))).setCell ⟨w3.heap.size, 1, none⟩ (.int .i64 (b2 - p5))).setCell ⟨w3.heap.size, 2, none⟩ (.int .i64 (b3 - p6))).setCell ⟨w3.heap.size, 3, none⟩ (.int .i64 (b4 - p1))).setCell ⟨w3.heap.size, 4, none⟩ (.int .i64 (b5 - p2))).setCell ⟨w3.heap.size, 5, none⟩ (.int .i64 (b6 - p3))) ∧ ((((((w4.setCell ⟨w3.heap.size, 0, none⟩ (.int .i64 (b1 - p4))).setCell ⟨w3.heap.size, 1, none⟩ (.int .i64 (b2 - p5))).setCell ⟨w3.heap.size, 2, none⟩ (.int .i64 (b3 - p6))).setCell ⟨w3.heap.size, 3, none⟩ (.int .i64 (b4 - p1))).setCell ⟨w3.heap.size, 4, none⟩ (.int .i64 (b5 - p2))).setCell ⟨w3.heap.size, 5, none⟩ (.int .i64 (b6 - p3))).heap[w3.heap.size]? = some (.cells #[.int .i64 (b1 - p4), .int .i64 (b2 - p5), .int .i64 (b3 - p6), .int .i64 (b4 - p1), .int .i64 (b5 - p2), .int .i64 (b6 - p3)] 45 (0, 0)) := ⟨hle, ((((((hY.setCell (p := ⟨w3.heap.size, 0, none⟩) hle (.int .i64 (b1 - p4))).setCell (p := ⟨w3.heap.size, 1, none⟩) hle (.int .i64 (b2 - p5))).setCell (p := ⟨w3.heap.size, 2, none⟩) hle (.int .i64 (b3 - p6))).setCell (p := ⟨w3.heap.size, 3, none⟩) hle (.int .i64 (b4 - p1))).setCell (p := ⟨w3.heap.size, 4, none⟩) hle (.int .i64 (b5 - p2))).setCell (p := ⟨w3.heap.size, 5, none⟩) hle (.int .i64 (b6 - p3))), six_storedI hrow⟩
        refine hK.out _ _ (kS _ hC.2.1) (fun hHeld => ?_)
        clear hK K
        try simp only [Act.put, List.setIfInBounds_toArray, List.set_cons_zero, List.set_cons_succ]
        refine wpAnyH_done (by kernel_rfl) ?_ _
        clear hHeld
        generalize ((((((w4.setCell ⟨w3.heap.size, 0, none⟩ (.int .i64 (b1 - p4))).setCell ⟨w3.heap.size, 1, none⟩ (.int .i64 (b2 - p5))).setCell ⟨w3.heap.size, 2, none⟩ (.int .i64 (b3 - p6))).setCell ⟨w3.heap.size, 3, none⟩ (.int .i64 (b4 - p1))).setCell ⟨w3.heap.size, 4, none⟩ (.int .i64 (b5 - p2))).setCell ⟨w3.heap.size, 5, none⟩ (.int .i64 (b6 - p3))) = Wf at hC ⊢
        generalize w3.heap.size = nn at hC ⊢
        exact key nn Wf hC
    · go_simp
      have hY : Below W1.heap.size W1 ((W1.alloc (.cells #[.int .i64 0, .int .i64 0, .int .i64 0, .int .i64 0, .int .i64 0, .int .i64 0] 45)).drew) := ((Below.refl W1.heap.size W1).alloc (Nat.le_refl _) _).drew
      have hrow : ((W1.alloc (.cells #[.int .i64 0, .int .i64 0, .int .i64 0, .int .i64 0, .int .i64 0, .int .i64 0] 45)).drew).heap[W1.heap.size]? = some (.cells #[.int .i64 0, .int .i64 0, .int .i64 0, .int .i64 0, .int .i64 0, .int .i64 0] 45 (0, 0)) := heap_alloc_new W1 _
      refine hK.out _ _ (kS _ hY) (fun hHeld => ?_)
      clear hK K
      try simp only [Act.put, List.setIfInBounds_toArray, List.set_cons_zero, List.set_cons_succ]
      refine wpAnyH_ready (rs := [5]) (by kernel_rfl) (by simp) ?_
      refine AllReadyH.cons rfl (fun K hK => ?_) AllReadyH.nil
      go_simp
      refine (kM1 _).mono ?_
      rintro e w3 ⟨rfl, hB⟩
      replace hY := hY.trans (hB.mono hY.size)
      replace hrow := (hB.block _ (Array.getElem?_eq_some_iff.1 hrow).1).trans hrow
      obtain ⟨⟨z0, z1, z2, z3, z4, z5⟩, f0, f1, f2, f3, f4, f5⟩ := six_cellsI hrow
      refine hK.out _ _ (kS _ hY) (fun hHeld => ?_)
      clear hK K hB
      try simp only [Act.put, List.setIfInBounds_toArray, List.set_cons_zero, List.set_cons_succ]
      refine wpAnyH_ready (rs := [11]) (by kernel_rfl) (by simp) ?_
      refine AllReadyH.cons rfl (fun K hK => ?_) AllReadyH.nil
      go_simp
      refine (kM2 _).mono ?_
      rintro e w4 ⟨rfl, hB⟩
      replace hY := hY.trans (hB.mono hY.size)
      replace hrow := (hB.block _ (Array.getElem?_eq_some_iff.1 hrow).1).trans hrow
      obtain ⟨⟨z0, z1, z2, z3, z4, z5⟩, f0, f1, f2, f3, f4, f5⟩ := six_cellsI hrow
      refine hK.out _ _ (kS _ hY) (fun hHeld => ?_)
      clear hK K hB
      try simp only [Act.put, List.setIfInBounds_toArray, List.set_cons_zero, List.set_cons_succ]
      refine held_yes 12 (some 33) ((.agg #[.int .i64 (b1 - p4), .int .i64 (b2 - p5), .int .i64 (b3 - p6), .int .i64 (b4 - p1), .int .i64 (b5 - p2), .int .i64 (b6 - p3)])) rfl rfl (by kernel_rfl) (by kernel_rfl) (by kernel_rfl) (fun _ _ _ h => h) rfl (fun w' hS => by obtain ⟨t0, t1, t2, t3, t4, t5, t6, t7, t8, t9, t10, t11⟩ := hS; go_simp) hHeld ?_
      try simp only [Act.put, List.setIfInBounds_toArray, List.set_cons_zero, List.set_cons_succ]
      refine wpAnyH_ready (rs := [14]) (by kernel_rfl) (by simp) ?_
      refine AllReadyH.cons rfl (fun K hK => ?_) AllReadyH.nil
      go_simp
      have hle : W1.heap.size ≤ W1.heap.size := Nat.le_refl _
      have hC : W1.heap.size ≤ W1.heap.size ∧ Below W1.heap.size W1 ((((((w4.setCell ⟨W1.heap.size, 0, none⟩ (.int .i64 (b1 - p4))).setCell ⟨W1.heap.size, 1, none⟩ (.int .i64 (b2 - p5))).setCell ⟨W1.heap.size, 2, none⟩ (.int .i64 (b3 - p6))).setCell ⟨W1.heap.size, 3, none⟩ (.int .i64 (b4 - p1))).setCell ⟨W1.heap.size, 4, none⟩ (.int .i64 (b5 - p2))).setCell ⟨W1.heap.size, 5, none⟩ (.int .i64 (b6 - p3))) ∧ ((((((w4.setCell ⟨W1.heap.size, 0, none⟩ (.int .i64 (b1 - p4))).setCell ⟨W1.heap.size, 1, none⟩ (.int .i64 (b2 - p5))).setCell ⟨W1.heap.size, 2, none⟩ (.int .i64 (b3 - p6))).setCell ⟨W1.heap.size, 3, none⟩ (.int .i64 (b4 - p1))).setCell ⟨W1.heap.size, 4, none⟩ (.int .i64 (b5 - p2))).setCell ⟨W1.heap.size, 5, none⟩ (.int .i64 (b6 - p3))).heap[W1.heap.size]? = some (.cells #[.int .i64 (b1 - p4), .int .i64 (b2 - p5), .int .i64 (b3 - p6), .int .i64 (b4 - p1), .int .i64 (b5 - p2), .int .i64 (b6 - p3)] 45 (0, 0)) := ⟨hle, ((((((hY.setCell (p := ⟨W1.heap.size, 0, none⟩) hle (.int .i64 (b1 - p4))).setCell (p := ⟨W1.heap.size, 1, none⟩) hle (.int .i64 (b2 - p5))).setCell (p := ⟨W1.heap.size, 2, none⟩) hle (.int .i64 (b3 - p6))).setCell (p := ⟨W1.heap.size, 3, none⟩) hle (.int .i64 (b4 - p1))).setCell (p := ⟨W1.heap.size, 4, none⟩) hle (.int .i64 (b5 - p2))).setCell (p := ⟨W1.heap.size, 5, none⟩) hle (.int .i64 (b6 - p3))), six_storedI hrow⟩
      refine hK.out _ _ (kS _ hC.2.1) (fun hHeld => ?_)
      clear hK K
      try simp only [Act.put, List.setIfInBounds_toArray, List.set_cons_zero, List.set_cons_succ]
      refine wpAnyH_done (by kernel_rfl) ?_ _
      clear hHeld
      exact key W1.heap.size _ hC
  case' rest =>
    intro nb W3 hC
    obtain ⟨hn, hZ, hrow⟩ := hC
  have hltn : nb < W3.heap.size := (Array.getElem?_eq_some_iff.1 hrow).1
  have hX3 : Below W0.heap.size W0 W3 := hX1.trans (hZ.mono hX1.size)
  have kN := fun V (h : Below W3.heap.size W3 V) => (six_cellsI ((h.block _ hltn).trans hrow)).1
  have kD := fun V (h : Below W3.heap.size W3 V) => kk V (hX3.trans (h.mono hX3.size))
  have kR := fun V (h : Below W3.heap.size W3 V) => hR V (hX3.trans (h.mono hX3.size))
  have kS2 := fun V (h : Below W3.heap.size W3 V) => hSV V (hX3.trans (h.mono hX3.size))
  have kL := fun V (h : Below W3.heap.size W3 V) => hlV V (hX3.trans (h.mono hX3.size))
  have hB3 : Below w.heap.size w W3 := hB0.trans (hX3.mono hB0.size)
  have hV : Below W3.heap.size W3 W3 := Below.refl _ _
  have hle2 : w.heap.size + 1 + 1 < W3.heap.size := by have := hX3.size; omega
  clear kS kM1 kM2 hY hbox0 hltb hn hZ hrow hX3 kk hR hSV hlV hX1 hB0 hsz0
  obtain ⟨z0, z1, z2, z3, z4, z5⟩ := kN _ hV
  have hnx : ∀ j, (0 ≤ j ∧ j < b3 - p6) ∨ b6 - p3 < j → hitL part S (wayC (x, y, z) j) = [] := fun j hj => far_none (bb := ((b1, b2, b3), (b4, b5, b6))) (bp := ((p1, p2, p3), (p4, p5, p6))) hbx hpin (by
    unfold isInB nearBox wayC
    dsimp only
    omega)
  go_wp2_with fail
  go_loopw [12] (fun i wr => ∃ k : Int, i = .int .i64 k ∧ max (b3 - p6) 0 ≤ k ∧ Below W3.heap.size W3 wr ∧ ∀ j, 0 ≤ j → j < k → hitL part S (wayC (x, y, z) j) = []) (fun i _ => (b6 - p3 + 1 - intOf i).toNat)
  case atStart => exact ⟨max (b3 - p6) 0, rfl, Int.le_refl _, hV, fun j h1 h2 => hnx j (by omega)⟩
  case round =>
    clear hV z0 z1 z2 z3 z4 z5
    obtain ⟨k, rfl, hk, hV, hno⟩ := hrel
    rename World => w4
    have hb1' := hb1
    have hb2' := hb2
    have hn1' := n1
    have hn2' := n2
    unfold Near at hb1' hb2' hn1' hn2'
    dsimp only at hb1' hb2' hn1' hn2'
    obtain ⟨z0, z1, z2, z3, z4, z5⟩ := kN _ hV
    by_cases hkn : k ≤ b6 - p3
    · have hk2 : 0 ≤ k ∧ k ≤ 2000 := by omega
      have wk := wrapS (n := k + 1) (by omega)
      have kW := fun W => way_ok x y z k hx hy hz (by omega) W
      have bd : ∀ a : Int, -8 ≤ a ∧ a ≤ 8 → -16000 ≤ k * a ∧ k * a ≤ 16000 := fun a ha => by
        have h : a = -8 ∨ a = -7 ∨ a = -6 ∨ a = -5 ∨ a = -4 ∨ a = -3 ∨ a = -2 ∨ a = -1 ∨ a = 0 ∨ a = 1 ∨ a = 2 ∨ a = 3 ∨ a = 4 ∨ a = 5 ∨ a = 6 ∨ a = 7 ∨ a = 8 := by omega
        rcases h with rfl | rfl | rfl | rfl | rfl | rfl | rfl | rfl | rfl | rfl | rfl | rfl | rfl | rfl | rfl | rfl | rfl <;> omega
      have f1 := floor_bd hz (a := k * x) (by have := bd x hx; omega)
      have f2 := floor_bd hz (a := k * y) (by have := bd y hy; omega)
      have hway : wayC (x, y, z) k = (k * x / z, k * y / z, k) := rfl
      generalize k * x / z = ca at kW f1 hway
      generalize k * y / z = cb at kW f2 hway
      have kI : ∀ W, Calls Try.prog 50 #[.agg #[.int .i64 (b1 - p4), .int .i64 (b2 - p5), .int .i64 (b3 - p6), .int .i64 (b4 - p1), .int .i64 (b5 - p2), .int .i64 (b6 - p3)], .agg #[.int .i64 ca, .int .i64 cb, .int .i64 k]] W fun e w' => e = .returned (.bool (decide (isInB ((b1 - p4, b2 - p5, b3 - p6), (b4 - p1, b5 - p2, b6 - p3)) (ca, cb, k)))) ∧ Below W.heap.size W w' := fun W => isIn_ok ((b1 - p4, b2 - p5, b3 - p6), (b4 - p1, b5 - p2, b6 - p3)) ca cb k (by dsimp only; omega) W
      have kMt := fun W (h : Sl W (.slice A part.length cap) part) (h2 : CSet W m S) => meet_ok m ((b1, b2, b3), (b4, b5, b6)) part S _ ca cb k W h hpl hpn (by unfold Near; dsimp only; omega) h2
      unfold obsV at kMt
      dsimp only at kMt
      have by6 : ∀ (w5 w6 : World), Below (w5.alloc (.cells #[.int .i64 ca, .int .i64 cb, .int .i64 k] 26)).heap.size (w5.alloc (.cells #[.int .i64 ca, .int .i64 cb, .int .i64 k] 26)) w6 → w6.cell? ⟨w5.heap.size, 0, none⟩ = some (.int .i64 ca) ∧ w6.cell? ⟨w5.heap.size, 1, none⟩ = some (.int .i64 cb) ∧ w6.cell? ⟨w5.heap.size, 2, none⟩ = some (.int .i64 k) := fun w5 w6 h =>
        (three_cells ((h.block _ (by simp)).trans (heap_alloc_new w5 _))).1
      obtain ⟨_, _, _, _, _, _, _, d0, d1, d2⟩ := kD _ hV
      by_cases hin : isInB ((b1 - p4, b2 - p5, b3 - p6), (b4 - p1, b5 - p2, b6 - p3)) (ca, cb, k)
      · rw [decide_eq_true hin] at kI
        clear bd f1 f2 hin hnx hb1' hb2' hn1' hn2'
        go_wp2_with (first
          | (go_at_call 27; refine (kW _).mono ?_; rintro e w5 ⟨rfl, hB5⟩; have hVb := hV.trans (hB5.mono hV.size); have hVc := hVb.alloc hVb.size (.cells #[.int .i64 ca, .int .i64 cb, .int .i64 k] 26); obtain ⟨z0, z1, z2, z3, z4, z5⟩ := kN _ hVc)
          | (go_at_call 50; refine (kI _).mono ?_; rintro e w6 ⟨rfl, hB6⟩; have hVd := hVc.trans (hB6.mono hVc.size); have hcy := by6 w5 w6 hB6; obtain ⟨y0, y1, y2⟩ := hcy; obtain ⟨k0, k1, k2, k3, k4, k5, k6, _, _, _⟩ := kD _ hVd)
          | (go_at_call 51; refine (kMt _ (kL _ hVd) (kS2 _ hVd)).mono ?_; rintro e w7 ⟨ax, ay, az, hh, rfl, hcase, hB7⟩; have hVe := hVd.trans (hB7.mono hVd.size); have hVf := hVe.alloc hVe.size (.cells #[.int .i64 ax, .int .i64 ay, .int .i64 az] 26)))
        · have ht : hh = true := by assumption
          subst ht
          have hhd : (hitL part S (ca, cb, k)).head? = some (ax, ay, az) := by
            rcases hcase with ⟨_, h⟩ | ⟨h, _⟩
            · exact h
            · cases h
          have hVg := hVf.drew
          have hr := kR _ hVg
          have hat := three_cells (heap_alloc_new w7 (.cells #[.int .i64 ax, .int .i64 ay, .int .i64 az] 26))
          obtain ⟨⟨a0, a1, a2⟩, _⟩ := hat
          have hr' := kR _ hVf
          obtain ⟨⟨s0, s1, s2⟩, g0, g1, g2⟩ := three_cells hr'
          have hne : w.heap.size + 1 + 1 ≠ w7.heap.size := by have := hVe.size; omega
          have hky : (w7.alloc (.cells #[.int .i64 ax, .int .i64 ay, .int .i64 az] 26)).drew.cell? ⟨w7.heap.size, 0, none⟩ = some (.int .i64 ax) ∧ (w7.alloc (.cells #[.int .i64 ax, .int .i64 ay, .int .i64 az] 26)).drew.cell? ⟨w7.heap.size, 1, none⟩ = some (.int .i64 ay) ∧ (w7.alloc (.cells #[.int .i64 ax, .int .i64 ay, .int .i64 az] 26)).drew.cell? ⟨w7.heap.size, 2, none⟩ = some (.int .i64 az) := ⟨a0, a1, a2⟩
          have hF := three_stored (d0 := .int .i64 ax) (d1 := .int .i64 ay) (d2 := .int .i64 az) hr'
          have hle : w.heap.size ≤ w.heap.size + 1 + 1 := by omega
          have hBF := ((((hB3.trans (hVf.mono hB3.size)).setCell (p := ⟨w.heap.size + 1 + 1, 0, none⟩) hle (.int .i64 ax)).setCell (p := ⟨w.heap.size + 1 + 1, 1, none⟩) hle (.int .i64 ay)).setCell (p := ⟨w.heap.size + 1 + 1, 2, none⟩) hle (.int .i64 az)).drew
          have yl := fun j => cell_of_row _ (w.heap.size + 1 + 1) j _ _ _ hF
          obtain ⟨W8, hW8⟩ : ∃ W8, W8 = w7.alloc (.cells #[.int .i64 ax, .int .i64 ay, .int .i64 az] 26) := ⟨_, rfl⟩
          rw [← hW8] at hky hF hBF yl a0 a1 a2 s0 s1 s2 g0 g1 g2 hr ⊢
          clear hcase hVf hVg hr hr' kI kMt kW kN kD kR kS2 kL by6 hVe hVd hVc hVb z0 z1 z2 z3 z4 z5 k0 k1 k2 k3 k4 k5 k6 y0 y1 y2 d0 d1 d2 hB5 hB6 hB7 hW8
          go_region_held3 (fun w' => w'.cell? ⟨w7.heap.size, 0, none⟩ = some (.int .i64 ax) ∧ w'.cell? ⟨w7.heap.size, 1, none⟩ = some (.int .i64 ay) ∧ w'.cell? ⟨w7.heap.size, 2, none⟩ = some (.int .i64 az)) (first | exact hky | go_keep) (fail)
          rename_i hHeld
          clear hHeld
          go_wp2
          exact bodyPost_ret (v := .tuple #[.int .i64 k, .agg #[.int .i64 ax, .int .i64 ay, .int .i64 az], .bool true]) (by simp [results, Try.results25, go_sem, yl]) rfl ⟨k, ax, ay, az, true, rfl, .inl ⟨rfl, by omega, by rw [hway]; exact hhd, hno⟩, hBF⟩
        · have hf : hh = false := by
            cases hh
            · rfl
            · simp_all
          have hnone : hitL part S (wayC (x, y, z) k) = [] := by
            rw [hway]
            rcases hcase with ⟨h, _⟩ | ⟨_, _, h⟩
            · rw [hf] at h; cases h
            · exact h
          exact ⟨⟨k + 1, rfl, by omega, hVf, fun j h1 h2 => by
            rcases Int.lt_or_eq_of_le (show j ≤ k by omega) with h | rfl
            · exact hno j h1 h
            · exact hnone⟩, by simp [intOf]; omega⟩
      · rw [decide_eq_false hin] at kI
        have hnone : hitL part S (wayC (x, y, z) k) = [] := by
          rw [hway]
          exact far_none (bb := ((b1, b2, b3), (b4, b5, b6))) (bp := ((p1, p2, p3), (p4, p5, p6))) hbx hpin hin
        have HN := Lib.hid hnone
        clear bd f1 f2 hin hnx hb1' hb2' hn1' hn2' hnone
        go_wp2_with (first
          | (go_at_call 27; refine (kW _).mono ?_; rintro e w5 ⟨rfl, hB5⟩; have hVb := hV.trans (hB5.mono hV.size); have hVc := hVb.alloc hVb.size (.cells #[.int .i64 ca, .int .i64 cb, .int .i64 k] 26); obtain ⟨z0, z1, z2, z3, z4, z5⟩ := kN _ hVc)
          | (go_at_call 50; refine (kI _).mono ?_; rintro e w6 ⟨rfl, hB6⟩; have hVd := hVc.trans (hB6.mono hVc.size); have hcy := by6 w5 w6 hB6; obtain ⟨y0, y1, y2⟩ := hcy; obtain ⟨k0, k1, k2, k3, k4, k5, k6, _, _, _⟩ := kD _ hVd))
        exact ⟨⟨k + 1, rfl, by omega, hVd, fun j h1 h2 => by
            rcases Int.lt_or_eq_of_le (show j ≤ k by omega) with h | rfl
            · exact hno j h1 h
            · exact HN.out⟩, by simp [intOf]; omega⟩
    · have hr := kR _ hV
      obtain ⟨⟨s0, s1, s2⟩, g0, g1, g2⟩ := three_cells hr
      have hall : ∀ j, 0 ≤ j → hitL part S (wayC (x, y, z) j) = [] := fun j hj => by
        by_cases h : j < k
        · exact hno j hj h
        · exact hnx j (by omega)
      have HA := Lib.hid hall
      have hF := three_stored (d0 := .int .i64 0) (d1 := .int .i64 0) (d2 := .int .i64 0) hr
      have hle : w.heap.size ≤ w.heap.size + 1 + 1 := by omega
      have hBF := (((hB3.trans (hV.mono hB3.size)).setCell (p := ⟨w.heap.size + 1 + 1, 0, none⟩) hle (.int .i64 0)).setCell (p := ⟨w.heap.size + 1 + 1, 1, none⟩) hle (.int .i64 0)).setCell (p := ⟨w.heap.size + 1 + 1, 2, none⟩) hle (.int .i64 0)
      have yl := fun j => cell_of_row _ (w.heap.size + 1 + 1) j _ _ _ hF
      clear hall hno hnx hb1' hb2' hn1' hn2' kN kD kR kS2 kL
      go_wp2
      exact bodyPost_ret (v := .tuple #[.int .i64 0, .agg #[.int .i64 0, .int .i64 0, .int .i64 0], .bool false]) (by simp [results, Try.results25, go_sem, yl]) rfl ⟨0, 0, 0, 0, false, rfl, .inr ⟨rfl, rfl, rfl, HA.out⟩, hBF⟩
end Go.Proofs
