/- insert: Stuck of valid sets along a valid direction. -/
import Derived.Test.YtllameiilljelaaInsE
import Derived.Test.YtllameiilljelaaHeldF
namespace Go.Proofs
open Go.RowKit
set_option maxHeartbeats 16000000
set_option maxRecDepth 1000000
theorem hitL_set {part base : List Cel} {s : Cel} : hitL part (setL base) s = hitL part base s := by
  unfold hitL
  refine List.filter_congr fun c _ => ?_
  exact decide_eq_decide.2 mem_setL
theorem stop_set {part base : List Cel} {d : Cel} {k : Int} {x : Cel} {h : Bool} (hs : StopS part (setL base) d k x h) : StopS part base d k x h := by
  unfold StopS at hs ⊢
  simpa only [hitL_set] using hs
theorem manyWays {C G : Nat → Nat → Int → Int → Int → Int → Bool → World → Prop} {Goal : Prop} (rest : ∀ n m k a b c h W, C n m k a b c h W → G n m k a b c h W) (h : (∀ n m k a b c h W, C n m k a b c h W → G n m k a b c h W) → Goal) : Goal := h rest
/-- What a call of Stuck ends with. -/
def StuckE (w : World) (part base : List Cel) (d : Cel) (e : Ending) (w' : World) : Prop := ∃ (k a b c : Int) (h : Bool), e = .returned (.tuple #[.int .i64 k, .agg #[.int .i64 a, .int .i64 b, .int .i64 c], .int .i64 (if h = true then 0 else 7)]) ∧ StopS part base d k (a, b, c) h ∧ Below w.heap.size w w'
theorem stuck_ok (part base : List Cel) (v u : Value) (x y z : Int) (w : World) (hl : Sl w v part) (hb : Sl w u base) (hc : chkI part = 0) (cb : chkI base = 0) (hd : dirI (x, y, z) = 0) :
    Calls Try.prog 7 #[v, u, .agg #[.int .i64 x, .int .i64 y, .int .i64 z]] w (StuckE w part base (x, y, z)) := by
  obtain ⟨A, cap, rfl⟩ := hl.form
  obtain ⟨B, cap', rfl⟩ := hb.form
  obtain ⟨hpl, hpn, -⟩ := chkI_zero.1 hc
  obtain ⟨hbl, hbn, -⟩ := chkI_zero.1 cb
  obtain ⟨n1, n2, hin, hbw⟩ := base_in (l := base) (m := 1000) (by omega) hbn
  have hin' : InBox (setL base) (baseB base) := fun c h => hin c (mem_setL.1 h)
  obtain ⟨W0, hW⟩ : ∃ W0, W0 = (w.alloc (.cells #[.int .i64 x, .int .i64 y, .int .i64 z] 26)).alloc (.cells #[.int .i64 0, .int .i64 0, .int .i64 0] 26) := ⟨_, rfl⟩
  have hB0 : Below w.heap.size w W0 := by subst hW; exact ((Below.refl _ _).alloc (Nat.le_refl _) _).alloc (by simp) _
  have hsz : W0.heap.size = w.heap.size + 1 + 1 := by subst hW; simp
  have c0 : W0.cell? ⟨w.heap.size, 0, none⟩ = some (.int .i64 x) := by subst hW; go_simp
  have c1 : W0.cell? ⟨w.heap.size, 1, none⟩ = some (.int .i64 y) := by subst hW; go_simp
  have c2 : W0.cell? ⟨w.heap.size, 2, none⟩ = some (.int .i64 z) := by subst hW; go_simp
  have hr0 : W0.heap[w.heap.size + 1]? = some (.cells #[.int .i64 0, .int .i64 0, .int .i64 0] 26 (0, 0)) := by
    have := heap_alloc_new (w.alloc (.cells #[.int .i64 x, .int .i64 y, .int .i64 z] 26)) (.cells #[.int .i64 0, .int .i64 0, .int .i64 0] 26)
    rw [← hW] at this
    simpa using this
  have kk : ∀ V, Below W0.heap.size W0 V → V.cell? ⟨w.heap.size, 0, none⟩ = some (.int .i64 x) ∧ V.cell? ⟨w.heap.size, 1, none⟩ = some (.int .i64 y) ∧ V.cell? ⟨w.heap.size, 2, none⟩ = some (.int .i64 z) := fun V h =>
    ⟨(h.cell (p := ⟨w.heap.size, 0, none⟩) (by show w.heap.size < _; omega)).trans c0, (h.cell (p := ⟨w.heap.size, 1, none⟩) (by show w.heap.size < _; omega)).trans c1, (h.cell (p := ⟨w.heap.size, 2, none⟩) (by show w.heap.size < _; omega)).trans c2⟩
  have hR : ∀ V, Below W0.heap.size W0 V → V.heap[w.heap.size + 1]? = some (.cells #[.int .i64 0, .int .i64 0, .int .i64 0] 26 (0, 0)) := fun V h => (h.block _ (by omega)).trans hr0
  have kA := fun V (h : Below W0.heap.size W0 V) => gridCheckG part _ V (hl.below (hB0.trans (h.mono hB0.size))) (by unfold maxLen; omega)
  have kB := fun V (h : Below W0.heap.size W0 V) => gridCheckG base _ V (hb.below (hB0.trans (h.mono hB0.size))) (by unfold maxLen; omega)
  rw [hc] at kA
  rw [cb] at kB
  have kO := fun V (h : Below W0.heap.size W0 V) => obstacleOf_ok base _ V (hb.below (hB0.trans (h.mono hB0.size))) cb
  have kT := fun V m (h : Below W0.heap.size W0 V) (hS : CSet V m (setL base)) => stop_ok m (baseB base) part (setL base) _ x y z V (hl.below (hB0.trans (h.mono hB0.size))) hc hd hS n1 n2 hin' hbw
  have hcd := fun W => checkDir_ok x y z W
  rw [hd] at hcd
  have ho := fun blk W => insFirst3 0 0 0 blk 3 W
  rw [show orI 0 0 0 = 0 by decide] at ho
  have hX : Below W0.heap.size W0 W0.drew := (Below.refl _ _).drew
  have hky := kk _ hX
  clear hl hb hc cb hd hpn hbn n1 n2 hin hbw hin' c0 c1 c2 hr0
  go_enter Try.func7, Try.ntmps7
  go_wp2_with fail
  rw [← hW]
  clear hW
  go_region_held3 (fun w' => w'.cell? ⟨w.heap.size, 0, none⟩ = some (.int .i64 x) ∧ w'.cell? ⟨w.heap.size, 1, none⟩ = some (.int .i64 y) ∧ w'.cell? ⟨w.heap.size, 2, none⟩ = some (.int .i64 z)) (first | exact hky | go_keep)
    (first
      | (go_at_call 22; (first | with_reducible refine (kA _ hX).mono ?_ | with_reducible refine (kB _ hX).mono ?_); rintro e w4 ⟨rfl, hB4⟩; have hX := hX.trans (hB4.mono hX.size); have hky := kk _ hX)
      | (go_at_call 23; refine (hcd _).mono ?_; rintro e w5 ⟨rfl, hB5⟩; have hX := hX.trans (hB5.mono hX.size); have hky := kk _ hX)
      | (go_at_call 21; refine (ho _ _ ?_ ?_ ?_).mono ?_; (go_simp); (go_simp); (go_simp); rintro e w6 ⟨rfl, rfl⟩; have hX := hX.alloc hX.size (.cells #[.int .i64 0, .int .i64 0, .int .i64 0] 30); have hky := kk _ hX))
  rename_i hHeld
  clear hHeld
  obtain ⟨e0, e1, e2⟩ := hky
  obtain ⟨Wc, hWc⟩ : ∃ Wc, Wc = w5.alloc (.cells #[.int .i64 0, .int .i64 0, .int .i64 0] 30) := ⟨_, rfl⟩
  have hXc : Below W0.heap.size W0 Wc := by rw [hWc]; exact hX
  have kS : ∀ V, Below Wc.heap.size Wc V → V.cell? ⟨w.heap.size, 0, none⟩ = some (.int .i64 x) ∧ V.cell? ⟨w.heap.size, 1, none⟩ = some (.int .i64 y) ∧ V.cell? ⟨w.heap.size, 2, none⟩ = some (.int .i64 z) := fun V h => kk V (hXc.trans (h.mono hXc.size))
  rw [← hWc] at e0 e1 e2
  go_wp2_with fail
  rw [← hWc]
  have hY : Below Wc.heap.size Wc Wc.drew := (Below.refl _ _).drew
  clear hWc hX hB4 hB5
  refine manyWays (C := fun n m k a b c h W => Wc.heap.size ≤ n ∧ Below Wc.heap.size Wc W ∧ W.heap[n]? = some (.cells #[.int .i64 a, .int .i64 b, .int .i64 c] 26 (0, 0)) ∧ StopS part (setL base) (x, y, z) k (a, b, c) h) (G := ?G) ?rest (fun key => ?main)
  case main =>
    refine wp_region_held_drew (S := fun w' => w'.cell? ⟨w.heap.size, 0, none⟩ = some (.int .i64 x) ∧ w'.cell? ⟨w.heap.size, 1, none⟩ = some (.int .i64 y) ∧ w'.cell? ⟨w.heap.size, 2, none⟩ = some (.int .i64 z)) (by kernel_rfl) (kS _ hY) (fun hHeld => ?_)
    refine held_yes 0 (some 26) (.slice B base.length cap') rfl rfl (by kernel_rfl) (by kernel_rfl) (by kernel_rfl) (fun _ _ _ h => h) rfl (fun w' hS => by obtain ⟨t0, t1, t2⟩ := hS; go_simp) hHeld ?_
    try simp only [Act.put, List.setIfInBounds_toArray, List.set_cons_zero, List.set_cons_succ]
    refine held_yes 2 (some 28) (.slice A part.length cap) rfl rfl (by kernel_rfl) (by kernel_rfl) (by kernel_rfl) (fun _ _ _ h => h) rfl (fun w' hS => by obtain ⟨t0, t1, t2⟩ := hS; go_simp) hHeld ?_
    try simp only [Act.put, List.setIfInBounds_toArray, List.set_cons_zero, List.set_cons_succ]
    refine held_yes 3 (some 29) (.agg #[.int .i64 x, .int .i64 y, .int .i64 z]) rfl rfl (by kernel_rfl) (by kernel_rfl) (by kernel_rfl) (fun _ _ _ h => h) rfl (fun w' hS => by obtain ⟨t0, t1, t2⟩ := hS; go_simp) hHeld ?_
    try simp only [Act.put, List.setIfInBounds_toArray, List.set_cons_zero, List.set_cons_succ]
    refine wpAnyH_ready (rs := [1, 9]) (by kernel_rfl) (by simp) ?_
    refine AllReadyH.cons rfl (fun K hK => ?_) (AllReadyH.cons rfl (fun K hK => ?_) AllReadyH.nil)
    · go_simp
      refine (kO _ (hXc.trans (hY.mono hXc.size))).mono ?_
      rintro e w7 ⟨m, rfl, -, hset, hB⟩
      replace hY := hY.trans (hB.mono hY.size)
      refine hK.out _ _ (kS _ hY) (fun hHeld => ?_)
      clear hK K hB
      try simp only [Act.put, List.setIfInBounds_toArray, List.set_cons_zero, List.set_cons_succ]
      refine wpAnyH_ready (rs := [4, 9]) (by kernel_rfl) (by simp) ?_
      refine AllReadyH.cons rfl (fun K hK => ?_) (AllReadyH.cons rfl (fun K hK => ?_) AllReadyH.nil)
      · go_simp
        refine (kT _ m (hXc.trans (hY.mono hXc.size)) hset).mono ?_
        rintro e w8 ⟨k, a, b, c, h, rfl, hst, hB⟩
        replace hY := hY.trans (hB.mono hY.size)
        refine hK.out _ _ (kS _ hY) (fun hHeld => ?_)
        clear hK K hB
        try simp only [Act.put, List.setIfInBounds_toArray, List.set_cons_zero, List.set_cons_succ]
        refine held_yes 5 (some 25) (.tuple #[.int .i64 k, .agg #[.int .i64 a, .int .i64 b, .int .i64 c], .bool h]) rfl rfl (by kernel_rfl) (by kernel_rfl) (by kernel_rfl) (fun _ _ _ h => h) rfl (fun w' hS => by obtain ⟨t0, t1, t2⟩ := hS; go_simp) hHeld ?_
        try simp only [Act.put, List.setIfInBounds_toArray, List.set_cons_zero, List.set_cons_succ]
        refine held_yes 6 (some 31) (.int .i64 k) rfl rfl (by kernel_rfl) (by kernel_rfl) (by kernel_rfl) (fun _ _ _ h => h) rfl (fun w' hS => by obtain ⟨t0, t1, t2⟩ := hS; go_simp) hHeld ?_
        try simp only [Act.put, List.setIfInBounds_toArray, List.set_cons_zero, List.set_cons_succ]
        refine held_yes 7 (some 32) (.agg #[.int .i64 a, .int .i64 b, .int .i64 c]) rfl rfl (by kernel_rfl) (by kernel_rfl) (by kernel_rfl) (fun _ _ _ h => h) rfl (fun w' hS => by obtain ⟨t0, t1, t2⟩ := hS; go_simp) hHeld ?_
        try simp only [Act.put, List.setIfInBounds_toArray, List.set_cons_zero, List.set_cons_succ]
        refine held_yes 8 (some 33) (.bool h) rfl rfl (by kernel_rfl) (by kernel_rfl) (by kernel_rfl) (fun _ _ _ h => h) rfl (fun w' hS => by obtain ⟨t0, t1, t2⟩ := hS; go_simp) hHeld ?_
        try simp only [Act.put, List.setIfInBounds_toArray, List.set_cons_zero, List.set_cons_succ]
        refine wpAnyH_ready (rs := [9]) (by kernel_rfl) (by simp) ?_
        refine AllReadyH.cons rfl (fun K hK => ?_) AllReadyH.nil
        go_simp
        have hY0 := hY
        have hYs := hY.size
        replace hY := hY.alloc hY.size (.cells #[.int .i64 0, .int .i64 0, .int .i64 0] 26)
        have hrow := heap_alloc_new w8 (.cells #[.int .i64 0, .int .i64 0, .int .i64 0] 26)
        obtain ⟨⟨z0, z1, z2⟩, f0, f1, f2⟩ := three_cells hrow
        refine hK.out _ _ (kS _ hY) (fun hHeld => ?_)
        clear hK K
        try simp only [Act.put, List.setIfInBounds_toArray, List.set_cons_zero, List.set_cons_succ]
        refine held_yes 10 (some 10) (.int .i64 k) rfl rfl (by kernel_rfl) (by kernel_rfl) (by kernel_rfl) (fun _ _ _ h => h) rfl (fun w' hS => by obtain ⟨t0, t1, t2⟩ := hS; go_simp) hHeld ?_
        try simp only [Act.put, List.setIfInBounds_toArray, List.set_cons_zero, List.set_cons_succ]
        refine wpAnyH_ready (rs := [11]) (by kernel_rfl) (by simp) ?_
        refine AllReadyH.cons rfl (fun K hK => ?_) AllReadyH.nil
        go_simp
        have hC : Wc.heap.size ≤ w8.heap.size ∧ Below Wc.heap.size Wc (w8.alloc (.cells #[.int .i64 a, .int .i64 b, .int .i64 c] 26)) ∧ (w8.alloc (.cells #[.int .i64 a, .int .i64 b, .int .i64 c] 26)).heap[w8.heap.size]? = some (.cells #[.int .i64 a, .int .i64 b, .int .i64 c] 26 (0, 0)) ∧ StopS part (setL base) (x, y, z) k (a, b, c) h := ⟨hY0.size, hY0.alloc hY0.size _, heap_alloc_new w8 _, hst⟩
        refine hK.out _ _ (kS _ hC.2.1) (fun hHeld => ?_)
        clear hK K
        try simp only [Act.put, List.setIfInBounds_toArray, List.set_cons_zero, List.set_cons_succ]
        refine held_yes 12 (some 12) (.bool h) rfl rfl (by kernel_rfl) (by kernel_rfl) (by kernel_rfl) (fun _ _ _ h => h) rfl (fun w' hS => by obtain ⟨t0, t1, t2⟩ := hS; go_simp) hHeld ?_
        try simp only [Act.put, List.setIfInBounds_toArray, List.set_cons_zero, List.set_cons_succ]
        refine wpAnyH_done (by kernel_rfl) ?_ _
        clear hHeld
        generalize (w8.alloc (.cells #[.int .i64 a, .int .i64 b, .int .i64 c] 26)) = Wf at hC ⊢
        generalize w8.heap.size = nn at hC ⊢
        exact key nn m k a b c h Wf hC
      · go_simp
        have hYs := hY.size
        replace hY := hY.alloc hY.size (.cells #[.int .i64 0, .int .i64 0, .int .i64 0] 26)
        have hrow := heap_alloc_new w7 (.cells #[.int .i64 0, .int .i64 0, .int .i64 0] 26)
        obtain ⟨⟨z0, z1, z2⟩, f0, f1, f2⟩ := three_cells hrow
        refine hK.out _ _ (kS _ hY) (fun hHeld => ?_)
        clear hK K
        try simp only [Act.put, List.setIfInBounds_toArray, List.set_cons_zero, List.set_cons_succ]
        refine wpAnyH_ready (rs := [4]) (by kernel_rfl) (by simp) ?_
        refine AllReadyH.cons rfl (fun K hK => ?_) AllReadyH.nil
        go_simp
        replace hset := hset.alloc (.cells #[.int .i64 0, .int .i64 0, .int .i64 0] 26)
        refine (kT _ m (hXc.trans (hY.mono hXc.size)) hset).mono ?_
        rintro e w8 ⟨k, a, b, c, h, rfl, hst, hB⟩
        replace hY := hY.trans (hB.mono hY.size)
        replace hrow := (hB.block _ (Array.getElem?_eq_some_iff.1 hrow).1).trans hrow
        obtain ⟨⟨z0, z1, z2⟩, f0, f1, f2⟩ := three_cells hrow
        refine hK.out _ _ (kS _ hY) (fun hHeld => ?_)
        clear hK K hB
        try simp only [Act.put, List.setIfInBounds_toArray, List.set_cons_zero, List.set_cons_succ]
        refine held_yes 5 (some 25) (.tuple #[.int .i64 k, .agg #[.int .i64 a, .int .i64 b, .int .i64 c], .bool h]) rfl rfl (by kernel_rfl) (by kernel_rfl) (by kernel_rfl) (fun _ _ _ h => h) rfl (fun w' hS => by obtain ⟨t0, t1, t2⟩ := hS; go_simp) hHeld ?_
        try simp only [Act.put, List.setIfInBounds_toArray, List.set_cons_zero, List.set_cons_succ]
        refine held_yes 6 (some 31) (.int .i64 k) rfl rfl (by kernel_rfl) (by kernel_rfl) (by kernel_rfl) (fun _ _ _ h => h) rfl (fun w' hS => by obtain ⟨t0, t1, t2⟩ := hS; go_simp) hHeld ?_
        try simp only [Act.put, List.setIfInBounds_toArray, List.set_cons_zero, List.set_cons_succ]
        refine held_yes 7 (some 32) (.agg #[.int .i64 a, .int .i64 b, .int .i64 c]) rfl rfl (by kernel_rfl) (by kernel_rfl) (by kernel_rfl) (fun _ _ _ h => h) rfl (fun w' hS => by obtain ⟨t0, t1, t2⟩ := hS; go_simp) hHeld ?_
        try simp only [Act.put, List.setIfInBounds_toArray, List.set_cons_zero, List.set_cons_succ]
        refine held_yes 8 (some 33) (.bool h) rfl rfl (by kernel_rfl) (by kernel_rfl) (by kernel_rfl) (fun _ _ _ h => h) rfl (fun w' hS => by obtain ⟨t0, t1, t2⟩ := hS; go_simp) hHeld ?_
        try simp only [Act.put, List.setIfInBounds_toArray, List.set_cons_zero, List.set_cons_succ]
        refine held_yes 10 (some 10) (.int .i64 k) rfl rfl (by kernel_rfl) (by kernel_rfl) (by kernel_rfl) (fun _ _ _ h => h) rfl (fun w' hS => by obtain ⟨t0, t1, t2⟩ := hS; go_simp) hHeld ?_
        try simp only [Act.put, List.setIfInBounds_toArray, List.set_cons_zero, List.set_cons_succ]
        refine wpAnyH_ready (rs := [11]) (by kernel_rfl) (by simp) ?_
        refine AllReadyH.cons rfl (fun K hK => ?_) AllReadyH.nil
        go_simp
        have hle : Wc.heap.size ≤ w7.heap.size := hYs
        have hC : Wc.heap.size ≤ w7.heap.size ∧ Below Wc.heap.size Wc (((w8.setCell ⟨w7.heap.size, 0, none⟩ (.int .i64 a)).setCell ⟨w7.heap.size, 1, none⟩ (.int .i64 b)).setCell ⟨w7.heap.size, 2, none⟩ (.int .i64 c)) ∧ (((w8.setCell ⟨w7.heap.size, 0, none⟩ (.int .i64 a)).setCell ⟨w7.heap.size, 1, none⟩ (.int .i64 b)).setCell ⟨w7.heap.size, 2, none⟩ (.int .i64 c)).heap[w7.heap.size]? = some (.cells #[.int .i64 a, .int .i64 b, .int .i64 c] 26 (0, 0)) ∧ StopS part (setL base) (x, y, z) k (a, b, c) h := ⟨hle, (((hY.setCell (p := ⟨w7.heap.size, 0, none⟩) hle (.int .i64 a)).setCell (p := ⟨w7.heap.size, 1, none⟩) hle (.int .i64 b)).setCell (p := ⟨w7.heap.size, 2, none⟩) hle (.int .i64 c)), three_stored hrow, hst⟩
        refine hK.out _ _ (kS _ hC.2.1) (fun hHeld => ?_)
        clear hK K
        try simp only [Act.put, List.setIfInBounds_toArray, List.set_cons_zero, List.set_cons_succ]
        refine held_yes 12 (some 12) (.bool h) rfl rfl (by kernel_rfl) (by kernel_rfl) (by kernel_rfl) (fun _ _ _ h => h) rfl (fun w' hS => by obtain ⟨t0, t1, t2⟩ := hS; go_simp) hHeld ?_
        try simp only [Act.put, List.setIfInBounds_toArray, List.set_cons_zero, List.set_cons_succ]
        refine wpAnyH_done (by kernel_rfl) ?_ _
        clear hHeld
        generalize (((w8.setCell ⟨w7.heap.size, 0, none⟩ (.int .i64 a)).setCell ⟨w7.heap.size, 1, none⟩ (.int .i64 b)).setCell ⟨w7.heap.size, 2, none⟩ (.int .i64 c)) = Wf at hC ⊢
        generalize w7.heap.size = nn at hC ⊢
        exact key nn m k a b c h Wf hC
    · go_simp
      have hY : Below Wc.heap.size Wc ((Wc.alloc (.cells #[.int .i64 0, .int .i64 0, .int .i64 0] 26)).drew) := ((Below.refl Wc.heap.size Wc).alloc (Nat.le_refl _) _).drew
      have hrow : ((Wc.alloc (.cells #[.int .i64 0, .int .i64 0, .int .i64 0] 26)).drew).heap[Wc.heap.size]? = some (.cells #[.int .i64 0, .int .i64 0, .int .i64 0] 26 (0, 0)) := heap_alloc_new Wc _
      refine hK.out _ _ (kS _ hY) (fun hHeld => ?_)
      clear hK K
      try simp only [Act.put, List.setIfInBounds_toArray, List.set_cons_zero, List.set_cons_succ]
      refine wpAnyH_ready (rs := [1]) (by kernel_rfl) (by simp) ?_
      refine AllReadyH.cons rfl (fun K hK => ?_) AllReadyH.nil
      go_simp
      refine (kO _ (hXc.trans (hY.mono hXc.size))).mono ?_
      rintro e w7 ⟨m, rfl, -, hset, hB⟩
      replace hY := hY.trans (hB.mono hY.size)
      replace hrow := (hB.block _ (Array.getElem?_eq_some_iff.1 hrow).1).trans hrow
      obtain ⟨⟨z0, z1, z2⟩, f0, f1, f2⟩ := three_cells hrow
      refine hK.out _ _ (kS _ hY) (fun hHeld => ?_)
      clear hK K hB
      try simp only [Act.put, List.setIfInBounds_toArray, List.set_cons_zero, List.set_cons_succ]
      refine wpAnyH_ready (rs := [4]) (by kernel_rfl) (by simp) ?_
      refine AllReadyH.cons rfl (fun K hK => ?_) AllReadyH.nil
      go_simp
      refine (kT _ m (hXc.trans (hY.mono hXc.size)) hset).mono ?_
      rintro e w8 ⟨k, a, b, c, h, rfl, hst, hB⟩
      replace hY := hY.trans (hB.mono hY.size)
      replace hrow := (hB.block _ (Array.getElem?_eq_some_iff.1 hrow).1).trans hrow
      obtain ⟨⟨z0, z1, z2⟩, f0, f1, f2⟩ := three_cells hrow
      refine hK.out _ _ (kS _ hY) (fun hHeld => ?_)
      clear hK K hB
      try simp only [Act.put, List.setIfInBounds_toArray, List.set_cons_zero, List.set_cons_succ]
      refine held_yes 5 (some 25) (.tuple #[.int .i64 k, .agg #[.int .i64 a, .int .i64 b, .int .i64 c], .bool h]) rfl rfl (by kernel_rfl) (by kernel_rfl) (by kernel_rfl) (fun _ _ _ h => h) rfl (fun w' hS => by obtain ⟨t0, t1, t2⟩ := hS; go_simp) hHeld ?_
      try simp only [Act.put, List.setIfInBounds_toArray, List.set_cons_zero, List.set_cons_succ]
      refine held_yes 6 (some 31) (.int .i64 k) rfl rfl (by kernel_rfl) (by kernel_rfl) (by kernel_rfl) (fun _ _ _ h => h) rfl (fun w' hS => by obtain ⟨t0, t1, t2⟩ := hS; go_simp) hHeld ?_
      try simp only [Act.put, List.setIfInBounds_toArray, List.set_cons_zero, List.set_cons_succ]
      refine held_yes 7 (some 32) (.agg #[.int .i64 a, .int .i64 b, .int .i64 c]) rfl rfl (by kernel_rfl) (by kernel_rfl) (by kernel_rfl) (fun _ _ _ h => h) rfl (fun w' hS => by obtain ⟨t0, t1, t2⟩ := hS; go_simp) hHeld ?_
      try simp only [Act.put, List.setIfInBounds_toArray, List.set_cons_zero, List.set_cons_succ]
      refine held_yes 8 (some 33) (.bool h) rfl rfl (by kernel_rfl) (by kernel_rfl) (by kernel_rfl) (fun _ _ _ h => h) rfl (fun w' hS => by obtain ⟨t0, t1, t2⟩ := hS; go_simp) hHeld ?_
      try simp only [Act.put, List.setIfInBounds_toArray, List.set_cons_zero, List.set_cons_succ]
      refine held_yes 10 (some 10) (.int .i64 k) rfl rfl (by kernel_rfl) (by kernel_rfl) (by kernel_rfl) (fun _ _ _ h => h) rfl (fun w' hS => by obtain ⟨t0, t1, t2⟩ := hS; go_simp) hHeld ?_
      try simp only [Act.put, List.setIfInBounds_toArray, List.set_cons_zero, List.set_cons_succ]
      refine wpAnyH_ready (rs := [11]) (by kernel_rfl) (by simp) ?_
      refine AllReadyH.cons rfl (fun K hK => ?_) AllReadyH.nil
      go_simp
      have hle : Wc.heap.size ≤ Wc.heap.size := Nat.le_refl _
      have hC : Wc.heap.size ≤ Wc.heap.size ∧ Below Wc.heap.size Wc (((w8.setCell ⟨Wc.heap.size, 0, none⟩ (.int .i64 a)).setCell ⟨Wc.heap.size, 1, none⟩ (.int .i64 b)).setCell ⟨Wc.heap.size, 2, none⟩ (.int .i64 c)) ∧ (((w8.setCell ⟨Wc.heap.size, 0, none⟩ (.int .i64 a)).setCell ⟨Wc.heap.size, 1, none⟩ (.int .i64 b)).setCell ⟨Wc.heap.size, 2, none⟩ (.int .i64 c)).heap[Wc.heap.size]? = some (.cells #[.int .i64 a, .int .i64 b, .int .i64 c] 26 (0, 0)) ∧ StopS part (setL base) (x, y, z) k (a, b, c) h := ⟨hle, (((hY.setCell (p := ⟨Wc.heap.size, 0, none⟩) hle (.int .i64 a)).setCell (p := ⟨Wc.heap.size, 1, none⟩) hle (.int .i64 b)).setCell (p := ⟨Wc.heap.size, 2, none⟩) hle (.int .i64 c)), three_stored hrow, hst⟩
      refine hK.out _ _ (kS _ hC.2.1) (fun hHeld => ?_)
      clear hK K
      try simp only [Act.put, List.setIfInBounds_toArray, List.set_cons_zero, List.set_cons_succ]
      refine held_yes 12 (some 12) (.bool h) rfl rfl (by kernel_rfl) (by kernel_rfl) (by kernel_rfl) (fun _ _ _ h => h) rfl (fun w' hS => by obtain ⟨t0, t1, t2⟩ := hS; go_simp) hHeld ?_
      try simp only [Act.put, List.setIfInBounds_toArray, List.set_cons_zero, List.set_cons_succ]
      refine wpAnyH_done (by kernel_rfl) ?_ _
      clear hHeld
      exact key Wc.heap.size m k a b c h _ hC
  case' rest =>
    intro n m k a b c h W hC
    obtain ⟨hn, hZ, hrow, hst⟩ := hC
  have hX8 : Below W0.heap.size W0 W := hXc.trans (hZ.mono hXc.size)
  have hst' := Lib.hid (stop_set hst)
  have hr := hR _ hX8
  obtain ⟨⟨s0, s1, s2⟩, g0, g1, g2⟩ := three_cells hr
  obtain ⟨⟨a0, a1, a2⟩, _⟩ := three_cells hrow
  have hB8 := hB0.trans (hX8.mono hB0.size)
  have hle : w.heap.size ≤ w.heap.size + 1 := by omega
  have hne : w.heap.size + 1 ≠ n := by have := hXc.size; omega
  clear kk hR kA kB kO kT hcd ho kS hY hXc hn hZ hst hX8 e0 e1 e2
  cases h with
  | false =>
    have hF := three_stored (d0 := .int .i64 0) (d1 := .int .i64 0) (d2 := .int .i64 0) hr
    have hBF := ((hB8.setCell (p := ⟨w.heap.size + 1, 0, none⟩) hle (.int .i64 0)).setCell (p := ⟨w.heap.size + 1, 1, none⟩) hle (.int .i64 0)).setCell (p := ⟨w.heap.size + 1, 2, none⟩) hle (.int .i64 0)
    have yl := fun j => cell_of_row _ (w.heap.size + 1) j _ _ _ hF
    go_wp2
    exact bodyPost_ret (v := .tuple #[.int .i64 0, .agg #[.int .i64 0, .int .i64 0, .int .i64 0], .int .i64 7]) (by simp [results, Try.results7, go_sem, yl]) rfl (by
      rcases hst'.out with ⟨h, _⟩ | ⟨_, _, _, hall⟩
      · cases h
      · exact ⟨0, 0, 0, 0, false, rfl, .inr ⟨rfl, rfl, rfl, hall⟩, hBF⟩)
  | true =>
    have hF := three_stored (d0 := .int .i64 a) (d1 := .int .i64 b) (d2 := .int .i64 c) hr
    have hBF := (((hB8.setCell (p := ⟨w.heap.size + 1, 0, none⟩) hle (.int .i64 a)).setCell (p := ⟨w.heap.size + 1, 1, none⟩) hle (.int .i64 b)).setCell (p := ⟨w.heap.size + 1, 2, none⟩) hle (.int .i64 c)).drew
    have yl := fun j => cell_of_row _ (w.heap.size + 1) j _ _ _ hF
    have hky : W.drew.cell? ⟨n, 0, none⟩ = some (.int .i64 a) ∧ W.drew.cell? ⟨n, 1, none⟩ = some (.int .i64 b) ∧ W.drew.cell? ⟨n, 2, none⟩ = some (.int .i64 c) := ⟨a0, a1, a2⟩
    go_wp2_with fail
    go_region_held3 (fun w' => w'.cell? ⟨n, 0, none⟩ = some (.int .i64 a) ∧ w'.cell? ⟨n, 1, none⟩ = some (.int .i64 b) ∧ w'.cell? ⟨n, 2, none⟩ = some (.int .i64 c)) (first | exact hky | go_keep) (fail)
    rename_i hHeld
    clear hHeld
    go_wp2
    exact bodyPost_ret (v := .tuple #[.int .i64 k, .agg #[.int .i64 a, .int .i64 b, .int .i64 c], .int .i64 0]) (by simp [results, Try.results7, go_sem, yl]) rfl ⟨k, a, b, c, true, rfl, hst'.out, hBF⟩
end Go.Proofs
