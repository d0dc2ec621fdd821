import Derived.Test.YtllameiilljelaaMir1
import Derived.Test.YtllameiilljelaaShiftR
import Derived.Test.YtllameiilljelaaMovedX
section
/- grid.Shift and grid.Mirror of a set: outside of the grid, or the moved set. -/
namespace Go.Proofs
open Go.RowKit
set_option maxHeartbeats 8000000
set_option maxRecDepth 1000000
theorem within_zero {n lo hi : Int} (h : withinI n lo hi = 0) : lo ≤ n ∧ n ≤ hi := by
  unfold withinI at h
  split at h
  · cases h
  · omega
theorem vec_zero {c : Cel} {s : Int} (h : vecI c s = 0) : Near c s := by
  unfold vecI orI at h
  split at h
  · rename_i h1; exact absurd h h1
  · rename_i h1
    split at h
    · rename_i h2; exact absurd h h2
    · rename_i h2
      have a := within_zero (Decidable.not_not.1 h1)
      have b := within_zero (Decidable.not_not.1 h2)
      have c' := within_zero h
      exact ⟨a, b, c'⟩
theorem out_zero {l : List Cel} (h : outI l = 0) : ∀ c ∈ l, vecI c 1000 = 0 := fun c hc => by
  unfold outI at h
  split at h
  · cases h
  · rename_i h1
    have hb : badC c = false := by
      cases hk : badC c with
      | false => rfl
      | true => exact absurd (List.any_eq_true.2 ⟨c, hc, hk⟩) h1
    exact vec_of (badC_near.1 hb)
theorem shiftC_inj (b p q : Cel) (h : shiftC b p = shiftC b q) : p = q := by
  obtain ⟨p1, p2, p3⟩ := p
  obtain ⟨q1, q2, q3⟩ := q
  simp only [shiftC, Prod.mk.injEq] at h ⊢
  omega
theorem mirT_inj (j : Nat) (t : Int) (p q : Cel) (h : mirT j t p = mirT j t q) : p = q := by
  obtain ⟨p1, p2, p3⟩ := p
  obtain ⟨q1, q2, q3⟩ := q
  unfold mirT at h
  split at h <;> simp only [Prod.mk.injEq] at h ⊢ <;> omega
theorem shift1_ok (x y z bx by_ bz : Int) (p : Nat) (w : World) (h0 : w.cell? ⟨p, 0, none⟩ = some (.int .i64 bx)) (h1 : w.cell? ⟨p, 1, none⟩ = some (.int .i64 by_)) (h2 : w.cell? ⟨p, 2, none⟩ = some (.int .i64 bz)) (hp : p < w.heap.size)
    (k1 : -9000000 ≤ x + bx ∧ x + bx ≤ 9000000) (k2 : -9000000 ≤ y + by_ ∧ y + by_ ≤ 9000000) (k3 : -9000000 ≤ z + bz ∧ z + bz ≤ 9000000) :
    Calls Try.prog 31 #[.agg #[.int .i64 x, .int .i64 y, .int .i64 z], .pointer (some ⟨p, 0, none⟩)] w fun e w' => e = .returned (.agg #[.int .i64 (x + bx), .int .i64 (y + by_), .int .i64 (z + bz)]) ∧ Below w.heap.size w w' := by
  have w1 := wrapS k1
  have w2 := wrapS k2
  have w3 := wrapS k3
  clear k1 k2 k3
  have hne : p ≠ w.heap.size := by omega
  have hne1 : p ≠ w.heap.size + 1 := by omega
  go_enter Try.func31, Try.ntmps31
  go_wp2
  (try simp only [Exit.inBlock, Exit.then])
  refine bodyPost_ret (results_cell_row rfl _ _ _ 26 #[.int .i64 (x + bx), .int .i64 (y + by_), .int .i64 (z + bz)] (0, 0) _ rfl ?hg Try.underlying26 rfl (by kernel_rfl)) rfl ?_
  case hg =>
    have e : (w.alloc (.cells #[.int .i64 x, .int .i64 y, .int .i64 z] 26)).heap.size = w.heap.size + 1 := by simp
    have := heap_alloc_new (w.alloc (.cells #[.int .i64 x, .int .i64 y, .int .i64 z] 26)) (.cells #[.int .i64 (x + bx), .int .i64 (y + by_), .int .i64 (z + bz)] 26)
    rw [e] at this
    exact this
  refine ⟨rfl, ?_⟩
  exact ((Below.refl _ _).alloc (Nat.le_refl _) _).alloc (by simp) _
theorem shiftZ_out (l : List Cel) (v : Value) (b : Cel) (w : World) (hl : Sl w v l) (hc : chkI l = 0) (hv : vecI b 2000 = 0) (r : Int) (hr : outI (l.map (shiftC b)) = r) (h0 : r ≠ 0) :
    Calls Try.prog 9 #[v, .agg #[.int .i64 b.1, .int .i64 b.2.1, .int .i64 b.2.2]] w fun e w' => e = .returned (.tuple #[.slice none 0 0, .int .i64 r]) ∧ Below w.heap.size w w' := by
  obtain ⟨hn, hnear, hup⟩ := chkI_zero.1 hc
  have hbn := vec_zero hv
  obtain ⟨bx, by_, bz⟩ := b
  refine (shiftG_via l v bx by_ bz w hl (by unfold maxLen; omega) hc hv (fun V E w' => V = .slice none 0 0 ∧ E = r ∧ Below w.heap.size w w') fun W5 hB hs d0 d1 d2 => ?_).mono ?_
  · refine (movedE_shift l v W5 (hl.below hB) hn w.heap.size (shiftC (bx, by_, bz)) (fun c hcm W6 h6 => ?_) r hr h0).mono ?_
    · have k := hnear c hcm
      unfold Near at k hbn
      exact shift1_ok c.1 c.2.1 c.2.2 bx by_ bz w.heap.size W6 ((h6.cell (p := ⟨w.heap.size, 0, none⟩) hs).trans d0) ((h6.cell (p := ⟨w.heap.size, 1, none⟩) hs).trans d1) ((h6.cell (p := ⟨w.heap.size, 2, none⟩) hs).trans d2) (Nat.lt_of_lt_of_le hs h6.size) (by dsimp only at hbn; omega) (by dsimp only at hbn; omega) (by dsimp only at hbn; omega)
    · rintro e w' ⟨rfl, hBe⟩
      exact ⟨_, _, rfl, rfl, rfl, hB.trans (hBe.mono hB.size)⟩
  · rintro e w' ⟨V, E, rfl, rfl, rfl, hBe⟩
    exact ⟨rfl, hBe⟩
theorem shiftZ_fit (l : List Cel) (v : Value) (b : Cel) (w : World) (hl : Sl w v l) (hc : chkI l = 0) (hv : vecI b 2000 = 0) (hr : outI (l.map (shiftC b)) = 0) :
    Calls Try.prog 9 #[v, .agg #[.int .i64 b.1, .int .i64 b.2.1, .int .i64 b.2.2]] w fun e w' => ∃ B, e = .returned (.tuple #[.slice (some ⟨B, 0, none⟩) l.length l.length, .int .i64 0]) ∧ w.heap.size ≤ B ∧ Filled w' B l.length 26 (sortC (l.map (shiftC b))) ∧ Below w.heap.size w w' := by
  obtain ⟨hn, hnear, hup⟩ := chkI_zero.1 hc
  have hbn := vec_zero hv
  obtain ⟨bx, by_, bz⟩ := b
  refine (shiftG_via l v bx by_ bz w hl (by unfold maxLen; omega) hc hv (fun V E w' => ∃ B, V = .slice (some ⟨B, 0, none⟩) l.length l.length ∧ E = 0 ∧ w.heap.size ≤ B ∧ Filled w' B l.length 26 (sortC (l.map (shiftC (bx, by_, bz)))) ∧ Below w.heap.size w w') fun W5 hB hs d0 d1 d2 => ?_).mono ?_
  · refine (movedG_shift l v W5 (hl.below hB) hn w.heap.size (shiftC (bx, by_, bz)) (fun c hcm W6 h6 => ?_) (out_zero hr) (nodup_map (shiftC_inj _) (up_nodup hup))).mono ?_
    · have k := hnear c hcm
      unfold Near at k hbn
      exact shift1_ok c.1 c.2.1 c.2.2 bx by_ bz w.heap.size W6 ((h6.cell (p := ⟨w.heap.size, 0, none⟩) hs).trans d0) ((h6.cell (p := ⟨w.heap.size, 1, none⟩) hs).trans d1) ((h6.cell (p := ⟨w.heap.size, 2, none⟩) hs).trans d2) (Nat.lt_of_lt_of_le hs h6.size) (by dsimp only at hbn; omega) (by dsimp only at hbn; omega) (by dsimp only at hbn; omega)
    · rintro e w' ⟨B, rfl, hBB, hF, hBe⟩
      exact ⟨_, _, rfl, B, rfl, rfl, Nat.le_trans hB.size hBB, hF, hB.trans (hBe.mono hB.size)⟩
  · rintro e w' ⟨V, E, rfl, B, rfl, rfl, h1, h2, h3⟩
    exact ⟨B, rfl, h1, h2, h3⟩
theorem mirrorZ_out0 (l : List Cel) (v : Value) (t : Int) (w : World) (hl : Sl w v l) (hc : chkI l = 0) (ht : withinI t (-1000) 1000 = 0) (r : Int) (hr : outI (l.map (mirT 0 t)) = r) (h0 : r ≠ 0) :
    Calls Try.prog 16 #[v, .int .i64 0, .int .i64 t] w fun e w' => e = .returned (.tuple #[.slice none 0 0, .int .i64 r]) ∧ Below w.heap.size w w' := by
  obtain ⟨hn, hnear, hup⟩ := chkI_zero.1 hc
  have htn := within_zero ht
  refine (mirrorX_via l v 0 t w hl (by unfold maxLen; omega) hc (by decide) ht (fun V E w' => V = .slice none 0 0 ∧ E = r ∧ Below w.heap.size w w') fun W5 hB hs1 d0 d1 => ?_).mono ?_
  · have hs : w.heap.size < W5.heap.size := by omega
    refine (movedE_mirror l v W5 (hl.below hB) hn w.heap.size (w.heap.size + 1) (mirT 0 t) (fun c hcm W6 h6 => ?_) r hr h0).mono ?_
    · have k := hnear c hcm
      unfold Near at k
      exact mirrorX1_0 c.1 c.2.1 c.2.2 t w.heap.size (w.heap.size + 1) W6 ((h6.cell (p := ⟨w.heap.size, 0, none⟩) hs).trans d0) ((h6.cell (p := ⟨w.heap.size + 1, 0, none⟩) hs1).trans d1) (Nat.lt_of_lt_of_le hs h6.size) (Nat.lt_of_lt_of_le hs1 h6.size) htn (by omega)
    · rintro e w' ⟨rfl, hBe⟩
      exact ⟨_, _, rfl, rfl, rfl, hB.trans (hBe.mono hB.size)⟩
  · rintro e w' ⟨V, E, rfl, rfl, rfl, hBe⟩
    exact ⟨rfl, hBe⟩
theorem mirrorZ_fit0 (l : List Cel) (v : Value) (t : Int) (w : World) (hl : Sl w v l) (hc : chkI l = 0) (ht : withinI t (-1000) 1000 = 0) (hr : outI (l.map (mirT 0 t)) = 0) :
    Calls Try.prog 16 #[v, .int .i64 0, .int .i64 t] w fun e w' => ∃ B, e = .returned (.tuple #[.slice (some ⟨B, 0, none⟩) l.length l.length, .int .i64 0]) ∧ w.heap.size ≤ B ∧ Filled w' B l.length 26 (sortC (l.map (mirT 0 t))) ∧ Below w.heap.size w w' := by
  obtain ⟨hn, hnear, hup⟩ := chkI_zero.1 hc
  have htn := within_zero ht
  refine (mirrorX_via l v 0 t w hl (by unfold maxLen; omega) hc (by decide) ht (fun V E w' => ∃ B, V = .slice (some ⟨B, 0, none⟩) l.length l.length ∧ E = 0 ∧ w.heap.size ≤ B ∧ Filled w' B l.length 26 (sortC (l.map (mirT 0 t))) ∧ Below w.heap.size w w') fun W5 hB hs1 d0 d1 => ?_).mono ?_
  · have hs : w.heap.size < W5.heap.size := by omega
    refine (movedG_mirror l v W5 (hl.below hB) hn w.heap.size (w.heap.size + 1) (mirT 0 t) (fun c hcm W6 h6 => ?_) (out_zero hr) (nodup_map (mirT_inj _ _) (up_nodup hup))).mono ?_
    · have k := hnear c hcm
      unfold Near at k
      exact mirrorX1_0 c.1 c.2.1 c.2.2 t w.heap.size (w.heap.size + 1) W6 ((h6.cell (p := ⟨w.heap.size, 0, none⟩) hs).trans d0) ((h6.cell (p := ⟨w.heap.size + 1, 0, none⟩) hs1).trans d1) (Nat.lt_of_lt_of_le hs h6.size) (Nat.lt_of_lt_of_le hs1 h6.size) htn (by omega)
    · rintro e w' ⟨B, rfl, hBB, hF, hBe⟩
      exact ⟨_, _, rfl, B, rfl, rfl, Nat.le_trans hB.size hBB, hF, hB.trans (hBe.mono hB.size)⟩
  · rintro e w' ⟨V, E, rfl, B, rfl, rfl, h1, h2, h3⟩
    exact ⟨B, rfl, h1, h2, h3⟩
theorem mirrorZ_out1 (l : List Cel) (v : Value) (t : Int) (w : World) (hl : Sl w v l) (hc : chkI l = 0) (ht : withinI t (-1000) 1000 = 0) (r : Int) (hr : outI (l.map (mirT 1 t)) = r) (h0 : r ≠ 0) :
    Calls Try.prog 16 #[v, .int .i64 1, .int .i64 t] w fun e w' => e = .returned (.tuple #[.slice none 0 0, .int .i64 r]) ∧ Below w.heap.size w w' := by
  obtain ⟨hn, hnear, hup⟩ := chkI_zero.1 hc
  have htn := within_zero ht
  refine (mirrorX_via l v 1 t w hl (by unfold maxLen; omega) hc (by decide) ht (fun V E w' => V = .slice none 0 0 ∧ E = r ∧ Below w.heap.size w w') fun W5 hB hs1 d0 d1 => ?_).mono ?_
  · have hs : w.heap.size < W5.heap.size := by omega
    refine (movedE_mirror l v W5 (hl.below hB) hn w.heap.size (w.heap.size + 1) (mirT 1 t) (fun c hcm W6 h6 => ?_) r hr h0).mono ?_
    · have k := hnear c hcm
      unfold Near at k
      exact mirrorX1_1 c.1 c.2.1 c.2.2 t w.heap.size (w.heap.size + 1) W6 ((h6.cell (p := ⟨w.heap.size, 0, none⟩) hs).trans d0) ((h6.cell (p := ⟨w.heap.size + 1, 0, none⟩) hs1).trans d1) (Nat.lt_of_lt_of_le hs h6.size) (Nat.lt_of_lt_of_le hs1 h6.size) htn (by omega)
    · rintro e w' ⟨rfl, hBe⟩
      exact ⟨_, _, rfl, rfl, rfl, hB.trans (hBe.mono hB.size)⟩
  · rintro e w' ⟨V, E, rfl, rfl, rfl, hBe⟩
    exact ⟨rfl, hBe⟩
theorem mirrorZ_fit1 (l : List Cel) (v : Value) (t : Int) (w : World) (hl : Sl w v l) (hc : chkI l = 0) (ht : withinI t (-1000) 1000 = 0) (hr : outI (l.map (mirT 1 t)) = 0) :
    Calls Try.prog 16 #[v, .int .i64 1, .int .i64 t] w fun e w' => ∃ B, e = .returned (.tuple #[.slice (some ⟨B, 0, none⟩) l.length l.length, .int .i64 0]) ∧ w.heap.size ≤ B ∧ Filled w' B l.length 26 (sortC (l.map (mirT 1 t))) ∧ Below w.heap.size w w' := by
  obtain ⟨hn, hnear, hup⟩ := chkI_zero.1 hc
  have htn := within_zero ht
  refine (mirrorX_via l v 1 t w hl (by unfold maxLen; omega) hc (by decide) ht (fun V E w' => ∃ B, V = .slice (some ⟨B, 0, none⟩) l.length l.length ∧ E = 0 ∧ w.heap.size ≤ B ∧ Filled w' B l.length 26 (sortC (l.map (mirT 1 t))) ∧ Below w.heap.size w w') fun W5 hB hs1 d0 d1 => ?_).mono ?_
  · have hs : w.heap.size < W5.heap.size := by omega
    refine (movedG_mirror l v W5 (hl.below hB) hn w.heap.size (w.heap.size + 1) (mirT 1 t) (fun c hcm W6 h6 => ?_) (out_zero hr) (nodup_map (mirT_inj _ _) (up_nodup hup))).mono ?_
    · have k := hnear c hcm
      unfold Near at k
      exact mirrorX1_1 c.1 c.2.1 c.2.2 t w.heap.size (w.heap.size + 1) W6 ((h6.cell (p := ⟨w.heap.size, 0, none⟩) hs).trans d0) ((h6.cell (p := ⟨w.heap.size + 1, 0, none⟩) hs1).trans d1) (Nat.lt_of_lt_of_le hs h6.size) (Nat.lt_of_lt_of_le hs1 h6.size) htn (by omega)
    · rintro e w' ⟨B, rfl, hBB, hF, hBe⟩
      exact ⟨_, _, rfl, B, rfl, rfl, Nat.le_trans hB.size hBB, hF, hB.trans (hBe.mono hB.size)⟩
  · rintro e w' ⟨V, E, rfl, B, rfl, rfl, h1, h2, h3⟩
    exact ⟨B, rfl, h1, h2, h3⟩
theorem mirrorZ_out2 (l : List Cel) (v : Value) (t : Int) (w : World) (hl : Sl w v l) (hc : chkI l = 0) (ht : withinI t (-1000) 1000 = 0) (r : Int) (hr : outI (l.map (mirT 2 t)) = r) (h0 : r ≠ 0) :
    Calls Try.prog 16 #[v, .int .i64 2, .int .i64 t] w fun e w' => e = .returned (.tuple #[.slice none 0 0, .int .i64 r]) ∧ Below w.heap.size w w' := by
  obtain ⟨hn, hnear, hup⟩ := chkI_zero.1 hc
  have htn := within_zero ht
  refine (mirrorX_via l v 2 t w hl (by unfold maxLen; omega) hc (by decide) ht (fun V E w' => V = .slice none 0 0 ∧ E = r ∧ Below w.heap.size w w') fun W5 hB hs1 d0 d1 => ?_).mono ?_
  · have hs : w.heap.size < W5.heap.size := by omega
    refine (movedE_mirror l v W5 (hl.below hB) hn w.heap.size (w.heap.size + 1) (mirT 2 t) (fun c hcm W6 h6 => ?_) r hr h0).mono ?_
    · have k := hnear c hcm
      unfold Near at k
      exact mirrorX1_2 c.1 c.2.1 c.2.2 t w.heap.size (w.heap.size + 1) W6 ((h6.cell (p := ⟨w.heap.size, 0, none⟩) hs).trans d0) ((h6.cell (p := ⟨w.heap.size + 1, 0, none⟩) hs1).trans d1) (Nat.lt_of_lt_of_le hs h6.size) (Nat.lt_of_lt_of_le hs1 h6.size) htn (by omega)
    · rintro e w' ⟨rfl, hBe⟩
      exact ⟨_, _, rfl, rfl, rfl, hB.trans (hBe.mono hB.size)⟩
  · rintro e w' ⟨V, E, rfl, rfl, rfl, hBe⟩
    exact ⟨rfl, hBe⟩
theorem mirrorZ_fit2 (l : List Cel) (v : Value) (t : Int) (w : World) (hl : Sl w v l) (hc : chkI l = 0) (ht : withinI t (-1000) 1000 = 0) (hr : outI (l.map (mirT 2 t)) = 0) :
    Calls Try.prog 16 #[v, .int .i64 2, .int .i64 t] w fun e w' => ∃ B, e = .returned (.tuple #[.slice (some ⟨B, 0, none⟩) l.length l.length, .int .i64 0]) ∧ w.heap.size ≤ B ∧ Filled w' B l.length 26 (sortC (l.map (mirT 2 t))) ∧ Below w.heap.size w w' := by
  obtain ⟨hn, hnear, hup⟩ := chkI_zero.1 hc
  have htn := within_zero ht
  refine (mirrorX_via l v 2 t w hl (by unfold maxLen; omega) hc (by decide) ht (fun V E w' => ∃ B, V = .slice (some ⟨B, 0, none⟩) l.length l.length ∧ E = 0 ∧ w.heap.size ≤ B ∧ Filled w' B l.length 26 (sortC (l.map (mirT 2 t))) ∧ Below w.heap.size w w') fun W5 hB hs1 d0 d1 => ?_).mono ?_
  · have hs : w.heap.size < W5.heap.size := by omega
    refine (movedG_mirror l v W5 (hl.below hB) hn w.heap.size (w.heap.size + 1) (mirT 2 t) (fun c hcm W6 h6 => ?_) (out_zero hr) (nodup_map (mirT_inj _ _) (up_nodup hup))).mono ?_
    · have k := hnear c hcm
      unfold Near at k
      exact mirrorX1_2 c.1 c.2.1 c.2.2 t w.heap.size (w.heap.size + 1) W6 ((h6.cell (p := ⟨w.heap.size, 0, none⟩) hs).trans d0) ((h6.cell (p := ⟨w.heap.size + 1, 0, none⟩) hs1).trans d1) (Nat.lt_of_lt_of_le hs h6.size) (Nat.lt_of_lt_of_le hs1 h6.size) htn (by omega)
    · rintro e w' ⟨B, rfl, hBB, hF, hBe⟩
      exact ⟨_, _, rfl, B, rfl, rfl, Nat.le_trans hB.size hBB, hF, hB.trans (hBe.mono hB.size)⟩
  · rintro e w' ⟨V, E, rfl, B, rfl, rfl, h1, h2, h3⟩
    exact ⟨B, rfl, h1, h2, h3⟩
end Go.Proofs
end

section
/- grid.Turn of a set: outside of the grid, or the turned set. -/
namespace Go.Proofs
open Go.RowKit
set_option maxHeartbeats 8000000
set_option maxRecDepth 1000000
theorem turnZ_out (l : List Cel) (v : Value) (n : Nat) (hn24 : n < 24) (o : Cel) (w : World) (hl : Sl w v l) (hc : chkI l = 0) (ho : vecI o 1000 = 0) (r : Int) (hr : outI (l.map (turnB n o)) = r) (h0 : r ≠ 0) :
    Calls Try.prog 15 #[v, .int .i64 n, .agg #[.int .i64 o.1, .int .i64 o.2.1, .int .i64 o.2.2]] w fun e w' => e = .returned (.tuple #[.slice none 0 0, .int .i64 r]) ∧ Below w.heap.size w w' := by
  obtain ⟨hn, hnear, hup⟩ := chkI_zero.1 hc
  have hob := vec_zero ho
  have h6 := turnA_lt hn24
  refine (turnX_via l v n o.1 o.2.1 o.2.2 w hl (by unfold maxLen; omega) hn24 hc ho (fun V E w' => V = .slice none 0 0 ∧ E = r ∧ Below w.heap.size w w') fun W6 hB hs d0 d1 d2 => ?_).mono ?_
  · obtain ⟨W5, hW5⟩ : ∃ W5, W5 = (W6.alloc (.cells #[.int .i64 (turnA n).1, .int .i64 (turnA n).2.1, .int .i64 (turnA n).2.2] 71)) := ⟨_, rfl⟩
    have p0 : W5.cell? ⟨W6.heap.size, 0, none⟩ = some (.int .i64 (turnA n).1) := by subst hW5; go_simp
    have p1 : W5.cell? ⟨W6.heap.size, 1, none⟩ = some (.int .i64 (turnA n).2.1) := by subst hW5; go_simp
    have p2 : W5.cell? ⟨W6.heap.size, 2, none⟩ = some (.int .i64 (turnA n).2.2) := by subst hW5; go_simp
    have hp5 : W6.heap.size < W5.heap.size := by subst hW5; simp
    have hB65 : Below W6.heap.size W6 W5 := by subst hW5; exact (Below.refl _ _).alloc (Nat.le_refl _) _
    have hB5 : Below w.heap.size w W5 := hB.trans (hB65.mono hB.size)
    rw [← hW5]
    clear hW5
    have hs5 : w.heap.size < W5.heap.size := Nat.lt_of_lt_of_le hs hB65.size
    refine (movedE_turn l v W5 (hl.below hB5) hn W6.heap.size w.heap.size (turnB n o) (fun d hd W7 h7 => ?_) r hr h0).mono ?_
    · have k := hnear d hd
      unfold Near at k hob
      exact turn1_ok (turnA n).1 (turnA n).2.1 (turnA n).2.2 h6.1 h6.2.1 h6.2.2 d.1 d.2.1 d.2.2 o.1 o.2.1 o.2.2 W6.heap.size w.heap.size W7 ((h7.cell (p := ⟨W6.heap.size, 0, none⟩) hp5).trans p0) ((h7.cell (p := ⟨W6.heap.size, 1, none⟩) hp5).trans p1) ((h7.cell (p := ⟨W6.heap.size, 2, none⟩) hp5).trans p2) (Nat.lt_of_lt_of_le hp5 h7.size)
        ((h7.cell (p := ⟨w.heap.size, 0, none⟩) hs5).trans ((hB65.cell (p := ⟨w.heap.size, 0, none⟩) hs).trans d0)) ((h7.cell (p := ⟨w.heap.size, 1, none⟩) hs5).trans ((hB65.cell (p := ⟨w.heap.size, 1, none⟩) hs).trans d1))
        ((h7.cell (p := ⟨w.heap.size, 2, none⟩) hs5).trans ((hB65.cell (p := ⟨w.heap.size, 2, none⟩) hs).trans d2)) (Nat.lt_of_lt_of_le hs5 h7.size) k.1 k.2.1 k.2.2 hob.1 hob.2.1 hob.2.2
    · rintro e w' ⟨rfl, hBe⟩
      exact ⟨_, _, rfl, rfl, rfl, hB5.trans (hBe.mono hB5.size)⟩
  · rintro e w' ⟨V, E, rfl, rfl, rfl, hBe⟩
    exact ⟨rfl, hBe⟩
theorem turnZ_fit (l : List Cel) (v : Value) (n : Nat) (hn24 : n < 24) (o : Cel) (w : World) (hl : Sl w v l) (hc : chkI l = 0) (ho : vecI o 1000 = 0) (hr : outI (l.map (turnB n o)) = 0) :
    Calls Try.prog 15 #[v, .int .i64 n, .agg #[.int .i64 o.1, .int .i64 o.2.1, .int .i64 o.2.2]] w fun e w' => ∃ B, e = .returned (.tuple #[.slice (some ⟨B, 0, none⟩) l.length l.length, .int .i64 0]) ∧ w.heap.size ≤ B ∧ Filled w' B l.length 26 (sortC (l.map (turnB n o))) ∧ Below w.heap.size w w' := by
  obtain ⟨hn, hnear, hup⟩ := chkI_zero.1 hc
  have hob := vec_zero ho
  have h6 := turnA_lt hn24
  refine (turnX_via l v n o.1 o.2.1 o.2.2 w hl (by unfold maxLen; omega) hn24 hc ho (fun V E w' => ∃ B, V = .slice (some ⟨B, 0, none⟩) l.length l.length ∧ E = 0 ∧ w.heap.size ≤ B ∧ Filled w' B l.length 26 (sortC (l.map (turnB n o))) ∧ Below w.heap.size w w') fun W6 hB hs d0 d1 d2 => ?_).mono ?_
  · obtain ⟨W5, hW5⟩ : ∃ W5, W5 = (W6.alloc (.cells #[.int .i64 (turnA n).1, .int .i64 (turnA n).2.1, .int .i64 (turnA n).2.2] 71)) := ⟨_, rfl⟩
    have p0 : W5.cell? ⟨W6.heap.size, 0, none⟩ = some (.int .i64 (turnA n).1) := by subst hW5; go_simp
    have p1 : W5.cell? ⟨W6.heap.size, 1, none⟩ = some (.int .i64 (turnA n).2.1) := by subst hW5; go_simp
    have p2 : W5.cell? ⟨W6.heap.size, 2, none⟩ = some (.int .i64 (turnA n).2.2) := by subst hW5; go_simp
    have hp5 : W6.heap.size < W5.heap.size := by subst hW5; simp
    have hB65 : Below W6.heap.size W6 W5 := by subst hW5; exact (Below.refl _ _).alloc (Nat.le_refl _) _
    have hB5 : Below w.heap.size w W5 := hB.trans (hB65.mono hB.size)
    rw [← hW5]
    clear hW5
    have hs5 : w.heap.size < W5.heap.size := Nat.lt_of_lt_of_le hs hB65.size
    refine (movedG_turn l v W5 (hl.below hB5) hn W6.heap.size w.heap.size (turnB n o) (fun d hd W7 h7 => ?_) (out_zero hr) (nodup_map (turnB_inj hn24 o) (up_nodup hup))).mono ?_
    · have k := hnear d hd
      unfold Near at k hob
      exact turn1_ok (turnA n).1 (turnA n).2.1 (turnA n).2.2 h6.1 h6.2.1 h6.2.2 d.1 d.2.1 d.2.2 o.1 o.2.1 o.2.2 W6.heap.size w.heap.size W7 ((h7.cell (p := ⟨W6.heap.size, 0, none⟩) hp5).trans p0) ((h7.cell (p := ⟨W6.heap.size, 1, none⟩) hp5).trans p1) ((h7.cell (p := ⟨W6.heap.size, 2, none⟩) hp5).trans p2) (Nat.lt_of_lt_of_le hp5 h7.size)
        ((h7.cell (p := ⟨w.heap.size, 0, none⟩) hs5).trans ((hB65.cell (p := ⟨w.heap.size, 0, none⟩) hs).trans d0)) ((h7.cell (p := ⟨w.heap.size, 1, none⟩) hs5).trans ((hB65.cell (p := ⟨w.heap.size, 1, none⟩) hs).trans d1))
        ((h7.cell (p := ⟨w.heap.size, 2, none⟩) hs5).trans ((hB65.cell (p := ⟨w.heap.size, 2, none⟩) hs).trans d2)) (Nat.lt_of_lt_of_le hs5 h7.size) k.1 k.2.1 k.2.2 hob.1 hob.2.1 hob.2.2
    · rintro e w' ⟨B, rfl, hBB, hF, hBe⟩
      exact ⟨_, _, rfl, B, rfl, rfl, Nat.le_trans hB5.size hBB, hF, hB5.trans (hBe.mono hB5.size)⟩
  · rintro e w' ⟨V, E, rfl, B, rfl, rfl, h1, h2, h3⟩
    exact ⟨B, rfl, h1, h2, h3⟩
end Go.Proofs
end
