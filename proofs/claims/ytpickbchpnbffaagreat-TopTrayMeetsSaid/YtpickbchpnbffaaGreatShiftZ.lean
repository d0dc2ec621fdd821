/- grid.Shift and grid.Mirror of a set: outside of the grid, or the moved set. -/
import Derived.Test.YtpickbchpnbffaaGreatMir1
import Derived.Test.YtpickbchpnbffaaGreatTurnX
import Derived.Test.YtpickbchpnbffaaGreatMovedX
namespace Go.Proofs
open Go.RowKit
set_option maxHeartbeats 8000000
set_option maxRecDepth 1000000
theorem within_zero {n lo hi : Int} (h : withinI n lo hi = 0) : lo ≤ n ∧ n ≤ hi := by
  unfold withinI at h
  split at h
  · cases h
  · omega
theorem vec_zero {c : Cel} {s : Int} (h : vecI c s = 0) : Near c s := by
  unfold vecI orI at h
  split at h
  · rename_i h1; exact absurd h h1
  · rename_i h1
    split at h
    · rename_i h2; exact absurd h h2
    · rename_i h2
      have a := within_zero (Decidable.not_not.1 h1)
      have b := within_zero (Decidable.not_not.1 h2)
      have c' := within_zero h
      exact ⟨a, b, c'⟩
theorem out_zero {l : List Cel} (h : outI l = 0) : ∀ c ∈ l, vecI c 1000 = 0 := fun c hc => by
  unfold outI at h
  split at h
  · cases h
  · rename_i h1
    have hb : badC c = false := by
      cases hk : badC c with
      | false => rfl
      | true => exact absurd (List.any_eq_true.2 ⟨c, hc, hk⟩) h1
    exact vec_of (badC_near.1 hb)
theorem shiftC_inj (b p q : Cel) (h : shiftC b p = shiftC b q) : p = q := by
  obtain ⟨p1, p2, p3⟩ := p
  obtain ⟨q1, q2, q3⟩ := q
  simp only [shiftC, Prod.mk.injEq] at h ⊢
  omega
theorem mirT_inj (j : Nat) (t : Int) (p q : Cel) (h : mirT j t p = mirT j t q) : p = q := by
  obtain ⟨p1, p2, p3⟩ := p
  obtain ⟨q1, q2, q3⟩ := q
  unfold mirT at h
  split at h <;> simp only [Prod.mk.injEq] at h ⊢ <;> omega
theorem shift1_ok (x y z bx by_ bz : Int) (p : Nat) (w : World) (h0 : w.cell? ⟨p, 0, none⟩ = some (.int .i64 bx)) (h1 : w.cell? ⟨p, 1, none⟩ = some (.int .i64 by_)) (h2 : w.cell? ⟨p, 2, none⟩ = some (.int .i64 bz)) (hp : p < w.heap.size)
    (k1 : -9000000 ≤ x + bx ∧ x + bx ≤ 9000000) (k2 : -9000000 ≤ y + by_ ∧ y + by_ ≤ 9000000) (k3 : -9000000 ≤ z + bz ∧ z + bz ≤ 9000000) :
    Calls Tryz.prog 36 #[.agg #[.int .i64 x, .int .i64 y, .int .i64 z], .pointer (some ⟨p, 0, none⟩)] w fun e w' => e = .returned (.agg #[.int .i64 (x + bx), .int .i64 (y + by_), .int .i64 (z + bz)]) ∧ Below w.heap.size w w' := by
  have w1 := wrapS k1
  have w2 := wrapS k2
  have w3 := wrapS k3
  clear k1 k2 k3
  have hne : p ≠ w.heap.size := by omega
  have hne1 : p ≠ w.heap.size + 1 := by omega
  go_enter Tryz.func36, Tryz.ntmps36
  go_wp2
  (try simp only [Exit.inBlock, Exit.then])
  refine bodyPost_ret (results_cell_row rfl _ _ _ 34 #[.int .i64 (x + bx), .int .i64 (y + by_), .int .i64 (z + bz)] (0, 0) _ rfl ?hg Tryz.underlying34 rfl (by kernel_rfl)) rfl ?_
  case hg =>
    have e : (w.alloc (.cells #[.int .i64 x, .int .i64 y, .int .i64 z] 34)).heap.size = w.heap.size + 1 := by simp
    have := heap_alloc_new (w.alloc (.cells #[.int .i64 x, .int .i64 y, .int .i64 z] 34)) (.cells #[.int .i64 (x + bx), .int .i64 (y + by_), .int .i64 (z + bz)] 34)
    rw [e] at this
    exact this
  refine ⟨rfl, ?_⟩
  exact ((Below.refl _ _).alloc (Nat.le_refl _) _).alloc (by simp) _
theorem shiftZ_out (l : List Cel) (v : Value) (b : Cel) (w : World) (hl : Sl w v l) (hc : chkI l = 0) (hv : vecI b 2000 = 0) (r : Int) (hr : outI (l.map (shiftC b)) = r) (h0 : r ≠ 0) :
    Calls Tryz.prog 10 #[v, .agg #[.int .i64 b.1, .int .i64 b.2.1, .int .i64 b.2.2]] w fun e w' => e = .returned (.tuple #[.slice none 0 0, .int .i64 r]) ∧ Below w.heap.size w w' := by
  obtain ⟨hn, hnear, hup⟩ := chkI_zero.1 hc
  have hbn := vec_zero hv
  obtain ⟨bx, by_, bz⟩ := b
  refine (shiftG_via l v bx by_ bz w hl (by unfold maxLen; omega) hc hv (fun V E w' => V = .slice none 0 0 ∧ E = r ∧ Below w.heap.size w w') fun W5 hB hs d0 d1 d2 => ?_).mono ?_
  · refine (movedE_shift l v W5 (hl.below hB) hn w.heap.size (shiftC (bx, by_, bz)) (fun c hcm W6 h6 => ?_) r hr h0).mono ?_
    · have k := hnear c hcm
      unfold Near at k hbn
      exact shift1_ok c.1 c.2.1 c.2.2 bx by_ bz w.heap.size W6 ((h6.cell (p := ⟨w.heap.size, 0, none⟩) hs).trans d0) ((h6.cell (p := ⟨w.heap.size, 1, none⟩) hs).trans d1) ((h6.cell (p := ⟨w.heap.size, 2, none⟩) hs).trans d2) (Nat.lt_of_lt_of_le hs h6.size) (by dsimp only at hbn; omega) (by dsimp only at hbn; omega) (by dsimp only at hbn; omega)
    · rintro e w' ⟨rfl, hBe⟩
      exact ⟨_, _, rfl, rfl, rfl, hB.trans (hBe.mono hB.size)⟩
  · rintro e w' ⟨V, E, rfl, rfl, rfl, hBe⟩
    exact ⟨rfl, hBe⟩
theorem shiftZ_fit (l : List Cel) (v : Value) (b : Cel) (w : World) (hl : Sl w v l) (hc : chkI l = 0) (hv : vecI b 2000 = 0) (hr : outI (l.map (shiftC b)) = 0) :
    Calls Tryz.prog 10 #[v, .agg #[.int .i64 b.1, .int .i64 b.2.1, .int .i64 b.2.2]] w fun e w' => ∃ B, e = .returned (.tuple #[.slice (some ⟨B, 0, none⟩) l.length l.length, .int .i64 0]) ∧ w.heap.size ≤ B ∧ Filled w' B l.length 34 (sortC (l.map (shiftC b))) ∧ Below w.heap.size w w' := by
  obtain ⟨hn, hnear, hup⟩ := chkI_zero.1 hc
  have hbn := vec_zero hv
  obtain ⟨bx, by_, bz⟩ := b
  refine (shiftG_via l v bx by_ bz w hl (by unfold maxLen; omega) hc hv (fun V E w' => ∃ B, V = .slice (some ⟨B, 0, none⟩) l.length l.length ∧ E = 0 ∧ w.heap.size ≤ B ∧ Filled w' B l.length 34 (sortC (l.map (shiftC (bx, by_, bz)))) ∧ Below w.heap.size w w') fun W5 hB hs d0 d1 d2 => ?_).mono ?_
  · refine (movedG_shift l v W5 (hl.below hB) hn w.heap.size (shiftC (bx, by_, bz)) (fun c hcm W6 h6 => ?_) (out_zero hr) (nodup_map (shiftC_inj _) (up_nodup hup))).mono ?_
    · have k := hnear c hcm
      unfold Near at k hbn
      exact shift1_ok c.1 c.2.1 c.2.2 bx by_ bz w.heap.size W6 ((h6.cell (p := ⟨w.heap.size, 0, none⟩) hs).trans d0) ((h6.cell (p := ⟨w.heap.size, 1, none⟩) hs).trans d1) ((h6.cell (p := ⟨w.heap.size, 2, none⟩) hs).trans d2) (Nat.lt_of_lt_of_le hs h6.size) (by dsimp only at hbn; omega) (by dsimp only at hbn; omega) (by dsimp only at hbn; omega)
    · rintro e w' ⟨B, rfl, hBB, hF, hBe⟩
      exact ⟨_, _, rfl, B, rfl, rfl, Nat.le_trans hB.size hBB, hF, hB.trans (hBe.mono hB.size)⟩
  · rintro e w' ⟨V, E, rfl, B, rfl, rfl, h1, h2, h3⟩
    exact ⟨B, rfl, h1, h2, h3⟩
end Go.Proofs
