import Derived.Test.YtmmedmjjbdopjaaGreatDoorCompare
section
namespace Go.Proofs
set_option maxHeartbeats 4000000
set_option maxRecDepth 1000000
def withinI (n lo hi : Int) : Int := if n < lo ∨ hi < n then 3 else 0
theorem within_ok (n lo hi : Int) (w : World) : Calls Tryz.prog 33 #[.int .i64 n, .int .i64 lo, .int .i64 hi] w fun e w' => e = .returned (.int .i64 (withinI n lo hi)) ∧ w' = w := by
  unfold withinI
  go_enter Tryz.func33, Tryz.ntmps33
  go_wp2
  all_goals go_ret
  all_goals (refine ⟨?_, rfl⟩; simp_all <;> omega)
theorem first3_ok (a b c : Int) (blk cap : Nat) (w : World) (h0 : w.cell? ⟨blk, 0, none⟩ = some (.int .i64 a)) (h1 : w.cell? ⟨blk, 1, none⟩ = some (.int .i64 b)) (h2 : w.cell? ⟨blk, 2, none⟩ = some (.int .i64 c)) :
    Calls Tryz.prog 32 #[.slice (some ⟨blk, 0, none⟩) 3 cap] w fun e w' => e = .returned (.int .i64 (orI a b c)) ∧ w' = w := by
  go_enter Tryz.func32, Tryz.ntmps32
  go_wp2
  refine wp_loop_rounds 4 ?_
  rw [rounds_succ]
  go_wp2
  all_goals (try (rw [rounds_succ]; go_wp2))
  all_goals (try (rw [rounds_succ]; go_wp2))
  all_goals (try (rw [rounds_succ]; go_wp2))
  all_goals go_ret
  all_goals (refine ⟨?_, rfl⟩; unfold orI; simp_all)
theorem first2_ok (a b : Int) (blk cap : Nat) (w : World) (h0 : w.cell? ⟨blk, 0, none⟩ = some (.int .i64 a)) (h1 : w.cell? ⟨blk, 1, none⟩ = some (.int .i64 b)) :
    Calls Tryz.prog 32 #[.slice (some ⟨blk, 0, none⟩) 2 cap] w fun e w' => e = .returned (.int .i64 (orI a b 0)) ∧ w' = w := by
  go_enter Tryz.func32, Tryz.ntmps32
  go_wp2
  refine wp_loop_rounds 3 ?_
  rw [rounds_succ]
  go_wp2
  all_goals (try (rw [rounds_succ]; go_wp2))
  all_goals (try (rw [rounds_succ]; go_wp2))
  all_goals go_ret
  all_goals (refine ⟨?_, rfl⟩; unfold orI; simp_all)
end Go.Proofs
end

section
namespace Go.Proofs
set_option maxHeartbeats 4000000
set_option maxRecDepth 1000000
def vecI (c : Int × Int × Int) (s : Int) : Int := orI (withinI c.1 (-s) s) (withinI c.2.1 (-s) s) (withinI c.2.2 (-s) s)
theorem checkVector_ok (x y z s : Int) (hs : 0 ≤ s ∧ s ≤ 100000) (w : World) :
    Calls Tryz.prog 109 #[.agg #[.int .i64 x, .int .i64 y, .int .i64 z], .int .i64 s] w fun e w' => e = .returned (.int .i64 (vecI (x, y, z) s)) ∧ ∃ q os, w' = Sort.grow (w.drewN q) os := by
  unfold vecI
  have hneg : IntKind.i64.wrap (-s) = -s := by simp [IntKind.wrap, IntKind.bits, IntKind.signed]; omega
  have hc1 := fun W => within_ok x (-s) s W
  have hc2 := fun W => within_ok y (-s) s W
  have hc3 := fun W => within_ok z (-s) s W
  dsimp only
  generalize withinI x (-s) s = r1 at hc1 ⊢
  generalize withinI y (-s) s = r2 at hc2 ⊢
  generalize withinI z (-s) s = r3 at hc3 ⊢
  have ho := fun blk W => first3_ok r1 r2 r3 blk 3 W
  generalize orI r1 r2 r3 = r at ho ⊢
  obtain ⟨W, hW⟩ : ∃ W, W = (w.alloc (.cells #[.int .i64 x, .int .i64 y, .int .i64 z] 54)) := ⟨_, rfl⟩
  have a0 : W.cell? ⟨w.heap.size, 0, none⟩ = some (.int .i64 x) := by subst hW; go_simp
  have a1 : W.cell? ⟨w.heap.size, 1, none⟩ = some (.int .i64 y) := by subst hW; go_simp
  have a2 : W.cell? ⟨w.heap.size, 2, none⟩ = some (.int .i64 z) := by subst hW; go_simp
  have hsz : W.heap.size = w.heap.size + 1 := by subst hW; simp
  go_enter Tryz.func109, Tryz.ntmps109
  go_wp2
  rw [← hW]
  refine wp_region_still_tail 18 (by kernel_rfl) (by kernel_rfl) ?_
  simp only [List.take_succ_cons, List.take_zero, List.drop_succ_cons, List.drop_zero]
  change wpStill _ _ W.drew (fun a' => wpList _ _ _ _ a' W.drew) _ _
  still_step
  still_step
  still_step
  still_step
  still_step
  still_call (hc1 _)
  still_step
  still_step
  still_step
  still_step
  still_step
  still_call (hc2 _)
  still_step
  still_step
  still_step
  still_step
  still_step
  still_call (hc3 _)
  refine wpStill_nil ?_
  obtain ⟨W2, hW2⟩ : ∃ W2, W2 = W.drew := ⟨_, rfl⟩
  rw [← hW2]
  have hg : ∃ q os, W2 = Sort.grow (w.drewN q) os := ⟨1, _, by rw [hW2, hW, Sort.alloc_eq_grow]; rfl⟩
  have h0 : (W2.alloc (.cells #[.int .i64 r1, .int .i64 r2, .int .i64 r3] 28)).cell? ⟨W2.heap.size, 0, none⟩ = some (.int .i64 r1) := by go_simp
  have h1 : (W2.alloc (.cells #[.int .i64 r1, .int .i64 r2, .int .i64 r3] 28)).cell? ⟨W2.heap.size, 1, none⟩ = some (.int .i64 r2) := by go_simp
  have h2 : (W2.alloc (.cells #[.int .i64 r1, .int .i64 r2, .int .i64 r3] 28)).cell? ⟨W2.heap.size, 2, none⟩ = some (.int .i64 r3) := by go_simp
  have ho' := ho _ _ h0 h1 h2
  clear h0 h1 h2 ho hc1 hc2 hc3 a0 a1 a2 hW2 hsz hW hneg hs
  go_wp2_with (go_at_call 32; refine ho'.mono ?_; rintro e w' ⟨rfl, rfl⟩)
  go_ret
  obtain ⟨q, os, rfl⟩ := hg
  exact ⟨rfl, q, _, by rw [Sort.alloc_eq_grow, Sort.grow_grow]⟩
theorem below_grow (w : World) (q : Nat) (os : Array Obj) : Go.RowKit.Below w.heap.size w (Sort.grow (w.drewN q) os) :=
  ⟨rfl, rfl, rfl, by rw [Sort.size_grow]; exact Nat.le_add_right _ _, fun k hk => Sort.heap_grow_old (w.drewN q) os hk⟩
theorem checkCell_ok (x y z : Int) (w : World) :
    Calls Tryz.prog 62 #[.agg #[.int .i64 x, .int .i64 y, .int .i64 z]] w fun e w' => e = .returned (.int .i64 (vecI (x, y, z) 1000)) ∧ Go.RowKit.Below w.heap.size w w' := by
  have hv := fun W => checkVector_ok x y z 1000 (by decide) W
  generalize vecI (x, y, z) 1000 = r at hv ⊢
  go_enter Tryz.func62, Tryz.ntmps62
  go_wp2_with (go_at_call 109; refine (hv _).mono ?_; rintro e w' ⟨rfl, q, os, rfl⟩)
  go_ret
  refine ⟨rfl, ?_⟩
  rw [Sort.alloc_eq_grow, show (Sort.grow w #[Obj.cells #[.int .i64 x, .int .i64 y, .int .i64 z] 54]).drewN q = Sort.grow (w.drewN q) _ from rfl, Sort.grow_grow]
  exact below_grow _ _ _
end Go.Proofs
end
