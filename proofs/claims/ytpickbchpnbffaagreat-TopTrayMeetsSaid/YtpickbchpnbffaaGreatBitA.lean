import Derived.Test.YtpickbchpnbffaaGreatHas
import Derived.Test.YtpickbchpnbffaaGreatCheckV
import Derived.Deep.RegionHeld3
/- bite: small functions: first, within, plus, checkVector, checkCell, shift, shiftBack, checkStep, CheckPath. -/
namespace Go.Proofs
open Go.RowKit
set_option maxHeartbeats 8000000
set_option maxRecDepth 1000000
theorem bitWithin_ok (n lo hi : Int) (w : World) : Calls Tryz.prog 63 #[.int .i64 n, .int .i64 lo, .int .i64 hi] w fun e w' => e = .returned (.int .i64 (withinI n lo hi)) ∧ w' = w := by
  unfold withinI
  go_enter Tryz.func63, Tryz.ntmps63
  go_wp2
  all_goals go_ret
  all_goals (refine ⟨?_, rfl⟩; simp_all <;> omega)
theorem bitFirst3 (a b c : Int) (blk cap : Nat) (w : World) (h0 : w.cell? ⟨blk, 0, none⟩ = some (.int .i64 a)) (h1 : w.cell? ⟨blk, 1, none⟩ = some (.int .i64 b)) (h2 : w.cell? ⟨blk, 2, none⟩ = some (.int .i64 c)) :
    Calls Tryz.prog 62 #[.slice (some ⟨blk, 0, none⟩) 3 cap] w fun e w' => e = .returned (.int .i64 (orI a b c)) ∧ w' = w := by
  go_enter Tryz.func62, Tryz.ntmps62
  go_wp2
  refine wp_loop_rounds 4 ?_
  rw [rounds_succ]
  go_wp2
  all_goals (try (rw [rounds_succ]; go_wp2))
  all_goals (try (rw [rounds_succ]; go_wp2))
  all_goals (try (rw [rounds_succ]; go_wp2))
  all_goals go_ret
  all_goals (refine ⟨?_, rfl⟩; unfold orI; simp_all)
theorem bitFirst2 (a b : Int) (blk cap : Nat) (w : World) (h0 : w.cell? ⟨blk, 0, none⟩ = some (.int .i64 a)) (h1 : w.cell? ⟨blk, 1, none⟩ = some (.int .i64 b)) :
    Calls Tryz.prog 62 #[.slice (some ⟨blk, 0, none⟩) 2 cap] w fun e w' => e = .returned (.int .i64 (orI a b 0)) ∧ w' = w := by
  go_enter Tryz.func62, Tryz.ntmps62
  go_wp2
  refine wp_loop_rounds 3 ?_
  rw [rounds_succ]
  go_wp2
  all_goals (try (rw [rounds_succ]; go_wp2))
  all_goals (try (rw [rounds_succ]; go_wp2))
  all_goals go_ret
  all_goals (refine ⟨?_, rfl⟩; unfold orI; simp_all)
theorem bitPlus_ok (x y z bx by_ bz : Int) (w : World) (k1 : -9000000 ≤ x + bx ∧ x + bx ≤ 9000000) (k2 : -9000000 ≤ y + by_ ∧ y + by_ ≤ 9000000) (k3 : -9000000 ≤ z + bz ∧ z + bz ≤ 9000000) :
    Calls Tryz.prog 87 #[.agg #[.int .i64 x, .int .i64 y, .int .i64 z], .agg #[.int .i64 bx, .int .i64 by_, .int .i64 bz]] w fun e w' => e = .returned (.agg #[.int .i64 (x + bx), .int .i64 (y + by_), .int .i64 (z + bz)]) ∧ Below w.heap.size w w' := by
  have w1 := wrapS k1
  have w2 := wrapS k2
  have w3 := wrapS k3
  clear k1 k2 k3
  have hB : Below w.heap.size w ((w.alloc (.cells #[.int .i64 x, .int .i64 y, .int .i64 z] 34)).alloc (.cells #[.int .i64 bx, .int .i64 by_, .int .i64 bz] 34)) := ((Below.refl _ _).alloc (Nat.le_refl _) _).alloc (by simp) _
  go_enter Tryz.func87, Tryz.ntmps87
  go_wp2
  refine bodyPost_ret (results_cell_row rfl _ _ _ 34 #[.int .i64 (x + bx), .int .i64 (y + by_), .int .i64 (z + bz)] (0, 0) _ rfl ?_ Tryz.underlying34 rfl (by kernel_rfl)) rfl ?_
  · have := heap_alloc_new ((w.alloc (.cells #[.int .i64 x, .int .i64 y, .int .i64 z] 34)).alloc (.cells #[.int .i64 bx, .int .i64 by_, .int .i64 bz] 34)) (.cells #[.int .i64 (x + bx), .int .i64 (y + by_), .int .i64 (z + bz)] 34)
    have e : ((w.alloc (.cells #[.int .i64 x, .int .i64 y, .int .i64 z] 34)).alloc (.cells #[.int .i64 bx, .int .i64 by_, .int .i64 bz] 34)).heap.size = w.heap.size + 1 + 1 := by simp
    rw [e] at this
    exact this
  · exact ⟨rfl, hB.alloc (by simp; omega) _⟩
theorem bitVec_ok (x y z s : Int) (hs : 0 ≤ s ∧ s ≤ 100000) (w : World) :
    Calls Tryz.prog 99 #[.agg #[.int .i64 x, .int .i64 y, .int .i64 z], .int .i64 s] w fun e w' => e = .returned (.int .i64 (vecI (x, y, z) s)) ∧ Below w.heap.size w w' := by
  unfold vecI
  dsimp only
  have hneg : wrap64 (-s) = -s := by unfold wrap64; omega
  have hneg2 : IntKind.i64.wrap (-s) = -s := by simp [IntKind.wrap, IntKind.bits, IntKind.signed]; omega
  have hc1 := fun W => bitWithin_ok x (-s) s W
  have hc2 := fun W => bitWithin_ok y (-s) s W
  have hc3 := fun W => bitWithin_ok z (-s) s W
  generalize withinI x (-s) s = r1 at hc1 ⊢
  generalize withinI y (-s) s = r2 at hc2 ⊢
  generalize withinI z (-s) s = r3 at hc3 ⊢
  have ho := fun blk W => bitFirst3 r1 r2 r3 blk 3 W
  obtain ⟨W0, hW⟩ : ∃ W0, W0 = (w.alloc (.cells #[.int .i64 x, .int .i64 y, .int .i64 z] 34)) := ⟨_, rfl⟩
  have hB0 : Below w.heap.size w W0 := by subst hW; exact (Below.refl _ _).alloc (Nat.le_refl _) _
  have c0 : W0.cell? ⟨w.heap.size, 0, none⟩ = some (.int .i64 x) := by subst hW; go_simp
  have c1 : W0.cell? ⟨w.heap.size, 1, none⟩ = some (.int .i64 y) := by subst hW; go_simp
  have c2 : W0.cell? ⟨w.heap.size, 2, none⟩ = some (.int .i64 z) := by subst hW; go_simp
  have hky : W0.drew.cell? ⟨w.heap.size, 0, none⟩ = some (.int .i64 x) ∧ W0.drew.cell? ⟨w.heap.size, 1, none⟩ = some (.int .i64 y) ∧ W0.drew.cell? ⟨w.heap.size, 2, none⟩ = some (.int .i64 z) := ⟨c0, c1, c2⟩
  have hBF := hB0.drew.alloc hB0.size (.cells #[.int .i64 r1, .int .i64 r2, .int .i64 r3] 28)
  clear hs
  go_enter Tryz.func99, Tryz.ntmps99
  go_wp2_with fail
  rw [← hW]
  clear hW
  go_region_held3 (fun w' => w'.cell? ⟨w.heap.size, 0, none⟩ = some (.int .i64 x) ∧ w'.cell? ⟨w.heap.size, 1, none⟩ = some (.int .i64 y) ∧ w'.cell? ⟨w.heap.size, 2, none⟩ = some (.int .i64 z)) (first | exact hky | go_keep)
    (first
      | (go_at_call 63; (first | with_reducible refine (hc1 _).mono ?_ | with_reducible refine (hc2 _).mono ?_ | with_reducible refine (hc3 _).mono ?_); rintro e w4 ⟨rfl, rfl⟩)
      | (go_at_call 62; refine (ho _ _ ?_ ?_ ?_).mono ?_; (go_simp); (go_simp); (go_simp); rintro e w5 ⟨rfl, rfl⟩))
  rename_i hHeld
  clear hHeld
  go_wp2
  go_ret
  exact ⟨rfl, hBF⟩
theorem bitCell_ok (x y z : Int) (w : World) :
    Calls Tryz.prog 84 #[.agg #[.int .i64 x, .int .i64 y, .int .i64 z]] w fun e w' => e = .returned (.int .i64 (vecI (x, y, z) 1000)) ∧ Below w.heap.size w w' := by
  have hB : Below w.heap.size w (w.alloc (.cells #[.int .i64 x, .int .i64 y, .int .i64 z] 34)) := (Below.refl _ _).alloc (Nat.le_refl _) _
  have hv := fun W => bitVec_ok x y z 1000 (by decide) W
  generalize vecI (x, y, z) 1000 = r at hv ⊢
  go_enter Tryz.func84, Tryz.ntmps84
  go_wp2_with (go_at_call 99; refine (hv _).mono ?_; rintro e w1 ⟨rfl, hB1⟩)
  go_ret
  exact ⟨rfl, hB.trans (hB1.mono hB.size)⟩
/-- What moves a cell by the vector that lies in a variable. -/
def moverV (q : Nat) : Value := .func (.func 90) #[] #[.pointer (some ⟨q, 0, none⟩)]
theorem bitMake : ∀ (fn : Fn) (first cap : Array Value) (w : World), (Instr.makeFunc fn first cap).run Tryz.prog w = .ok (.func fn first cap) w := fun _ _ _ _ => rfl
theorem bitShift_ok (x y z : Int) (w : World) :
    Calls Tryz.prog 72 #[.agg #[.int .i64 x, .int .i64 y, .int .i64 z]] w fun e w' => e = .returned (moverV w.heap.size) ∧ w' = w.alloc (.cells #[.int .i64 x, .int .i64 y, .int .i64 z] 34) := by
  have hmf := bitMake
  unfold moverV
  go_enter Tryz.func72, Tryz.ntmps72
  go_wp2
  go_ret
  exact ⟨rfl, rfl⟩
theorem bitMover_ok (x y z bx by_ bz : Int) (p : Nat) (w : World) (hp : w.heap[p]? = some (.cells #[.int .i64 bx, .int .i64 by_, .int .i64 bz] 34 (0, 0)))
    (k1 : -9000000 ≤ x + bx ∧ x + bx ≤ 9000000) (k2 : -9000000 ≤ y + by_ ∧ y + by_ ≤ 9000000) (k3 : -9000000 ≤ z + bz ∧ z + bz ≤ 9000000) :
    Calls Tryz.prog 90 #[.agg #[.int .i64 x, .int .i64 y, .int .i64 z], .pointer (some ⟨p, 0, none⟩)] w fun e w' => e = .returned (.agg #[.int .i64 (x + bx), .int .i64 (y + by_), .int .i64 (z + bz)]) ∧ Below w.heap.size w w' := by
  have hpl : p < w.heap.size := (Array.getElem?_eq_some_iff.1 hp).1
  have hk := fun W => bitPlus_ok x y z bx by_ bz W k1 k2 k3
  clear k1 k2 k3
  obtain ⟨W0, hW⟩ : ∃ W0, W0 = (w.alloc (.cells #[.int .i64 x, .int .i64 y, .int .i64 z] 34)).alloc (.cells #[.int .i64 0, .int .i64 0, .int .i64 0] 34) := ⟨_, rfl⟩
  have hB0 : Below w.heap.size w W0 := by subst hW; exact ((Below.refl _ _).alloc (Nat.le_refl _) _).alloc (by simp) _
  have hsz : W0.heap.size = w.heap.size + 1 + 1 := by subst hW; simp
  have c0 : W0.cell? ⟨w.heap.size, 0, none⟩ = some (.int .i64 x) := by subst hW; go_simp
  have c1 : W0.cell? ⟨w.heap.size, 1, none⟩ = some (.int .i64 y) := by subst hW; go_simp
  have c2 : W0.cell? ⟨w.heap.size, 2, none⟩ = some (.int .i64 z) := by subst hW; go_simp
  have hp0 : W0.heap[p]? = some (.cells #[.int .i64 bx, .int .i64 by_, .int .i64 bz] 34 (0, 0)) := (hB0.block p hpl).trans hp
  have hr0 : W0.heap[w.heap.size + 1]? = some (.cells #[.int .i64 0, .int .i64 0, .int .i64 0] 34 (0, 0)) := by
    have := heap_alloc_new (w.alloc (.cells #[.int .i64 x, .int .i64 y, .int .i64 z] 34)) (.cells #[.int .i64 0, .int .i64 0, .int .i64 0] 34)
    rw [← hW] at this
    simpa using this
  have zl := fun j => cell_of_row w p j _ _ _ hp
  have z0 := zl 0
  have z1 := zl 1
  have z2 := zl 2
  simp at z0 z1 z2
  have hne : p ≠ w.heap.size := by omega
  have hne1 : p ≠ w.heap.size + 1 := by omega
  clear zl hp
  have hq := hk W0
  clear hk
  go_enter Tryz.func90, Tryz.ntmps90
  go_wp2_with fail
  rw [← hW]
  clear hW
  refine hq.mono ?_
  rintro e w1 ⟨rfl, hB1⟩
  have hr1 := (hB1.block (w.heap.size + 1) (by omega)).trans hr0
  have zl := fun j => cell_of_row w1 (w.heap.size + 1) j _ _ _ hr1
  have fz := fun j => frozen_of_row w1 (w.heap.size + 1) j _ _ hr1
  have y0 := zl 0
  have y1 := zl 1
  have y2 := zl 2
  simp at y0 y1 y2
  have f0 := fz 0
  have f1 := fz 1
  have f2 := fz 2
  have hB01 := hB0.trans (hB1.mono hB0.size)
  have hF := heap_setCell_same _ (w.heap.size + 1) 2 _ _ (.int .i64 (z + bz)) (heap_setCell_same _ (w.heap.size + 1) 1 _ _ (.int .i64 (y + by_)) (heap_setCell_same _ (w.heap.size + 1) 0 _ _ (.int .i64 (x + bx)) hr1))
  have HR := Lib.hid hF
  clear zl fz c0 c1 c2 z0 z1 z2 hq hr0 hp0 hr1 hF
  go_wp2
  refine bodyPost_ret (results_cell_row rfl _ _ _ 34 #[.int .i64 (x + bx), .int .i64 (y + by_), .int .i64 (z + bz)] (0, 0) _ rfl ?hg Tryz.underlying34 rfl (by kernel_rfl)) rfl ?_
  case hg => simpa using HR.out
  exact ⟨rfl, ((hB01.setCell (p := ⟨w.heap.size + 1, 0, none⟩) (Nat.le_succ _) _).setCell (p := ⟨w.heap.size + 1, 1, none⟩) (Nat.le_succ _) _).setCell (p := ⟨w.heap.size + 1, 2, none⟩) (Nat.le_succ _) _⟩
theorem bitBack_ok (x y z : Int) (w : World) (h : Near (x, y, z) 9000) :
    Calls Tryz.prog 88 #[.agg #[.int .i64 x, .int .i64 y, .int .i64 z]] w fun e w' => ∃ q, e = .returned (moverV q) ∧ w.heap.size ≤ q ∧ w'.heap[q]? = some (.cells #[.int .i64 (-x), .int .i64 (-y), .int .i64 (-z)] 34 (0, 0)) ∧ Below w.heap.size w w' := by
  unfold Near at h
  dsimp only at h
  have w1 : wrap64 (-x) = -x := by unfold wrap64; omega
  have w2 : wrap64 (-y) = -y := by unfold wrap64; omega
  have w3 : wrap64 (-z) = -z := by unfold wrap64; omega
  have hk := fun W => bitShift_ok (-x) (-y) (-z) W
  have hB : Below w.heap.size w (w.alloc (.cells #[.int .i64 x, .int .i64 y, .int .i64 z] 34)) := (Below.refl _ _).alloc (Nat.le_refl _) _
  clear h
  go_enter Tryz.func88, Tryz.ntmps88
  go_wp2_with (go_at_call 72; refine (hk _).mono ?_; rintro e w1 ⟨rfl, rfl⟩)
  go_ret
  have hr := heap_alloc_new (w.alloc (.cells #[.int .i64 x, .int .i64 y, .int .i64 z] 34)) (.cells #[.int .i64 (-x), .int .i64 (-y), .int .i64 (-z)] 34)
  rw [World.size_alloc] at hr
  exact ⟨_, rfl, Nat.le_succ _, hr, hB.alloc hB.size _⟩
theorem vec_near1 {c : Cel} {s : Int} (h : Near c s) : vecI c s = 0 := by
  unfold Near at h
  unfold vecI orI withinI
  rw [if_neg (by omega), if_neg (by omega), if_neg (by omega)]
theorem bitStep_ok (a b : Cel) (w : World) (ha : Near a 1000) (hb : Near b 1000) (hne : a ≠ b) (hs : Near (b.1 - a.1, b.2.1 - a.2.1, b.2.2 - a.2.2) 1) :
    Calls Tryz.prog 85 #[cellV a, cellV b] w fun e w' => e = .returned (.int .i64 0) ∧ Below w.heap.size w w' := by
  obtain ⟨x, y, z⟩ := a
  obtain ⟨x', y', z'⟩ := b
  unfold cellV
  dsimp only at hs ⊢
  have heq := fun W => eqCell x y z x' y' z' W
  have hbq : (x == x' && (y == y' && z == z')) = false := by
    simp only [Bool.and_eq_false_iff, beq_eq_false_iff_ne, ne_eq]
    simp only [ne_eq, Prod.mk.injEq] at hne
    omega
  rw [hbq] at heq
  clear hbq hne
  have k1 := fun W => bitBack_ok x y z W (ha.mono (by omega))
  unfold Near at ha hb
  dsimp only at ha hb
  have k2 := fun W p hp => bitMover_ok x' y' z' (-x) (-y) (-z) p W hp (by omega) (by omega) (by omega)
  have k3 := fun W => bitVec_ok (x' + -x) (y' + -y) (z' + -z) 1 (by decide) W
  have hv : vecI (x' + -x, y' + -y, z' + -z) 1 = 0 := vec_near1 (by unfold Near at hs ⊢; dsimp only at hs ⊢; omega)
  rw [hv] at k3
  clear hv hs ha hb
  obtain ⟨W0, hW⟩ : ∃ W0, W0 = (w.alloc (.cells #[.int .i64 x, .int .i64 y, .int .i64 z] 34)).alloc (.cells #[.int .i64 x', .int .i64 y', .int .i64 z'] 34) := ⟨_, rfl⟩
  have hB0 : Below w.heap.size w W0 := by subst hW; exact ((Below.refl _ _).alloc (Nat.le_refl _) _).alloc (by simp) _
  have hsz : W0.heap.size = w.heap.size + 1 + 1 := by subst hW; simp
  have c0 : W0.cell? ⟨w.heap.size, 0, none⟩ = some (.int .i64 x) := by subst hW; go_simp
  have c1 : W0.cell? ⟨w.heap.size, 1, none⟩ = some (.int .i64 y) := by subst hW; go_simp
  have c2 : W0.cell? ⟨w.heap.size, 2, none⟩ = some (.int .i64 z) := by subst hW; go_simp
  have c3 : W0.cell? ⟨w.heap.size + 1, 0, none⟩ = some (.int .i64 x') := by subst hW; go_simp
  have c4 : W0.cell? ⟨w.heap.size + 1, 1, none⟩ = some (.int .i64 y') := by subst hW; go_simp
  have c5 : W0.cell? ⟨w.heap.size + 1, 2, none⟩ = some (.int .i64 z') := by subst hW; go_simp
  have kk : ∀ V, Below W0.heap.size W0 V → V.cell? ⟨w.heap.size, 0, none⟩ = some (.int .i64 x) ∧ V.cell? ⟨w.heap.size, 1, none⟩ = some (.int .i64 y) ∧ V.cell? ⟨w.heap.size, 2, none⟩ = some (.int .i64 z) ∧ V.cell? ⟨w.heap.size + 1, 0, none⟩ = some (.int .i64 x') ∧ V.cell? ⟨w.heap.size + 1, 1, none⟩ = some (.int .i64 y') ∧ V.cell? ⟨w.heap.size + 1, 2, none⟩ = some (.int .i64 z') := fun V h =>
    ⟨(h.cell (p := ⟨w.heap.size, 0, none⟩) (by show w.heap.size < _; omega)).trans c0, (h.cell (p := ⟨w.heap.size, 1, none⟩) (by show w.heap.size < _; omega)).trans c1, (h.cell (p := ⟨w.heap.size, 2, none⟩) (by show w.heap.size < _; omega)).trans c2, (h.cell (p := ⟨w.heap.size + 1, 0, none⟩) (by show w.heap.size + 1 < _; omega)).trans c3, (h.cell (p := ⟨w.heap.size + 1, 1, none⟩) (by show w.heap.size + 1 < _; omega)).trans c4, (h.cell (p := ⟨w.heap.size + 1, 2, none⟩) (by show w.heap.size + 1 < _; omega)).trans c5⟩
  have hX : Below W0.heap.size W0 W0.drew := (Below.refl _ _).drew
  have hky := kk _ hX
  unfold moverV at k1
  go_enter Tryz.func85, Tryz.ntmps85
  go_wp2_with fail
  rw [← hW]
  clear hW c0 c1 c2 c3 c4 c5
  go_region_held3 (fun w' => w'.cell? ⟨w.heap.size, 0, none⟩ = some (.int .i64 x) ∧ w'.cell? ⟨w.heap.size, 1, none⟩ = some (.int .i64 y) ∧ w'.cell? ⟨w.heap.size, 2, none⟩ = some (.int .i64 z) ∧ w'.cell? ⟨w.heap.size + 1, 0, none⟩ = some (.int .i64 x') ∧ w'.cell? ⟨w.heap.size + 1, 1, none⟩ = some (.int .i64 y') ∧ w'.cell? ⟨w.heap.size + 1, 2, none⟩ = some (.int .i64 z')) (first | exact hky | go_keep)
    (first
      | (go_at_call 88; refine (k1 _).mono ?_; rintro e w4 ⟨q, rfl, hq, hqr, hB4⟩; have hX := hX.trans (hB4.mono hX.size); have hky := kk _ hX)
      | (go_at_call 90; refine (k2 _ _ hqr).mono ?_; rintro e w5 ⟨rfl, hB5⟩; have hX := hX.trans (hB5.mono hX.size); have hky := kk _ hX)
      | (go_at_call 99; refine (k3 _).mono ?_; rintro e w6 ⟨rfl, hB6⟩; have hX := hX.trans (hB6.mono hX.size); have hky := kk _ hX))
  rename_i hHeld
  clear hHeld
  go_wp2
  go_ret
  exact ⟨rfl, hB0.trans (hX.mono hB0.size)⟩
theorem bitPath_ok (p : List Cel) (v : Value) (w : World) (hl : Sl w v p) (hp : PathOk p) :
    Calls Tryz.prog 66 #[v] w fun e w' => e = .returned (.int .i64 0) ∧ Below w.heap.size w w' := by
  have hlen := hp.len
  have hpos := hp.pos
  obtain ⟨A, cap, rfl⟩ := hl.form
  have n0 : ((p.length : Int) == 0) = false := by rw [beq_eq_false_iff_ne]; omega
  have n1 : ¬ (256 : Int) < p.length := by omega
  go_enter Tryz.func66, Tryz.ntmps66
  go_wp2
  go_loopw [15] (fun i wr => ∃ k : Nat, k ≤ p.length ∧ i = .int .i64 k ∧ Below w.heap.size w wr) (fun i _ => p.length - (intOf i).toNat)
  case atStart => exact ⟨0, Nat.zero_le _, rfl, Below.refl _ _⟩
  case round =>
    obtain ⟨k, hk, rfl, hBel⟩ := hrel
    rename World => w1
    rcases Nat.lt_or_eq_of_le hk with hkn | rfl
    · obtain ⟨b, o, x, y, z, rfl, -, hb, hc, r0, r1, r2⟩ := hl.cells hkn
      have hsz := hBel.size
      have hA := hBel.alloc hsz (.cells #[.int .i64 x, .int .i64 y, .int .i64 z] 34)
      have hcell := fun W => bitCell_ok x y z W
      rw [vec_near1 (path_at hp hc)] at hcell
      have kR : ∀ V, Below w.heap.size w V → V.cell? ⟨b, o + k * 3, none⟩ = some (.int .i64 x) ∧ V.cell? ⟨b, o + k * 3 + 1, none⟩ = some (.int .i64 y) ∧ V.cell? ⟨b, o + k * 3 + 2, none⟩ = some (.int .i64 z) := fun V h => ⟨(h.cell (p := ⟨b, _, none⟩) hb).trans r0, (h.cell (p := ⟨b, _, none⟩) hb).trans r1, (h.cell (p := ⟨b, _, none⟩) hb).trans r2⟩
      obtain ⟨s0, s1, s2⟩ := kR _ hBel
      have hlt : w1.heap.size < (w1.alloc (.cells #[.int .i64 x, .int .i64 y, .int .i64 z] 34)).heap.size := by simp
      have hrow := heap_alloc_new w1 (.cells #[.int .i64 x, .int .i64 y, .int .i64 z] 34)
      rcases Nat.eq_zero_or_pos k with hkz | hkp
      · have kz : ((k : Int) == 0) = true := by rw [hkz]; rfl
        clear hl hc r0 r1 r2 hp hkz
        go_wp2_with (go_at_call 84; refine (hcell _).mono ?_; rintro e w2 ⟨rfl, hB2⟩)
        exact ⟨⟨k + 1, hkn, rfl, hA.trans (hB2.mono hA.size)⟩, by simp [intOf]; omega⟩
      · have hkm : k - 1 < p.length := by omega
        obtain ⟨b', o', x', y', z', e1, -, hb', hc', t0, t1, t2⟩ := hl.cells hkm
        obtain ⟨rfl, rfl⟩ : b = b' ∧ o = o' := by
          injection e1 with e1
          injection e1 with e1 e2 _
          exact ⟨e1, e2⟩
        have hstep := hp.step (k - 1) _ _ hc' (by rw [show k - 1 + 1 = k by omega]; exact hc)
        have hS := fun W => bitStep_ok (x', y', z') (x, y, z) W (path_at hp hc') (path_at hp hc) hstep.1 hstep.2
        unfold cellV at hS
        dsimp only at hS
        have kk : ∀ V, Below (w1.heap.size + 1) (w1.alloc (.cells #[.int .i64 x, .int .i64 y, .int .i64 z] 34)) V → V.cell? ⟨b, o + (k - 1) * 3, none⟩ = some (.int .i64 x') ∧ V.cell? ⟨b, o + (k - 1) * 3 + 1, none⟩ = some (.int .i64 y') ∧ V.cell? ⟨b, o + (k - 1) * 3 + 2, none⟩ = some (.int .i64 z') ∧ V.cell? ⟨w1.heap.size, 0, none⟩ = some (.int .i64 x) ∧ V.cell? ⟨w1.heap.size, 1, none⟩ = some (.int .i64 y) ∧ V.cell? ⟨w1.heap.size, 2, none⟩ = some (.int .i64 z) := fun V h => by
          have hV : Below w.heap.size w V := hA.trans (h.mono (by omega))
          have zl := fun j => cell_of_row V w1.heap.size j _ _ _ ((h.block _ (by omega)).trans hrow)
          have z0 := zl 0
          have z1 := zl 1
          have z2 := zl 2
          simp at z0 z1 z2
          exact ⟨(hV.cell (p := ⟨b, _, none⟩) hb).trans t0, (hV.cell (p := ⟨b, _, none⟩) hb).trans t1, (hV.cell (p := ⟨b, _, none⟩) hb).trans t2, z0, z1, z2⟩
        have wk := wrapS (n := (k : Int) - 1) (by omega)
        have i0 : (1 : Int) ≤ (k : Int) := by omega
        have i1 : (k : Int) - 1 < p.length := by omega
        have i2 : ((k : Int) - 1).toNat = k - 1 := by omega
        have kz : ((k : Int) == 0) = false := by rw [beq_eq_false_iff_ne]; omega
        clear hl hc hc' r0 r1 r2 t0 t1 t2 hp hstep e1 kR hrow
        go_wp2_with (go_at_call 84; refine (hcell _).mono ?_; rintro e w2 ⟨rfl, hB2⟩)
        have hX : Below (w1.heap.size + 1) (w1.alloc (.cells #[.int .i64 x, .int .i64 y, .int .i64 z] 34)) w2.drew := by
          have := hB2.drew
          simpa using this
        have hz2 : w1.heap.size + 1 ≤ w2.drew.heap.size := by have := hX.size; simpa using this
        have hky := kk _ hX
        go_region_held3 (fun w' => w'.cell? ⟨b, o + (k - 1) * 3, none⟩ = some (.int .i64 x') ∧ w'.cell? ⟨b, o + (k - 1) * 3 + 1, none⟩ = some (.int .i64 y') ∧ w'.cell? ⟨b, o + (k - 1) * 3 + 2, none⟩ = some (.int .i64 z') ∧ w'.cell? ⟨w1.heap.size, 0, none⟩ = some (.int .i64 x) ∧ w'.cell? ⟨w1.heap.size, 1, none⟩ = some (.int .i64 y) ∧ w'.cell? ⟨w1.heap.size, 2, none⟩ = some (.int .i64 z)) (first | exact hky | go_keep)
          (first
            | (go_at_call 85; refine (hS _).mono ?_; rintro e w3 ⟨rfl, hB3⟩; have hX := hX.trans (hB3.mono hz2); have hky := kk _ hX))
        rename_i hHeld
        clear hHeld
        go_wp2
        exact ⟨⟨k + 1, hkn, rfl, hA.trans (hX.mono (by omega))⟩, by simp [intOf]; omega⟩
    · clear hl hp
      go_wp2
      go_ret
      exact ⟨rfl, hBel⟩
end Go.Proofs
