import Derived.Test.YtfdhppdkgfioaaaGreatDoorCompare
import Derived.Test.YtfdhppdkgfioaaaGreatDoorCells
import Derived.Deep.QuietTactic
import Derived.BigQuiet
import Derived.StillTailTactics
section
namespace Go.Proofs
set_option maxHeartbeats 4000000
set_option maxRecDepth 1000000
def withinI (n lo hi : Int) : Int := if n < lo ∨ hi < n then 3 else 0
theorem within_ok (n lo hi : Int) (w : World) : Calls Tryz.prog 84 #[.int .i64 n, .int .i64 lo, .int .i64 hi] w fun e w' => e = .returned (.int .i64 (withinI n lo hi)) ∧ w' = w := by
  unfold withinI
  go_enter Tryz.func84, Tryz.ntmps84
  go_wp2
  all_goals go_ret
  all_goals (refine ⟨?_, rfl⟩; simp_all <;> omega)
theorem first3_ok (a b c : Int) (blk cap : Nat) (w : World) (h0 : w.cell? ⟨blk, 0, none⟩ = some (.int .i64 a)) (h1 : w.cell? ⟨blk, 1, none⟩ = some (.int .i64 b)) (h2 : w.cell? ⟨blk, 2, none⟩ = some (.int .i64 c)) :
    Calls Tryz.prog 53 #[.slice (some ⟨blk, 0, none⟩) 3 cap] w fun e w' => e = .returned (.int .i64 (orI a b c)) ∧ w' = w := by
  go_enter Tryz.func53, Tryz.ntmps53
  go_wp2
  refine wp_loop_rounds 4 ?_
  rw [rounds_succ]
  go_wp2
  all_goals (try (rw [rounds_succ]; go_wp2))
  all_goals (try (rw [rounds_succ]; go_wp2))
  all_goals (try (rw [rounds_succ]; go_wp2))
  all_goals go_ret
  all_goals (refine ⟨?_, rfl⟩; unfold orI; simp_all)
theorem first2_ok (a b : Int) (blk cap : Nat) (w : World) (h0 : w.cell? ⟨blk, 0, none⟩ = some (.int .i64 a)) (h1 : w.cell? ⟨blk, 1, none⟩ = some (.int .i64 b)) :
    Calls Tryz.prog 53 #[.slice (some ⟨blk, 0, none⟩) 2 cap] w fun e w' => e = .returned (.int .i64 (orI a b 0)) ∧ w' = w := by
  go_enter Tryz.func53, Tryz.ntmps53
  go_wp2
  refine wp_loop_rounds 3 ?_
  rw [rounds_succ]
  go_wp2
  all_goals (try (rw [rounds_succ]; go_wp2))
  all_goals (try (rw [rounds_succ]; go_wp2))
  all_goals go_ret
  all_goals (refine ⟨?_, rfl⟩; unfold orI; simp_all)
end Go.Proofs
end

section
namespace Go.Proofs
set_option maxHeartbeats 4000000
set_option maxRecDepth 1000000
def vecI (c : Int × Int × Int) (s : Int) : Int := orI (withinI c.1 (-s) s) (withinI c.2.1 (-s) s) (withinI c.2.2 (-s) s)
theorem checkVector_ok (x y z s : Int) (hs : 0 ≤ s ∧ s ≤ 100000) (w : World) :
    Calls Tryz.prog 120 #[.agg #[.int .i64 x, .int .i64 y, .int .i64 z], .int .i64 s] w fun e w' => e = .returned (.int .i64 (vecI (x, y, z) s)) ∧ ∃ q os, w' = Sort.grow (w.drewN q) os := by
  unfold vecI
  have hneg : IntKind.i64.wrap (-s) = -s := by simp [IntKind.wrap, IntKind.bits, IntKind.signed]; omega
  have hc1 := fun W => within_ok x (-s) s W
  have hc2 := fun W => within_ok y (-s) s W
  have hc3 := fun W => within_ok z (-s) s W
  dsimp only
  generalize withinI x (-s) s = r1 at hc1 ⊢
  generalize withinI y (-s) s = r2 at hc2 ⊢
  generalize withinI z (-s) s = r3 at hc3 ⊢
  have ho := fun blk W => first3_ok r1 r2 r3 blk 3 W
  generalize orI r1 r2 r3 = r at ho ⊢
  obtain ⟨W, hW⟩ : ∃ W, W = (w.alloc (.cells #[.int .i64 x, .int .i64 y, .int .i64 z] 24)) := ⟨_, rfl⟩
  have a0 : W.cell? ⟨w.heap.size, 0, none⟩ = some (.int .i64 x) := by subst hW; go_simp
  have a1 : W.cell? ⟨w.heap.size, 1, none⟩ = some (.int .i64 y) := by subst hW; go_simp
  have a2 : W.cell? ⟨w.heap.size, 2, none⟩ = some (.int .i64 z) := by subst hW; go_simp
  have hsz : W.heap.size = w.heap.size + 1 := by subst hW; simp
  go_enter Tryz.func120, Tryz.ntmps120
  go_wp2
  rw [← hW]
  refine wp_region_still_tail 18 (by kernel_rfl) (by kernel_rfl) ?_
  simp only [List.take_succ_cons, List.take_zero, List.drop_succ_cons, List.drop_zero]
  change wpStill _ _ W.drew (fun a' => wpList _ _ _ _ a' W.drew) _ _
  still_step
  still_step
  still_step
  still_step
  still_step
  still_call (hc1 _)
  still_step
  still_step
  still_step
  still_step
  still_step
  still_call (hc2 _)
  still_step
  still_step
  still_step
  still_step
  still_step
  still_call (hc3 _)
  refine wpStill_nil ?_
  obtain ⟨W2, hW2⟩ : ∃ W2, W2 = W.drew := ⟨_, rfl⟩
  rw [← hW2]
  have hg : ∃ q os, W2 = Sort.grow (w.drewN q) os := ⟨1, _, by rw [hW2, hW, Sort.alloc_eq_grow]; rfl⟩
  have h0 : (W2.alloc (.cells #[.int .i64 r1, .int .i64 r2, .int .i64 r3] 28)).cell? ⟨W2.heap.size, 0, none⟩ = some (.int .i64 r1) := by go_simp
  have h1 : (W2.alloc (.cells #[.int .i64 r1, .int .i64 r2, .int .i64 r3] 28)).cell? ⟨W2.heap.size, 1, none⟩ = some (.int .i64 r2) := by go_simp
  have h2 : (W2.alloc (.cells #[.int .i64 r1, .int .i64 r2, .int .i64 r3] 28)).cell? ⟨W2.heap.size, 2, none⟩ = some (.int .i64 r3) := by go_simp
  have ho' := ho _ _ h0 h1 h2
  clear h0 h1 h2 ho hc1 hc2 hc3 a0 a1 a2 hW2 hsz hW hneg hs
  go_wp2_with (go_at_call 53; refine ho'.mono ?_; rintro e w' ⟨rfl, rfl⟩)
  go_ret
  obtain ⟨q, os, rfl⟩ := hg
  exact ⟨rfl, q, _, by rw [Sort.alloc_eq_grow, Sort.grow_grow]⟩
theorem below_grow (w : World) (q : Nat) (os : Array Obj) : Go.RowKit.Below w.heap.size w (Sort.grow (w.drewN q) os) :=
  ⟨rfl, rfl, rfl, by rw [Sort.size_grow]; exact Nat.le_add_right _ _, fun k hk => Sort.heap_grow_old (w.drewN q) os hk⟩
theorem checkCell_ok (x y z : Int) (w : World) :
    Calls Tryz.prog 66 #[.agg #[.int .i64 x, .int .i64 y, .int .i64 z]] w fun e w' => e = .returned (.int .i64 (vecI (x, y, z) 1000)) ∧ Go.RowKit.Below w.heap.size w w' := by
  have hv := fun W => checkVector_ok x y z 1000 (by decide) W
  generalize vecI (x, y, z) 1000 = r at hv ⊢
  go_enter Tryz.func66, Tryz.ntmps66
  go_wp2_with (go_at_call 120; refine (hv _).mono ?_; rintro e w' ⟨rfl, q, os, rfl⟩)
  go_ret
  refine ⟨rfl, ?_⟩
  rw [Sort.alloc_eq_grow, show (Sort.grow w #[Obj.cells #[.int .i64 x, .int .i64 y, .int .i64 z] 24]).drewN q = Sort.grow (w.drewN q) _ from rfl, Sort.grow_grow]
  exact below_grow _ _ _
end Go.Proofs
end

section
namespace Go.Proofs
open Go.RowKit
set_option maxHeartbeats 4000000
set_option maxRecDepth 1000000
def farB (a n : Int) : Bool := decide (a < 0 - n ∨ n < a)
theorem far_ok (a : Int) (w : World) : Calls Tryz.prog 60 #[.int .i64 a, .int .i64 1000] w fun e w' => e = .returned (.bool (farB a 1000)) ∧ w' = w := by
  unfold farB
  go_enter Tryz.func60, Tryz.ntmps60
  go_wp2
  all_goals go_ret
  all_goals (refine ⟨?_, rfl⟩; simp_all <;> omega)
theorem refCheckCell_ok (x y z : Int) (w : World) (hx : farB x 1000 = false) (hy : farB y 1000 = false) (hz : farB z 1000 = false) :
    Calls Tryz.prog 16 #[.agg #[.int .i64 x, .int .i64 y, .int .i64 z]] w fun e w' => e = .returned (.int .i64 0) ∧ Below w.heap.size w w' := by
  go_enter Tryz.func16, Tryz.ntmps16
  go_wp2_with (go_at_call 60; refine (far_ok _ _).mono ?_; rintro e w' ⟨rfl, rfl⟩; simp only [hx, hy, hz])
  go_ret
  exact ⟨rfl, (Below.refl _ _).alloc (Nat.le_refl _) _⟩
theorem before_ok (x1 y1 z1 x2 y2 z2 : Int) (w : World) :
    Calls Tryz.prog 56 #[.agg #[.int .i64 x1, .int .i64 y1, .int .i64 z1], .agg #[.int .i64 x2, .int .i64 y2, .int .i64 z2]] w fun e w' => e = .returned (.bool (decide (cmp3 x1 y1 z1 x2 y2 z2 < 0))) ∧ Below w.heap.size w w' := by
  unfold cmp3 orI cmpI
  go_enter Tryz.func56, Tryz.ntmps56
  go_wp2
  all_goals go_ret
  all_goals (refine ⟨?_, ((Below.refl _ _).alloc (Nat.le_refl _) _).alloc (by simp) _⟩; simp_all <;> (try (split <;> simp_all)) <;> omega)
end Go.Proofs
end

section
namespace Go.Proofs
open Go.RowKit
set_option maxHeartbeats 4000000
set_option maxRecDepth 1000000
theorem wrapS {n : Int} (h : -9000000 ≤ n ∧ n ≤ 9000000) : IntKind.i64.wrap n = n := by simp [IntKind.wrap, IntKind.bits, IntKind.signed]; omega
theorem compareCells_ok (x1 y1 z1 x2 y2 z2 : Int) (w : World) :
    Calls Tryz.prog 110 #[.agg #[.int .i64 x1, .int .i64 y1, .int .i64 z1], .agg #[.int .i64 x2, .int .i64 y2, .int .i64 z2]] w fun e w' => e = .returned (.int .i64 (cmp3 x1 y1 z1 x2 y2 z2)) ∧ Below w.heap.size w w' := by
  have hc := fun W => compare_ok x1 y1 z1 x2 y2 z2 W
  generalize cmp3 x1 y1 z1 x2 y2 z2 = r at hc ⊢
  go_enter Tryz.func110, Tryz.ntmps110
  go_wp2_with (go_at_call 154; refine (hc _).mono ?_; rintro e w' ⟨rfl, q, os, rfl⟩)
  go_ret
  refine ⟨rfl, ?_⟩
  rw [Sort.alloc_eq_grow, Sort.alloc_eq_grow, Sort.grow_grow, show ∀ os', (Sort.grow w os').drewN q = Sort.grow (w.drewN q) os' from fun _ => rfl, Sort.grow_grow]
  exact below_grow _ _ _
theorem checkEach_ok (l : List Cel) (blk off cap : Nat) (w : World) (hl : RowAt w blk off l) (hb : blk < w.heap.size) (hn : l.length ≤ 4096) (hfit : ∀ c ∈ l, vecI c 1000 = 0) :
    Calls Tryz.prog 105 #[.slice (some ⟨blk, off, none⟩) l.length cap] w fun e w' => e = .returned (.int .i64 0) ∧ Below w.heap.size w w' := by
  go_enter Tryz.func105, Tryz.ntmps105
  go_wp2
  go_loopw [8] (fun i wr => ∃ k : Nat, k ≤ l.length ∧ i = .int .i64 k ∧ Below w.heap.size w wr) (fun i _ => l.length - (intOf i).toNat)
  case atStart => exact ⟨0, Nat.zero_le _, rfl, Below.refl _ _⟩
  case round =>
    obtain ⟨k, hk, rfl, hBel⟩ := hrel
    rcases Nat.lt_or_eq_of_le hk with hkn | rfl
    · obtain ⟨x, y, z, hc⟩ : ∃ x y z, l[k]? = some (x, y, z) := ⟨_, _, _, List.getElem?_eq_getElem hkn⟩
      have hv := fun W => checkCell_ok x y z W
      rw [hfit _ (List.mem_of_getElem? hc)] at hv
      obtain ⟨r0, r1, r2⟩ := hl k _ hc
      rw [← hBel.cell (p := ⟨blk, off + k * 3, none⟩) hb] at r0
      rw [← hBel.cell (p := ⟨blk, off + k * 3 + 1, none⟩) hb] at r1
      rw [← hBel.cell (p := ⟨blk, off + k * 3 + 2, none⟩) hb] at r2
      clear hl hfit
      go_wp2_with (go_at_call 66; refine (hv _).mono ?_; rintro e w2 ⟨rfl, hB2⟩)
      refine ⟨⟨k + 1, hkn, rfl, ?_⟩, ?_⟩
      · exact (hBel.alloc hBel.size _).trans (hB2.mono (by have := hBel.size; simp; omega))
      · simp [intOf]; omega
    · clear hl hfit
      go_wp2
      go_ret
      exact ⟨rfl, hBel⟩
end Go.Proofs
end

section
namespace Go.Proofs
open Go.RowKit
set_option maxHeartbeats 4000000
set_option maxRecDepth 1000000
def Asc (l : List Cel) : Prop := ∀ i a b, l[i]? = some a → l[i+1]? = some b → cmp3 a.1 a.2.1 a.2.2 b.1 b.2.1 b.2.2 < 0
theorem gridCheck_ok (l : List Cel) (blk off cap : Nat) (w : World) (hl : RowAt w blk off l) (hb : blk < w.heap.size) (hn : l.length ≤ 4096) (hfit : ∀ c ∈ l, vecI c 1000 = 0) (hasc : Asc l) :
    Calls Tryz.prog 49 #[.slice (some ⟨blk, off, none⟩) l.length cap] w fun e w' => e = .returned (.int .i64 0) ∧ Below w.heap.size w w' := by
  go_enter Tryz.func49, Tryz.ntmps49
  have hn' : ¬ ((4096 : Int) < l.length) := by omega
  go_wp2
  go_loopw [11] (fun i wr => ∃ k : Nat, k ≤ l.length ∧ i = .int .i64 k ∧ Below w.heap.size w wr) (fun i _ => l.length - (intOf i).toNat)
  case atStart => exact ⟨0, Nat.zero_le _, rfl, Below.refl _ _⟩
  case round =>
    obtain ⟨k, hk, rfl, hBel⟩ := hrel
    rcases Nat.lt_or_eq_of_le hk with hkn | rfl
    · obtain ⟨x, y, z, hc⟩ : ∃ x y z, l[k]? = some (x, y, z) := ⟨_, _, _, List.getElem?_eq_getElem hkn⟩
      have hv := fun W => checkCell_ok x y z W
      rw [hfit _ (List.mem_of_getElem? hc)] at hv
      obtain ⟨r0, r1, r2⟩ := hl k _ hc
      rw [← hBel.cell (p := ⟨blk, off + k * 3, none⟩) hb] at r0
      rw [← hBel.cell (p := ⟨blk, off + k * 3 + 1, none⟩) hb] at r1
      rw [← hBel.cell (p := ⟨blk, off + k * 3 + 2, none⟩) hb] at r2
      have hsz := hBel.size
      rcases Nat.eq_zero_or_pos k with rfl | hpos
      · simp only [Nat.zero_mul, Nat.add_zero] at r0 r1 r2
        clear hl hfit hasc
        go_wp2_with (go_at_call 66; refine (hv _).mono ?_; rintro e w2 ⟨rfl, hB2⟩)
        have hB3 : Below w.heap.size w w2 := (hBel.alloc hsz _).trans (hB2.mono (by simp; omega))
        clear hB2 hv hBel
        go_quiet (fail)
        go_wp2
        exact ⟨⟨1, hkn, rfl, ⟨hB3.os, hB3.tape, hB3.output, hB3.size, hB3.block⟩⟩, by simp [intOf]; omega⟩
      · obtain ⟨px, py, pz, hp⟩ : ∃ x y z, l[k-1]? = some (x, y, z) := ⟨_, _, _, List.getElem?_eq_getElem (by omega)⟩
        have hlt := hasc (k-1) (px, py, pz) (x, y, z) hp (by rw [show k - 1 + 1 = k by omega]; exact hc)
        have hcm := fun W => compareCells_ok px py pz x y z W
        dsimp only at hlt
        generalize cmp3 px py pz x y z = r at hlt hcm
        obtain ⟨q0, q1, q2⟩ := hl (k-1) _ hp
        have hkk : (k - 1) * 3 + 3 = k * 3 := by omega
        clear hl hfit hasc
        go_wp2_with (go_at_call 66; refine (hv _).mono ?_; rintro e w2 ⟨rfl, hB2⟩)
        have hB3 : Below w.heap.size w w2 := (hBel.alloc hsz _).trans (hB2.mono (by simp; omega))
        have c0 : w2.cell? ⟨wr.heap.size, 0, none⟩ = some (.int .i64 x) := by rw [hB2.cell (p := ⟨wr.heap.size, 0, none⟩) (by simp)]; go_simp
        have c1 : w2.cell? ⟨wr.heap.size, 1, none⟩ = some (.int .i64 y) := by rw [hB2.cell (p := ⟨wr.heap.size, 1, none⟩) (by simp)]; go_simp
        have c2 : w2.cell? ⟨wr.heap.size, 2, none⟩ = some (.int .i64 z) := by rw [hB2.cell (p := ⟨wr.heap.size, 2, none⟩) (by simp)]; go_simp
        rw [← hB3.cell (p := ⟨blk, off + (k - 1) * 3, none⟩) hb] at q0
        rw [← hB3.cell (p := ⟨blk, off + (k - 1) * 3 + 1, none⟩) hb] at q1
        rw [← hB3.cell (p := ⟨blk, off + (k - 1) * 3 + 2, none⟩) hb] at q2
        clear hB2 hv hBel r0 r1 r2
        have hw : IntKind.i64.wrap ((k : Int) - 1) = (k : Int) - 1 := wrapS (by omega)
        have hi0 : 1 ≤ (k : Int) := by omega
        have hi1 : (k : Int) - 1 < l.length := by omega
        have hit : ((k : Int) - 1).toNat = k - 1 := by omega
        have hd : decide ((0 : Int) < k) = true := by simp; omega
        go_still_tail 9, (by kernel_rfl)
        change wpList _ _ _ _ _ w2.drew
        have hB4 : Below w.heap.size w w2.drew := ⟨hB3.os, hB3.tape, hB3.output, hB3.size, hB3.block⟩
        clear q0 q1 q2 c0 c1 c2 hw hi0 hi1 hit hd hB3
        generalize w2.drew = w3 at hB4 ⊢
        have hr : ¬ (0 ≤ r) := by omega
        go_wp2_with (go_at_call 110; refine (hcm _).mono ?_; rintro e w4 ⟨rfl, hB5⟩)
        exact ⟨⟨k + 1, hkn, rfl, hB4.trans (hB5.mono hB4.size)⟩, by simp [intOf]; omega⟩
    · clear hl hfit hasc
      go_wp2
      go_ret
      exact ⟨rfl, hBel⟩
end Go.Proofs
end
