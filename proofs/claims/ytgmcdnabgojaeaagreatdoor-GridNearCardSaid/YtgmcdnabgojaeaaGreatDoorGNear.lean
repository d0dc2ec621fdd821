import Derived.Test.YtgmcdnabgojaeaaGreatDoorGNeA
import Derived.Test.YtgmcdnabgojaeaaGreatDoorAwkAt
import Derived.Test.YtgmcdnabgojaeaaGreatDoorAwk
import Derived.Test.YtgmcdnabgojaeaaGreatDoorHeldF
import Derived.Test.YtgmcdnabgojaeaaGreatDoorG1
import Derived.Test.YtgmcdnabgojaeaaGreatDoorApartG
import Derived.Test.YtgmcdnabgojaeaaGreatDoorUnionR
section
/- GridNear: the walk's ways out. -/
namespace Go.Proofs
open Go.RowKit
set_option maxHeartbeats 16000000
set_option maxRecDepth 1000000
theorem within_kept {n lo hi : Int} (h : withinI n lo hi = 0) : lo ≤ n ∧ n ≤ hi := by
  unfold withinI at h
  split at h
  · cases h
  · omega
theorem less_none {a b : List Cel} {va vb : Value} {w : World} (ha : Sl w va a) (hb : Sl w vb b) (la : a.length ≤ 400000) (lb : b.length ≤ 400000) (h : (a.filter fun c => !decide (c ∈ b)) = []) :
    Calls Tryz.prog 15 #[va, vb] w fun e w' => ∃ (A : Option Addr) (cap : Nat), e = .returned (.slice A 0 cap) ∧ Below w.heap.size w w' := by
  refine (refLess_ok a b va vb w ha hb la lb).mono ?_
  rintro e w' ⟨v', rfl, ho, hB⟩
  have hs := ho.sl
  rw [h] at hs
  obtain ⟨A, cap, rfl⟩ := hs.form
  exact ⟨A, cap, rfl, hB⟩
theorem cut_none {a b : List Cel} {va vb : Value} {w : World} (ha : Sl w va a) (hb : Sl w vb b) (la : a.length ≤ 400000) (lb : b.length ≤ 400000) (h : (a.filter fun c => decide (c ∈ b)) = []) :
    Calls Tryz.prog 17 #[va, vb] w fun e w' => ∃ (A : Option Addr) (cap : Nat), e = .returned (.slice A 0 cap) ∧ Below w.heap.size w w' := by
  refine (refCut_ok a b va vb w ha hb la lb).mono ?_
  rintro e w' ⟨v', rfl, ho, hB⟩
  have hs := ho.sl
  rw [h] at hs
  obtain ⟨A, cap, rfl⟩ := hs.form
  exact ⟨A, cap, rfl, hB⟩
theorem gnear_6 (l : List Cel) (A : Option Addr) (ka : Nat) (s0 s1 x y z : Int) (w : World) (kA : AwakeAt w) (ha : Sl w (.slice A l.length ka) l) (hl : l.length ≤ maxLen) (e0 : (((l.length : Nat) : Int) == 0) = false) (hf : fewB 12 512 l = true) (hn : nearB l = true) (hc : nearB [(x, y, z)] = true) (hr : withinI s0 0 2 + withinI s1 0 2 = 0) :
    Calls Tryz.prog 3 #[.slice A l.length ka, .agg #[.int .i64 s0, .int .i64 s1], .agg #[.int .i64 x, .int .i64 y, .int .i64 z]] w fun e w' => e = .returned (.bool true) ∧ Below w.heap.size w w' := by
  have hz0 : withinI s0 0 2 = 0 := by have := near200 0 0 0; unfold withinI at hr ⊢; split at hr <;> split at hr <;> simp_all
  have hz1 : withinI s1 0 2 = 0 := by rw [hz0] at hr; omega
  have hs0 := within_kept hz0
  have hs1 := within_kept hz1
  obtain ⟨s0, rfl⟩ : ∃ k : Nat, s0 = k := ⟨s0.toNat, by omega⟩
  obtain ⟨s1, rfl⟩ : ∃ k : Nat, s1 = k := ⟨s1.toNat, by omega⟩
  have b0 : s0 ≤ 2 := by omega
  have b1 : s1 ≤ 2 := by omega
  have cl := (few_true hf).2
  have l12 : l.length ≤ 12 := by have := (few_true hf).1; omega
  have n200 : ∀ c ∈ l, Near c 200 := fun c hc => of_decide_eq_true (List.all_eq_true.1 hn c hc)
  clear hz0 hz1 hs0 hs1
  obtain ⟨W0, hW⟩ : ∃ W0, W0 = (w.alloc (.cells #[.int .i64 s0, .int .i64 s1] 23)).alloc (.cells #[.int .i64 x, .int .i64 y, .int .i64 z] 25) := ⟨_, rfl⟩
  have hK0 : Below w.heap.size w W0 := by subst hW; exact ((Below.refl _ _).alloc (Nat.le_refl _) _).alloc (by simp) _
  have kS : W0.cell? ⟨w.heap.size, 0, none⟩ = some (.int .i64 s0) ∧ W0.cell? ⟨w.heap.size, 1, none⟩ = some (.int .i64 s1) ∧ W0.cell? ⟨w.heap.size + 1, 0, none⟩ = some (.int .i64 x) ∧ W0.cell? ⟨w.heap.size + 1, 1, none⟩ = some (.int .i64 y) ∧ W0.cell? ⟨w.heap.size + 1, 2, none⟩ = some (.int .i64 z) := by subst hW; refine ⟨?_, ?_, ?_, ?_, ?_⟩ <;> go_simp
  have hlt : w.heap.size + 1 < W0.heap.size := by subst hW; simp
  have kk : ∀ W', Below W0.heap.size W0 W' → W'.cell? ⟨w.heap.size, 0, none⟩ = some (.int .i64 s0) ∧ W'.cell? ⟨w.heap.size, 1, none⟩ = some (.int .i64 s1) ∧ W'.cell? ⟨w.heap.size + 1, 0, none⟩ = some (.int .i64 x) ∧ W'.cell? ⟨w.heap.size + 1, 1, none⟩ = some (.int .i64 y) ∧ W'.cell? ⟨w.heap.size + 1, 2, none⟩ = some (.int .i64 z) := fun W' h => ⟨(h.cell (p := ⟨w.heap.size, 0, none⟩) (by show w.heap.size < _; omega)).trans kS.1, (h.cell (p := ⟨w.heap.size, 1, none⟩) (by show w.heap.size < _; omega)).trans kS.2.1, (h.cell (p := ⟨w.heap.size + 1, 0, none⟩) hlt).trans kS.2.2.1, (h.cell (p := ⟨w.heap.size + 1, 1, none⟩) hlt).trans kS.2.2.2.1, (h.cell (p := ⟨w.heap.size + 1, 2, none⟩) hlt).trans kS.2.2.2.2⟩
  have hX0 := fun W (h : Below W0.heap.size W0 W) => hK0.trans (h.mono hK0.size)
  have k0 := fun W (h : Below W0.heap.size W0 W) => kA W (hX0 W h)
  have hX : Below W0.heap.size W0 W0.drew := (Below.refl _ _).drew
  have kF := fun W (h : Below W0.heap.size W0 W) => few_ok l _ 12 512 W (ha.below (hX0 W h)) hl (by omega)
  rw [hf] at kF
  have kN := fun W (h : Below W0.heap.size W0 W) => near_ok l _ W (ha.below (hX0 W h)) (by have := few_true hf; omega)
  rw [hn] at kN
  have kN1 := fun W v (h : Sl W v [(x, y, z)]) => near_ok [(x, y, z)] v W h (by simp)
  rw [hc] at kN1
  have kR0 := fun W => checkRange_ok s0 0 2 W
  have kR1 := fun W => checkRange_ok s1 0 2 W
  have wr := wrapS (n := withinI s0 0 2 + withinI s1 0 2) (by unfold withinI; split <;> split <;> omega)
  have hr' : (withinI s0 0 2 + withinI s1 0 2 != 0) = false := by rw [hr]; rfl
  have kG := fun W (h : Below W0.heap.size W0 W) => grow_fine (n := s0) (ha.below (hX0 W h)) cl (by omega) (fun i hi S h1 h2 => grow_small4 l12 (by omega) h1 h2) (near_in n200 (by omega))
  have kG2 := fun W (h : Below W0.heap.size W0 W) => grow_fine (n := s0 + s1) (ha.below (hX0 W h)) cl (by omega) (fun i hi S h1 h2 => grow_small4 l12 (by omega) h1 h2) (near_in n200 (by omega))
  have wq := wrapS (n := (s0 : Int) + (s1 : Int)) (by omega)
  simp only [Int.natCast_add] at kG2
  have l0 : 0 < l.length := by have := e0; rw [beq_eq_false_iff_ne] at this; omega
  have c1 : chkI [(x, y, z)] = 0 := chkI_zero.2 ⟨by simp, fun c h => (of_decide_eq_true (List.all_eq_true.1 hc c h)).mono (by omega), List.pairwise_singleton _ _⟩
  have kD := fun W (h : Below W0.heap.size W0 W) => apartG_ok l [(x, y, z)] (.slice A l.length ka) _ 1 _ ((ha.below (hX0 W h)).below (below_alloc W (.cells #[.int .i64 x, .int .i64 y, .int .i64 z] 25))) (one_sl W x y z) cl c1 l0 (by simp) (by simp) (by omega) ⟨_, rfl⟩
  have kS1 := fun W (h : Below W0.heap.size W0 W) => shrink_fine (n := s0) (ha.below (hX0 W h)) cl (by omega)
  have kSh := fun W (h : Below W0.heap.size W0 W) => shell_fine (ha.below (hX0 W h)) cl
  have kI : ∀ W, Below W0.heap.size W0 W → Calls Tryz.prog 10 #[.slice A l.length ka, .int .i64 1] W fun e w' => FineG W (shrN 1 l) e w' := fun W h => shrink_fine (n := 1) (ha.below (hX0 W h)) cl (by omega)
  clear l0 c1
  clear kA hl hf hn hc hr
  go_enter Tryz.func3, Tryz.ntmps3
  go_wp2_with fail
  rw [← hW]
  clear hW
  refine wp_region_held_drew (S := fun w' => w'.cell? ⟨w.heap.size, 0, none⟩ = some (.int .i64 s0) ∧ w'.cell? ⟨w.heap.size, 1, none⟩ = some (.int .i64 s1) ∧ w'.cell? ⟨w.heap.size + 1, 0, none⟩ = some (.int .i64 x) ∧ w'.cell? ⟨w.heap.size + 1, 1, none⟩ = some (.int .i64 y) ∧ w'.cell? ⟨w.heap.size + 1, 2, none⟩ = some (.int .i64 z)) (by kernel_rfl) kS (fun hHeld => ?_)
  refine wpAnyH_ready (rs := [0]) (by kernel_rfl) (by simp) ?_
  refine AllReadyH.cons rfl (fun K hK => ?_) AllReadyH.nil
  go_simp
  refine (k0 _ hX).mono ?_
  rintro e v0 ⟨rfl, hB⟩
  replace hX := hX.trans (hB.mono hX.size)
  go_wp2_with fail
  refine hK.out _ _ (kk _ hX) (fun hHeld => ?_)
  clear hK K
  clear hB
  try simp only [Act.put, List.setIfInBounds_toArray, List.set_cons_zero, List.set_cons_succ]
  refine wpAnyH_ready (rs := [1]) (by kernel_rfl) (by simp) ?_
  refine AllReadyH.cons rfl (fun K hK => ?_) AllReadyH.nil
  go_simp
  refine hK.out _ _ hHeld (fun _ => ?_)
  clear hK K
  try simp only [Act.put, List.setIfInBounds_toArray, List.set_cons_zero, List.set_cons_succ]
  refine wpAnyH_ready (rs := [2]) (by kernel_rfl) (by simp) ?_
  refine AllReadyH.cons rfl (fun K hK => ?_) AllReadyH.nil
  go_simp
  refine hK.out _ _ hHeld (fun _ => ?_)
  clear hK K
  try simp only [Act.put, List.setIfInBounds_toArray, List.set_cons_zero, List.set_cons_succ]
  refine wpAnyH_ready (rs := [3]) (by kernel_rfl) (by simp) ?_
  refine AllReadyH.cons rfl (fun K hK => ?_) AllReadyH.nil
  go_simp
  refine hK.out _ _ hHeld (fun _ => ?_)
  clear hK K
  try simp only [Act.put, List.setIfInBounds_toArray, List.set_cons_zero, List.set_cons_succ]
  refine wpAnyH_ready (rs := [4]) (by kernel_rfl) (by simp) ?_
  refine AllReadyH.cons rfl (fun K hK => ?_) AllReadyH.nil
  go_simp
  refine hK.out _ _ hHeld (fun _ => ?_)
  clear hK K
  try simp only [Act.put, List.setIfInBounds_toArray, List.set_cons_zero, List.set_cons_succ]
  refine wpAnyH_ready (rs := [5]) (by kernel_rfl) (by simp) ?_
  refine AllReadyH.cons rfl (fun K hK => ?_) AllReadyH.nil
  go_simp
  refine hK.out _ _ hHeld (fun _ => ?_)
  clear hK K
  try simp only [Act.put, List.setIfInBounds_toArray, List.set_cons_zero, List.set_cons_succ]
  refine wpAnyH_ready (rs := [6]) (by kernel_rfl) (by simp) ?_
  refine AllReadyH.cons rfl (fun K hK => ?_) AllReadyH.nil
  go_simp
  refine hK.out _ _ hHeld (fun _ => ?_)
  clear hK K
  try simp only [Act.put, List.setIfInBounds_toArray, List.set_cons_zero, List.set_cons_succ]
  refine wpAnyH_ready (rs := [7]) (by kernel_rfl) (by simp) ?_
  refine AllReadyH.cons rfl (fun K hK => ?_) AllReadyH.nil
  go_simp
  refine hK.out _ _ hHeld (fun _ => ?_)
  clear hK K
  try simp only [Act.put, List.setIfInBounds_toArray, List.set_cons_zero, List.set_cons_succ]
  refine wpAnyH_ready (rs := [8]) (by kernel_rfl) (by simp) ?_
  refine AllReadyH.cons rfl (fun K hK => ?_) AllReadyH.nil
  go_simp
  refine hK.out _ _ hHeld (fun _ => ?_)
  clear hK K
  try simp only [Act.put, List.setIfInBounds_toArray, List.set_cons_zero, List.set_cons_succ]
  refine wpAnyH_ready (rs := [9]) (by kernel_rfl) (by simp) ?_
  refine AllReadyH.cons rfl (fun K hK => ?_) AllReadyH.nil
  go_simp
  refine (kF _ hX).mono ?_
  rintro e v9 ⟨rfl, hB⟩
  replace hX := hX.trans (hB.mono hX.size)
  go_wp2_with fail
  refine hK.out _ _ (kk _ hX) (fun hHeld => ?_)
  clear hK K
  clear hB
  try simp only [Act.put, List.setIfInBounds_toArray, List.set_cons_zero, List.set_cons_succ]
  refine wpAnyH_ready (rs := [10]) (by kernel_rfl) (by simp) ?_
  refine AllReadyH.cons rfl (fun K hK => ?_) AllReadyH.nil
  go_simp
  refine hK.out _ _ hHeld (fun _ => ?_)
  clear hK K
  try simp only [Act.put, List.setIfInBounds_toArray, List.set_cons_zero, List.set_cons_succ]
  refine wpAnyH_ready (rs := [11]) (by kernel_rfl) (by simp) ?_
  refine AllReadyH.cons rfl (fun K hK => ?_) AllReadyH.nil
  go_simp
  refine hK.out _ _ hHeld (fun _ => ?_)
  clear hK K
  try simp only [Act.put, List.setIfInBounds_toArray, List.set_cons_zero, List.set_cons_succ]
  refine wpAnyH_ready (rs := [12]) (by kernel_rfl) (by simp) ?_
  refine AllReadyH.cons rfl (fun K hK => ?_) AllReadyH.nil
  go_simp
  refine hK.out _ _ hHeld (fun _ => ?_)
  clear hK K
  try simp only [Act.put, List.setIfInBounds_toArray, List.set_cons_zero, List.set_cons_succ]
  refine wpAnyH_ready (rs := [13]) (by kernel_rfl) (by simp) ?_
  refine AllReadyH.cons rfl (fun K hK => ?_) AllReadyH.nil
  go_simp
  refine hK.out _ _ hHeld (fun _ => ?_)
  clear hK K
  try simp only [Act.put, List.setIfInBounds_toArray, List.set_cons_zero, List.set_cons_succ]
  refine wpAnyH_ready (rs := [14]) (by kernel_rfl) (by simp) ?_
  refine AllReadyH.cons rfl (fun K hK => ?_) AllReadyH.nil
  go_simp
  refine (kN _ hX).mono ?_
  rintro e v14 ⟨rfl, hB⟩
  replace hX := hX.trans (hB.mono hX.size)
  go_wp2_with fail
  refine hK.out _ _ (kk _ hX) (fun hHeld => ?_)
  clear hK K
  clear hB
  try simp only [Act.put, List.setIfInBounds_toArray, List.set_cons_zero, List.set_cons_succ]
  refine wpAnyH_ready (rs := [15]) (by kernel_rfl) (by simp) ?_
  refine AllReadyH.cons rfl (fun K hK => ?_) AllReadyH.nil
  go_simp
  refine hK.out _ _ hHeld (fun _ => ?_)
  clear hK K
  try simp only [Act.put, List.setIfInBounds_toArray, List.set_cons_zero, List.set_cons_succ]
  refine wpAnyH_ready (rs := [16]) (by kernel_rfl) (by simp) ?_
  refine AllReadyH.cons rfl (fun K hK => ?_) AllReadyH.nil
  go_simp
  refine hK.out _ _ hHeld (fun _ => ?_)
  clear hK K
  try simp only [Act.put, List.setIfInBounds_toArray, List.set_cons_zero, List.set_cons_succ]
  refine wpAnyH_ready (rs := [17]) (by kernel_rfl) (by simp) ?_
  refine AllReadyH.cons rfl (fun K hK => ?_) AllReadyH.nil
  go_simp
  refine hK.out _ _ hHeld (fun _ => ?_)
  clear hK K
  try simp only [Act.put, List.setIfInBounds_toArray, List.set_cons_zero, List.set_cons_succ]
  refine held_yes 18 (some 43) (.agg #[.int .i64 x, .int .i64 y, .int .i64 z]) rfl rfl (by kernel_rfl) (by kernel_rfl) (by kernel_rfl) (fun _ _ _ h => h) rfl (fun w' hS => by obtain ⟨t0, t1, t2, t3, t4⟩ := hS; go_simp) hHeld ?_
  try simp only [Act.put, List.setIfInBounds_toArray, List.set_cons_zero, List.set_cons_succ]
  refine wpAnyH_ready (rs := [19]) (by kernel_rfl) (by simp) ?_
  refine AllReadyH.cons rfl (fun K hK => ?_) AllReadyH.nil
  go_simp
  replace hX := hX.alloc hX.size (.cells #[.int .i64 x, .int .i64 y, .int .i64 z] 25)
  refine hK.out _ _ (kk _ hX) (fun hHeld => ?_)
  clear hK K
  try simp only [Act.put, List.setIfInBounds_toArray, List.set_cons_zero, List.set_cons_succ]
  refine wpAnyH_ready (rs := [20]) (by kernel_rfl) (by simp) ?_
  refine AllReadyH.cons rfl (fun K hK => ?_) AllReadyH.nil
  go_simp
  refine (kN1 _ _ (one_sl _ x y z)).mono ?_
  rintro e v20 ⟨rfl, hB⟩
  replace hX := hX.trans (hB.mono hX.size)
  go_wp2_with fail
  refine hK.out _ _ (kk _ hX) (fun hHeld => ?_)
  clear hK K
  clear hB
  try simp only [Act.put, List.setIfInBounds_toArray, List.set_cons_zero, List.set_cons_succ]
  refine wpAnyH_ready (rs := [21]) (by kernel_rfl) (by simp) ?_
  refine AllReadyH.cons rfl (fun K hK => ?_) AllReadyH.nil
  go_simp
  refine hK.out _ _ hHeld (fun _ => ?_)
  clear hK K
  try simp only [Act.put, List.setIfInBounds_toArray, List.set_cons_zero, List.set_cons_succ]
  refine wpAnyH_ready (rs := [22]) (by kernel_rfl) (by simp) ?_
  refine AllReadyH.cons rfl (fun K hK => ?_) AllReadyH.nil
  go_simp
  refine hK.out _ _ hHeld (fun _ => ?_)
  clear hK K
  try simp only [Act.put, List.setIfInBounds_toArray, List.set_cons_zero, List.set_cons_succ]
  refine wpAnyH_ready (rs := [23]) (by kernel_rfl) (by simp) ?_
  refine AllReadyH.cons rfl (fun K hK => ?_) AllReadyH.nil
  go_simp
  refine hK.out _ _ hHeld (fun _ => ?_)
  clear hK K
  try simp only [Act.put, List.setIfInBounds_toArray, List.set_cons_zero, List.set_cons_succ]
  refine held_yes 24 (some 49) (.pointer (some ⟨w.heap.size, 0, none⟩)) rfl rfl (by kernel_rfl) (by kernel_rfl) (by kernel_rfl) (fun _ _ _ h => h) rfl (fun w' hS => by obtain ⟨t0, t1, t2, t3, t4⟩ := hS; go_simp) hHeld ?_
  try simp only [Act.put, List.setIfInBounds_toArray, List.set_cons_zero, List.set_cons_succ]
  refine held_yes 25 (some 50) (.int .i64 s0) rfl rfl (by kernel_rfl) (by kernel_rfl) (by kernel_rfl) (fun _ _ _ h => h) rfl (fun w' hS => by obtain ⟨t0, t1, t2, t3, t4⟩ := hS; go_simp) hHeld ?_
  try simp only [Act.put, List.setIfInBounds_toArray, List.set_cons_zero, List.set_cons_succ]
  refine held_yes 27 (some 52) (.pointer (some ⟨w.heap.size, 1, none⟩)) rfl rfl (by kernel_rfl) (by kernel_rfl) (by kernel_rfl) (fun _ _ _ h => h) rfl (fun w' hS => by obtain ⟨t0, t1, t2, t3, t4⟩ := hS; go_simp) hHeld ?_
  try simp only [Act.put, List.setIfInBounds_toArray, List.set_cons_zero, List.set_cons_succ]
  refine held_yes 28 (some 53) (.int .i64 s1) rfl rfl (by kernel_rfl) (by kernel_rfl) (by kernel_rfl) (fun _ _ _ h => h) rfl (fun w' hS => by obtain ⟨t0, t1, t2, t3, t4⟩ := hS; go_simp) hHeld ?_
  try simp only [Act.put, List.setIfInBounds_toArray, List.set_cons_zero, List.set_cons_succ]
  refine wpAnyH_ready (rs := [26]) (by kernel_rfl) (by simp) ?_
  refine AllReadyH.cons rfl (fun K hK => ?_) AllReadyH.nil
  go_simp
  refine (kR0 _).mono ?_
  rintro e v26 ⟨rfl, hB⟩
  subst hB
  go_wp2_with fail
  refine hK.out _ _ (kk _ hX) (fun hHeld => ?_)
  clear hK K
  try simp only [Act.put, List.setIfInBounds_toArray, List.set_cons_zero, List.set_cons_succ]
  refine wpAnyH_ready (rs := [29]) (by kernel_rfl) (by simp) ?_
  refine AllReadyH.cons rfl (fun K hK => ?_) AllReadyH.nil
  go_simp
  refine (kR1 _).mono ?_
  rintro e v29 ⟨rfl, hB⟩
  subst hB
  go_wp2_with fail
  refine hK.out _ _ (kk _ hX) (fun hHeld => ?_)
  clear hK K
  try simp only [Act.put, List.setIfInBounds_toArray, List.set_cons_zero, List.set_cons_succ]
  refine wpAnyH_ready (rs := [30]) (by kernel_rfl) (by simp) ?_
  refine AllReadyH.cons rfl (fun K hK => ?_) AllReadyH.nil
  go_simp
  refine hK.out _ _ hHeld (fun _ => ?_)
  clear hK K
  try simp only [Act.put, List.setIfInBounds_toArray, List.set_cons_zero, List.set_cons_succ]
  refine wpAnyH_ready (rs := [31]) (by kernel_rfl) (by simp) ?_
  refine AllReadyH.cons rfl (fun K hK => ?_) AllReadyH.nil
  go_simp
  refine hK.out _ _ hHeld (fun _ => ?_)
  clear hK K
  try simp only [Act.put, List.setIfInBounds_toArray, List.set_cons_zero, List.set_cons_succ]
  refine wpAnyH_ready (rs := [32]) (by kernel_rfl) (by simp) ?_
  refine AllReadyH.cons rfl (fun K hK => ?_) AllReadyH.nil
  go_simp
  refine hK.out _ _ hHeld (fun _ => ?_)
  clear hK K
  try simp only [Act.put, List.setIfInBounds_toArray, List.set_cons_zero, List.set_cons_succ]
  refine wpAnyH_done (by kernel_rfl) ?_ _
  obtain ⟨d0, d1, d2, d3, d4⟩ := kk _ hX
  have q := kG _ hX
  go_wp2_with fail
  refine q.mono ?_
  rintro e v41 ⟨a, ua, ma, ca, A1, k1, rfl, hSa, hB⟩
  replace hX := hX.trans (hB.mono hX.size)
  clear hB q d0 d1 d2 d3 d4
  obtain ⟨d0, d1, d2, d3, d4⟩ := kk _ hX
  have q := grow_fine (n := s1) hSa ca (by omega) (fun i hi S h1 h2 => grow_small4 l12 (i := s0 + i) (by omega) h1 fun c hc => by rw [← grow_add, ← grow_congr ma]; exact h2 c hc) (fun c hc => near_in n200 (n := s0 + s1) (by omega) c (by rw [← grow_add, ← grow_congr ma]; exact hc))
  go_wp2_with fail
  refine q.mono ?_
  rintro e v42 ⟨b, ub, mb, cb, A2, k2, rfl, hSb, hB⟩
  replace hX := hX.trans (hB.mono hX.size)
  replace hSa := hSa.below hB
  clear hB q d0 d1 d2 d3 d4
  obtain ⟨d0, d1, d2, d3, d4⟩ := kk _ hX
  have q := kG2 _ hX
  go_wp2_with fail
  refine q.mono ?_
  rintro e v43 ⟨g, ug, mg, cg, A3, k3, rfl, hSg, hB⟩
  replace hX := hX.trans (hB.mono hX.size)
  replace hSa := hSa.below hB
  replace hSb := hSb.below hB
  clear hB q d0 d1 d2 d3 d4
  obtain ⟨d0, d1, d2, d3, d4⟩ := kk _ hX
  have hBa := below_alloc v43 (.cells #[.int .i64 x, .int .i64 y, .int .i64 z] 25)
  have q := kD _ hX
  replace hX := hX.trans (hBa.mono hX.size)
  replace hSa := hSa.below hBa
  replace hSb := hSb.below hBa
  replace hSg := hSg.below hBa
  go_wp2_with fail
  refine q.mono ?_
  rintro e v44 ⟨far, rfl, hfar, hB⟩
  replace hX := hX.trans (hB.mono hX.size)
  replace hSa := hSa.below hB
  replace hSb := hSb.below hB
  replace hSg := hSg.below hB
  clear hB hBa q d0 d1 d2 d3 d4
  obtain ⟨d0, d1, d2, d3, d4⟩ := kk _ hX
  have q := shrink_fine (n := s0) hSa ca (by omega)
  go_wp2_with fail
  refine q.mono ?_
  rintro e v45 ⟨A5, k5, rfl, hSk, hB⟩
  replace hX := hX.trans (hB.mono hX.size)
  replace hSa := hSa.below hB
  replace hSb := hSb.below hB
  replace hSg := hSg.below hB
  clear hB q d0 d1 d2 d3 d4
  obtain ⟨d0, d1, d2, d3, d4⟩ := kk _ hX
  have q := kS1 _ hX
  go_wp2_with fail
  refine q.mono ?_
  rintro e v46 ⟨A6, k6, rfl, hSs, hB⟩
  replace hX := hX.trans (hB.mono hX.size)
  replace hSa := hSa.below hB
  replace hSb := hSb.below hB
  replace hSg := hSg.below hB
  replace hSk := hSk.below hB
  clear hB q d0 d1 d2 d3 d4
  obtain ⟨d0, d1, d2, d3, d4⟩ := kk _ hX
  have q := grow_fine (n := s0) hSs (chk_sub (shr_sub s0 l) cl) (by omega) (fun i hi S h1 h2 => grow_small4 (Nat.le_trans (shr_sub s0 l).length_le l12) (by omega) h1 h2) (near_in (fun c hc => n200 c ((shr_sub s0 l).subset hc)) (by omega))
  go_wp2_with fail
  refine q.mono ?_
  rintro e v47 ⟨r, ur, mr, cr, A7, k7, rfl, hSr, hB⟩
  replace hX := hX.trans (hB.mono hX.size)
  replace hSa := hSa.below hB
  replace hSb := hSb.below hB
  replace hSg := hSg.below hB
  replace hSk := hSk.below hB
  replace hSs := hSs.below hB
  clear hB q d0 d1 d2 d3 d4
  obtain ⟨d0, d1, d2, d3, d4⟩ := kk _ hX
  have q := kSh _ hX
  go_wp2_with fail
  refine q.mono ?_
  rintro e v48 ⟨A8, k8, rfl, hSh, hB⟩
  replace hX := hX.trans (hB.mono hX.size)
  replace hSa := hSa.below hB
  replace hSb := hSb.below hB
  replace hSg := hSg.below hB
  replace hSk := hSk.below hB
  replace hSs := hSs.below hB
  replace hSr := hSr.below hB
  clear hB q d0 d1 d2 d3 d4
  obtain ⟨d0, d1, d2, d3, d4⟩ := kk _ hX
  have q := kI _ hX
  go_wp2_with fail
  refine q.mono ?_
  rintro e v49 ⟨A9, k9, rfl, hSi, hB⟩
  replace hX := hX.trans (hB.mono hX.size)
  replace hSa := hSa.below hB
  replace hSb := hSb.below hB
  replace hSg := hSg.below hB
  replace hSk := hSk.below hB
  replace hSs := hSs.below hB
  replace hSr := hSr.below hB
  replace hSh := hSh.below hB
  clear hB q d0 d1 d2 d3 d4
  have hw0 := wrapS (n := (0 : Int)) (by omega)
  obtain rfl : b = g := near_twice ma mb mg ub ug
  have kCa := fun W (h : Sl W (.slice A1 a.length k1) a) => refCheckG a _ W h (by have := (chkI_zero.1 ca).1; unfold maxLen; omega)
  rw [ca] at kCa
  have kSa : ∀ W, Sl W (.slice A2 b.length k2) b → Sl W (.slice A3 b.length k3) b → Calls Tryz.prog 13 #[.slice A2 b.length k2, .slice A3 b.length k3] W fun e w' => e = .returned (.bool true) ∧ Below W.heap.size W w' := fun W h1 h2 => (sameSl b b _ _ W h1 h2 (chkI_zero.1 cb).1).mono fun e w' ⟨h, q, hq⟩ => ⟨by rw [h, decide_eq_true rfl], by subst hq; exact ⟨rfl, rfl, rfl, Nat.le_refl _, fun _ _ => rfl⟩⟩
  have kHa := fun W (h : Sl W (.slice A1 a.length k1) a) => has_ok a _ x y z W h (by have := (chkI_zero.1 ca).1; omega)
  rw [near_has ma hfar] at kHa
  have hbq : (decide (far ≤ (s0 : Int)) != decide (far ≤ (s0 : Int))) = false := by cases decide (far ≤ (s0 : Int)) <;> rfl
  go_wp2_with fail
  have hD := (Below.refl v49.heap.size v49).drew
  have hZ := kk _ hX
  replace hX := hX.trans (hD.mono hX.size)
  replace hSa := hSa.below hD
  replace hSb := hSb.below hD
  replace hSg := hSg.below hD
  replace hSk := hSk.below hD
  replace hSs := hSs.below hD
  replace hSr := hSr.below hD
  replace hSh := hSh.below hD
  replace hSi := hSi.below hD
  refine wp_region_held_drew (S := fun w' => w'.cell? ⟨w.heap.size, 0, none⟩ = some (.int .i64 s0) ∧ w'.cell? ⟨w.heap.size, 1, none⟩ = some (.int .i64 s1) ∧ w'.cell? ⟨w.heap.size + 1, 0, none⟩ = some (.int .i64 x) ∧ w'.cell? ⟨w.heap.size + 1, 1, none⟩ = some (.int .i64 y) ∧ w'.cell? ⟨w.heap.size + 1, 2, none⟩ = some (.int .i64 z)) (by kernel_rfl) hZ (fun hHeld => ?_)
  refine held_yes 0 (some 121) (.int .i64 0) rfl rfl (by kernel_rfl) (by kernel_rfl) (by kernel_rfl) (fun _ _ _ h => h) rfl (fun w' hS => by obtain ⟨t0, t1, t2, t3, t4⟩ := hS; go_simp) hHeld ?_
  try simp only [Act.put, List.setIfInBounds_toArray, List.set_cons_zero, List.set_cons_succ]
  refine held_yes 1 (some 122) (.int .i64 0) rfl rfl (by kernel_rfl) (by kernel_rfl) (by kernel_rfl) (fun _ _ _ h => h) rfl (fun w' hS => by obtain ⟨t0, t1, t2, t3, t4⟩ := hS; go_simp) hHeld ?_
  try simp only [Act.put, List.setIfInBounds_toArray, List.set_cons_zero, List.set_cons_succ]
  refine held_yes 2 (some 123) (.int .i64 0) rfl rfl (by kernel_rfl) (by kernel_rfl) (by kernel_rfl) (fun _ _ _ h => h) rfl (fun w' hS => by obtain ⟨t0, t1, t2, t3, t4⟩ := hS; go_simp) hHeld ?_
  try simp only [Act.put, List.setIfInBounds_toArray, List.set_cons_zero, List.set_cons_succ]
  refine held_yes 3 (some 124) (.int .i64 0) rfl rfl (by kernel_rfl) (by kernel_rfl) (by kernel_rfl) (fun _ _ _ h => h) rfl (fun w' hS => by obtain ⟨t0, t1, t2, t3, t4⟩ := hS; go_simp) hHeld ?_
  try simp only [Act.put, List.setIfInBounds_toArray, List.set_cons_zero, List.set_cons_succ]
  refine held_yes 4 (some 125) (.int .i64 0) rfl rfl (by kernel_rfl) (by kernel_rfl) (by kernel_rfl) (fun _ _ _ h => h) rfl (fun w' hS => by obtain ⟨t0, t1, t2, t3, t4⟩ := hS; go_simp) hHeld ?_
  try simp only [Act.put, List.setIfInBounds_toArray, List.set_cons_zero, List.set_cons_succ]
  refine held_yes 5 (some 126) (.int .i64 0) rfl rfl (by kernel_rfl) (by kernel_rfl) (by kernel_rfl) (fun _ _ _ h => h) rfl (fun w' hS => by obtain ⟨t0, t1, t2, t3, t4⟩ := hS; go_simp) hHeld ?_
  try simp only [Act.put, List.setIfInBounds_toArray, List.set_cons_zero, List.set_cons_succ]
  refine held_yes 6 (some 127) (.int .i64 0) rfl rfl (by kernel_rfl) (by kernel_rfl) (by kernel_rfl) (fun _ _ _ h => h) rfl (fun w' hS => by obtain ⟨t0, t1, t2, t3, t4⟩ := hS; go_simp) hHeld ?_
  try simp only [Act.put, List.setIfInBounds_toArray, List.set_cons_zero, List.set_cons_succ]
  refine held_yes 7 (some 128) (.int .i64 0) rfl rfl (by kernel_rfl) (by kernel_rfl) (by kernel_rfl) (fun _ _ _ h => h) rfl (fun w' hS => by obtain ⟨t0, t1, t2, t3, t4⟩ := hS; go_simp) hHeld ?_
  try simp only [Act.put, List.setIfInBounds_toArray, List.set_cons_zero, List.set_cons_succ]
  refine held_yes 8 (some 129) (.int .i64 0) rfl rfl (by kernel_rfl) (by kernel_rfl) (by kernel_rfl) (fun _ _ _ h => h) rfl (fun w' hS => by obtain ⟨t0, t1, t2, t3, t4⟩ := hS; go_simp) hHeld ?_
  try simp only [Act.put, List.setIfInBounds_toArray, List.set_cons_zero, List.set_cons_succ]
  refine held_yes 9 (some 130) (.int .i64 0) rfl rfl (by kernel_rfl) (by kernel_rfl) (by kernel_rfl) (fun _ _ _ h => h) rfl (fun w' hS => by obtain ⟨t0, t1, t2, t3, t4⟩ := hS; go_simp) hHeld ?_
  try simp only [Act.put, List.setIfInBounds_toArray, List.set_cons_zero, List.set_cons_succ]
  refine held_yes 10 (some 131) (.int .i64 0) rfl rfl (by kernel_rfl) (by kernel_rfl) (by kernel_rfl) (fun _ _ _ h => h) rfl (fun w' hS => by obtain ⟨t0, t1, t2, t3, t4⟩ := hS; go_simp) hHeld ?_
  try simp only [Act.put, List.setIfInBounds_toArray, List.set_cons_zero, List.set_cons_succ]
  refine held_yes 11 (some 132) (.int .i64 0) rfl rfl (by kernel_rfl) (by kernel_rfl) (by kernel_rfl) (fun _ _ _ h => h) rfl (fun w' hS => by obtain ⟨t0, t1, t2, t3, t4⟩ := hS; go_simp) hHeld ?_
  try simp only [Act.put, List.setIfInBounds_toArray, List.set_cons_zero, List.set_cons_succ]
  refine held_yes 12 (some 133) (.int .i64 0) rfl rfl (by kernel_rfl) (by kernel_rfl) (by kernel_rfl) (fun _ _ _ h => h) rfl (fun w' hS => by obtain ⟨t0, t1, t2, t3, t4⟩ := hS; go_simp) hHeld ?_
  try simp only [Act.put, List.setIfInBounds_toArray, List.set_cons_zero, List.set_cons_succ]
  refine held_yes 13 (some 134) (.int .i64 0) rfl rfl (by kernel_rfl) (by kernel_rfl) (by kernel_rfl) (fun _ _ _ h => h) rfl (fun w' hS => by obtain ⟨t0, t1, t2, t3, t4⟩ := hS; go_simp) hHeld ?_
  try simp only [Act.put, List.setIfInBounds_toArray, List.set_cons_zero, List.set_cons_succ]
  refine held_yes 14 (some 135) (.int .i64 0) rfl rfl (by kernel_rfl) (by kernel_rfl) (by kernel_rfl) (fun _ _ _ h => h) rfl (fun w' hS => by obtain ⟨t0, t1, t2, t3, t4⟩ := hS; go_simp) hHeld ?_
  try simp only [Act.put, List.setIfInBounds_toArray, List.set_cons_zero, List.set_cons_succ]
  refine held_yes 15 (some 136) (.int .i64 0) rfl rfl (by kernel_rfl) (by kernel_rfl) (by kernel_rfl) (fun _ _ _ h => h) rfl (fun w' hS => by obtain ⟨t0, t1, t2, t3, t4⟩ := hS; go_simp) hHeld ?_
  try simp only [Act.put, List.setIfInBounds_toArray, List.set_cons_zero, List.set_cons_succ]
  refine held_yes 16 (some 137) (.int .i64 0) rfl rfl (by kernel_rfl) (by kernel_rfl) (by kernel_rfl) (fun _ _ _ h => h) rfl (fun w' hS => by obtain ⟨t0, t1, t2, t3, t4⟩ := hS; go_simp) hHeld ?_
  try simp only [Act.put, List.setIfInBounds_toArray, List.set_cons_zero, List.set_cons_succ]
  refine held_yes 17 (some 138) (.bool false) rfl rfl (by kernel_rfl) (by kernel_rfl) (by kernel_rfl) (fun _ _ _ h => h) rfl (fun w' hS => by obtain ⟨t0, t1, t2, t3, t4⟩ := hS; go_simp) hHeld ?_
  try simp only [Act.put, List.setIfInBounds_toArray, List.set_cons_zero, List.set_cons_succ]
  refine held_yes 18 (some 139) (.bool false) rfl rfl (by kernel_rfl) (by kernel_rfl) (by kernel_rfl) (fun _ _ _ h => h) rfl (fun w' hS => by obtain ⟨t0, t1, t2, t3, t4⟩ := hS; go_simp) hHeld ?_
  try simp only [Act.put, List.setIfInBounds_toArray, List.set_cons_zero, List.set_cons_succ]
  refine wpAnyH_ready (rs := [19]) (by kernel_rfl) (by simp) ?_
  refine AllReadyH.cons rfl (fun K hK => ?_) AllReadyH.nil
  go_simp
  refine hK.out _ _ hHeld (fun _ => ?_)
  clear hK K
  try simp only [Act.put, List.setIfInBounds_toArray, List.set_cons_zero, List.set_cons_succ]
  have q := kCa _ hSa
  refine wpAnyH_ready (rs := [20]) (by kernel_rfl) (by simp) ?_
  refine AllReadyH.cons rfl (fun K hK => ?_) AllReadyH.nil
  go_simp
  refine q.mono ?_
  rintro e u20 ⟨rfl, hB⟩
  replace hX := hX.trans (hB.mono hX.size)
  replace hSa := hSa.below hB
  replace hSb := hSb.below hB
  replace hSg := hSg.below hB
  replace hSk := hSk.below hB
  replace hSs := hSs.below hB
  replace hSr := hSr.below hB
  replace hSh := hSh.below hB
  replace hSi := hSi.below hB
  go_wp2_with fail
  refine hK.out _ _ (kk _ hX) (fun hHeld => ?_)
  clear hK K hB q
  try simp only [Act.put, List.setIfInBounds_toArray, List.set_cons_zero, List.set_cons_succ]
  refine wpAnyH_ready (rs := [21]) (by kernel_rfl) (by simp) ?_
  refine AllReadyH.cons rfl (fun K hK => ?_) AllReadyH.nil
  go_simp
  refine hK.out _ _ hHeld (fun _ => ?_)
  clear hK K
  try simp only [Act.put, List.setIfInBounds_toArray, List.set_cons_zero, List.set_cons_succ]
  refine wpAnyH_ready (rs := [22]) (by kernel_rfl) (by simp) ?_
  refine AllReadyH.cons rfl (fun K hK => ?_) AllReadyH.nil
  go_simp
  refine hK.out _ _ hHeld (fun _ => ?_)
  clear hK K
  try simp only [Act.put, List.setIfInBounds_toArray, List.set_cons_zero, List.set_cons_succ]
  refine wpAnyH_ready (rs := [23]) (by kernel_rfl) (by simp) ?_
  refine AllReadyH.cons rfl (fun K hK => ?_) AllReadyH.nil
  go_simp
  refine hK.out _ _ hHeld (fun _ => ?_)
  clear hK K
  try simp only [Act.put, List.setIfInBounds_toArray, List.set_cons_zero, List.set_cons_succ]
  refine held_yes 24 (some 145) (.slice A2 b.length k2) rfl rfl (by kernel_rfl) (by kernel_rfl) (by kernel_rfl) (fun _ _ _ h => h) rfl (fun w' hS => by obtain ⟨t0, t1, t2, t3, t4⟩ := hS; go_simp) hHeld ?_
  try simp only [Act.put, List.setIfInBounds_toArray, List.set_cons_zero, List.set_cons_succ]
  refine held_yes 25 (some 146) (.slice A3 b.length k3) rfl rfl (by kernel_rfl) (by kernel_rfl) (by kernel_rfl) (fun _ _ _ h => h) rfl (fun w' hS => by obtain ⟨t0, t1, t2, t3, t4⟩ := hS; go_simp) hHeld ?_
  try simp only [Act.put, List.setIfInBounds_toArray, List.set_cons_zero, List.set_cons_succ]
  have q := kSa _ hSb hSg
  refine wpAnyH_ready (rs := [26]) (by kernel_rfl) (by simp) ?_
  refine AllReadyH.cons rfl (fun K hK => ?_) AllReadyH.nil
  go_simp
  refine q.mono ?_
  rintro e u26 ⟨rfl, hB⟩
  replace hX := hX.trans (hB.mono hX.size)
  replace hSa := hSa.below hB
  replace hSb := hSb.below hB
  replace hSg := hSg.below hB
  replace hSk := hSk.below hB
  replace hSs := hSs.below hB
  replace hSr := hSr.below hB
  replace hSh := hSh.below hB
  replace hSi := hSi.below hB
  go_wp2_with fail
  refine hK.out _ _ (kk _ hX) (fun hHeld => ?_)
  clear hK K hB q
  try simp only [Act.put, List.setIfInBounds_toArray, List.set_cons_zero, List.set_cons_succ]
  refine wpAnyH_ready (rs := [27]) (by kernel_rfl) (by simp) ?_
  refine AllReadyH.cons rfl (fun K hK => ?_) AllReadyH.nil
  go_simp
  refine hK.out _ _ hHeld (fun _ => ?_)
  clear hK K
  try simp only [Act.put, List.setIfInBounds_toArray, List.set_cons_zero, List.set_cons_succ]
  refine wpAnyH_ready (rs := [28]) (by kernel_rfl) (by simp) ?_
  refine AllReadyH.cons rfl (fun K hK => ?_) AllReadyH.nil
  go_simp
  refine hK.out _ _ hHeld (fun _ => ?_)
  clear hK K
  try simp only [Act.put, List.setIfInBounds_toArray, List.set_cons_zero, List.set_cons_succ]
  refine wpAnyH_ready (rs := [29]) (by kernel_rfl) (by simp) ?_
  refine AllReadyH.cons rfl (fun K hK => ?_) AllReadyH.nil
  go_simp
  refine hK.out _ _ hHeld (fun _ => ?_)
  clear hK K
  try simp only [Act.put, List.setIfInBounds_toArray, List.set_cons_zero, List.set_cons_succ]
  refine held_yes 30 (some 151) (.slice A1 a.length k1) rfl rfl (by kernel_rfl) (by kernel_rfl) (by kernel_rfl) (fun _ _ _ h => h) rfl (fun w' hS => by obtain ⟨t0, t1, t2, t3, t4⟩ := hS; go_simp) hHeld ?_
  try simp only [Act.put, List.setIfInBounds_toArray, List.set_cons_zero, List.set_cons_succ]
  refine held_yes 31 (some 152) (.agg #[.int .i64 x, .int .i64 y, .int .i64 z]) rfl rfl (by kernel_rfl) (by kernel_rfl) (by kernel_rfl) (fun _ _ _ h => h) rfl (fun w' hS => by obtain ⟨t0, t1, t2, t3, t4⟩ := hS; go_simp) hHeld ?_
  try simp only [Act.put, List.setIfInBounds_toArray, List.set_cons_zero, List.set_cons_succ]
  refine held_yes 33 (some 154) (.int .i64 far) rfl rfl (by kernel_rfl) (by kernel_rfl) (by kernel_rfl) (fun _ _ _ h => h) rfl (fun w' hS => by obtain ⟨t0, t1, t2, t3, t4⟩ := hS; go_simp) hHeld ?_
  try simp only [Act.put, List.setIfInBounds_toArray, List.set_cons_zero, List.set_cons_succ]
  refine held_yes 34 (some 155) (.pointer (some ⟨w.heap.size, 0, none⟩)) rfl rfl (by kernel_rfl) (by kernel_rfl) (by kernel_rfl) (fun _ _ _ h => h) rfl (fun w' hS => by obtain ⟨t0, t1, t2, t3, t4⟩ := hS; go_simp) hHeld ?_
  try simp only [Act.put, List.setIfInBounds_toArray, List.set_cons_zero, List.set_cons_succ]
  refine held_yes 35 (some 156) (.int .i64 s0) rfl rfl (by kernel_rfl) (by kernel_rfl) (by kernel_rfl) (fun _ _ _ h => h) rfl (fun w' hS => by obtain ⟨t0, t1, t2, t3, t4⟩ := hS; go_simp) hHeld ?_
  try simp only [Act.put, List.setIfInBounds_toArray, List.set_cons_zero, List.set_cons_succ]
  refine held_yes 36 (some 157) (.bool (decide (far ≤ (s0 : Int)))) rfl rfl (by kernel_rfl) (by kernel_rfl) (by kernel_rfl) (fun _ _ _ h => h) rfl (fun w' hS => by obtain ⟨t0, t1, t2, t3, t4⟩ := hS; go_simp) hHeld ?_
  try simp only [Act.put, List.setIfInBounds_toArray, List.set_cons_zero, List.set_cons_succ]
  have q := kHa _ hSa
  refine wpAnyH_ready (rs := [32]) (by kernel_rfl) (by simp) ?_
  refine AllReadyH.cons rfl (fun K hK => ?_) AllReadyH.nil
  go_simp
  refine q.mono ?_
  rintro e u32 ⟨rfl, hB⟩
  replace hX := hX.trans (hB.mono hX.size)
  replace hSa := hSa.below hB
  replace hSb := hSb.below hB
  replace hSg := hSg.below hB
  replace hSk := hSk.below hB
  replace hSs := hSs.below hB
  replace hSr := hSr.below hB
  replace hSh := hSh.below hB
  replace hSi := hSi.below hB
  go_wp2_with fail
  refine hK.out _ _ (kk _ hX) (fun hHeld => ?_)
  clear hK K hB q
  try simp only [Act.put, List.setIfInBounds_toArray, List.set_cons_zero, List.set_cons_succ]
  refine wpAnyH_ready (rs := [37]) (by kernel_rfl) (by simp) ?_
  refine AllReadyH.cons rfl (fun K hK => ?_) AllReadyH.nil
  go_simp
  refine hK.out _ _ hHeld (fun _ => ?_)
  clear hK K
  try simp only [Act.put, List.setIfInBounds_toArray, List.set_cons_zero, List.set_cons_succ]
  refine wpAnyH_ready (rs := [38]) (by kernel_rfl) (by simp) ?_
  refine AllReadyH.cons rfl (fun K hK => ?_) AllReadyH.nil
  go_simp
  refine hK.out _ _ hHeld (fun _ => ?_)
  clear hK K
  try simp only [Act.put, List.setIfInBounds_toArray, List.set_cons_zero, List.set_cons_succ]
  refine wpAnyH_done (by kernel_rfl) ?_ _
  go_wp2_with fail
  have ul : Up l := (chkI_zero.1 cl).2.2
  have l1 : (shrN s0 a).length ≤ 400000 := by have := (shr_sub s0 a).length_le; have := (chkI_zero.1 ca).1; omega
  have l2 : r.length ≤ 400000 := by have := (chkI_zero.1 cr).1; omega
  have l3 : (shrN 1 l).length ≤ 400000 := by have := (shr_sub 1 l).length_le; omega
  have l4 : (l.filter fun c => !insB l c).length ≤ 400000 := by have := List.length_filter_le (fun c => !insB l c) l; omega
  have l5 : l.length ≤ 400000 := by omega
  have q := less_none (ha.below (hX0 _ hX)) hSk l5 l1 (near_back ma)
  refine q.mono ?_
  rintro e w50 ⟨A10, k10, rfl, hB⟩
  replace hX := hX.trans (hB.mono hX.size)
  replace hSa := hSa.below hB
  replace hSb := hSb.below hB
  replace hSg := hSg.below hB
  replace hSk := hSk.below hB
  replace hSs := hSs.below hB
  replace hSr := hSr.below hB
  replace hSh := hSh.below hB
  replace hSi := hSi.below hB
  clear hB q
  have q := less_none hSr (ha.below (hX0 _ hX)) l2 l5 (near_again mr)
  go_wp2_with fail
  refine q.mono ?_
  rintro e w51 ⟨A11, k11, rfl, hB⟩
  replace hX := hX.trans (hB.mono hX.size)
  replace hSa := hSa.below hB
  replace hSb := hSb.below hB
  replace hSg := hSg.below hB
  replace hSk := hSk.below hB
  replace hSs := hSs.below hB
  replace hSr := hSr.below hB
  replace hSh := hSh.below hB
  replace hSi := hSi.below hB
  clear hB q
  have q := refUnion_ok _ _ _ _ _ hSh hSi l4 l3
  go_wp2_with fail
  refine q.mono ?_
  rintro e w52 ⟨v12, out, rfl, ho, huo, hmo, hB⟩
  replace hX := hX.trans (hB.mono hX.size)
  replace hSa := hSa.below hB
  replace hSb := hSb.below hB
  replace hSg := hSg.below hB
  replace hSk := hSk.below hB
  replace hSs := hSs.below hB
  replace hSr := hSr.below hB
  replace hSh := hSh.below hB
  replace hSi := hSi.below hB
  have eo : l = out := (near_both ul huo hmo).symm
  subst eo
  have hSo := ho.sl
  obtain ⟨A12, k12, rfl⟩ := hSo.form
  clear hB q ho huo hmo
  have q := (sameSl l l _ _ _ hSo (ha.below (hX0 _ hX)) (by omega)).mono (R' := fun e w' => e = .returned (.bool true) ∧ Below w52.heap.size w52 w') fun e w' ⟨h, q, hq⟩ => ⟨by rw [h, decide_eq_true rfl], by subst hq; exact ⟨rfl, rfl, rfl, Nat.le_refl _, fun _ _ => rfl⟩⟩
  go_wp2_with fail
  refine q.mono ?_
  rintro e w53 ⟨rfl, hB⟩
  replace hX := hX.trans (hB.mono hX.size)
  replace hSa := hSa.below hB
  replace hSb := hSb.below hB
  replace hSg := hSg.below hB
  replace hSk := hSk.below hB
  replace hSs := hSs.below hB
  replace hSr := hSr.below hB
  replace hSh := hSh.below hB
  replace hSi := hSi.below hB
  replace hSo := hSo.below hB
  clear hB q
  have q := cut_none hSh hSi l4 l3 near_cut
  go_wp2_with fail
  refine q.mono ?_
  rintro e w54 ⟨A13, k13, rfl, hB⟩
  replace hX := hX.trans (hB.mono hX.size)
  replace hSa := hSa.below hB
  replace hSb := hSb.below hB
  replace hSg := hSg.below hB
  replace hSk := hSk.below hB
  replace hSs := hSs.below hB
  replace hSr := hSr.below hB
  replace hSh := hSh.below hB
  replace hSi := hSi.below hB
  replace hSo := hSo.below hB
  clear hB q
  go_wp2_with fail
  go_ret
  exact ⟨rfl, hX0 _ hX⟩
end Go.Proofs
end

section
/- GridNear: all ways together. -/
namespace Go.Proofs
open Go.RowKit
theorem gnear_all (l : List Cel) (v : Value) (s0 s1 x y z : Int) (w : World) (ha : St w v l) (kA : AwakeAt w) :
    Calls Tryz.prog 3 #[v, .agg #[.int .i64 s0, .int .i64 s1], .agg #[.int .i64 x, .int .i64 y, .int .i64 z]] w fun e w' => e = .returned (.bool true) ∧ Below w.heap.size w w' := by
  obtain ⟨ha1, A, ka, rfl, hk, hm⟩ := ha
  have hl : l.length ≤ maxLen := by unfold maxLen; omega
  cases e0 : (((l.length : Nat) : Int) == 0) with
  | true => exact gnear_1 l A ka s0 s1 x y z w kA ha1 hl e0
  | false =>
    cases hf : fewB 12 512 l with
    | false => exact gnear_2 l A ka s0 s1 x y z w kA ha1 hl e0 hf
    | true =>
      cases hn : nearB l with
      | false => exact gnear_3 l A ka s0 s1 x y z w kA ha1 hl e0 hf hn
      | true =>
        cases hc : nearB [(x, y, z)] with
        | false => exact gnear_4 l A ka s0 s1 x y z w kA ha1 hl e0 hf hn hc
        | true =>
          by_cases hr : withinI s0 0 2 + withinI s1 0 2 = 0
          · exact gnear_6 l A ka s0 s1 x y z w kA ha1 hl e0 hf hn hc hr
          · exact gnear_5 l A ka s0 s1 x y z w kA ha1 hl e0 hf hn hc hr
end Go.Proofs
end
