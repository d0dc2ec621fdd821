/- grid.Apart: the first error, or the least distance. -/
import Derived.Test.YtpickbchpnbffaaGreatSearch
import Derived.Test.YtpickbchpnbffaaGreatBoundR
import Derived.Test.YtpickbchpnbffaaGreatHas
import Derived.Test.YtpickbchpnbffaaGreatHeldF
import Derived.RangeFuncNested
namespace Go.Proofs
open Go.RowKit
set_option maxHeartbeats 16000000
set_option maxRecDepth 1000000
theorem dist_le {p q : Cel} (hp : Near p 1000) (hq : Near q 1000) : 0 ≤ distI p q ∧ distI p q ≤ 6000 := by
  unfold Near at hp hq
  unfold distI
  omega
theorem bothWays {C G : Nat → World → Prop} {Goal : Prop} (rest : ∀ B W, C B W → G B W) (h : (∀ B W, C B W → G B W) → Goal) : Goal := h rest
theorem up_le {l : List Cel} (h : Up l) {i j : Nat} {p q : Cel} (hp : l[i]? = some p) (hq : l[j]? = some q) (hij : i ≤ j) : p.1 ≤ q.1 := by
  rcases Nat.lt_or_eq_of_le hij with hlt | rfl
  · have := up_get h hp hq hlt
    unfold ltC at this
    simp only [decide_eq_true_eq] at this
    omega
  · rw [hp] at hq
    cases hq
    exact Int.le_refl _
theorem apartG_bad (a b : List Cel) (va vb : Value) (w : World) (ha : Sl w va a) (hb : Sl w vb b) (la : a.length ≤ maxLen) (lb : b.length ≤ maxLen) (r : Int) (hr : orI (chkI a) (chkI b) 0 = r) (h0 : r ≠ 0) :
    Calls Tryz.prog 13 #[va, vb] w fun e w' => e = .returned (.tuple #[.int .i64 0, .int .i64 r]) ∧ Below w.heap.size w w' := by
  unfold maxLen at la lb
  obtain ⟨W0, hW⟩ : ∃ W0, W0 = w.alloc (.cells #[vb] 22) := ⟨_, rfl⟩
  have hK0 : Below w.heap.size w W0 := by subst hW; exact (Below.refl _ _).alloc (Nat.le_refl _) _
  have hP : W0.cell? ⟨w.heap.size, 0, none⟩ = some vb := by subst hW; go_simp
  have hPs : w.heap.size < W0.heap.size := by subst hW; simp
  have h1 := fun W (h : Below W0.heap.size W0 W) => gridCheckG a va W (ha.below (hK0.trans (h.mono hK0.size))) (by unfold maxLen; omega)
  have h2 := fun W (h : Below W0.heap.size W0 W) => gridCheckG b vb W (hb.below (hK0.trans (h.mono hK0.size))) (by unfold maxLen; omega)
  obtain ⟨A, ka, rfl⟩ := ha.form
  obtain ⟨B, kb, rfl⟩ := hb.form
  generalize chkI a = ra at h1 hr
  generalize chkI b = rb at h2 hr
  have hne' : (r != 0) = true := by rw [bne_iff_ne]; exact h0
  have hf2 := fun blk W => first2_ok ra rb blk 2 W
  simp only [hr] at hf2
  have hX : Below W0.heap.size W0 W0.drew := (Below.refl _ _).drew
  have hS0 : W0.drew.cell? ⟨w.heap.size, 0, none⟩ = some (.slice B b.length kb) := hP
  clear ha hb la lb hr h0
  go_enter Tryz.func13, Tryz.ntmps13
  go_wp2
  rw [← hW]
  clear hW
  go_region_held3 (fun w' => w'.cell? ⟨w.heap.size, 0, none⟩ = some (.slice B b.length kb)) (first | exact hS0 | exact hS1 | exact hS2 | exact hS3 | go_keep) (first
    | (go_at_call 33; first
        | (with_reducible refine (h1 _ hX).mono ?_; rintro e w1 ⟨rfl, hB⟩; replace hX := hX.trans (hB.mono hX.size); have hS1 := (hX.cell (p := ⟨w.heap.size, 0, none⟩) hPs).trans hP; clear hB h1)
        | (with_reducible refine (h2 _ hX).mono ?_; rintro e w2 ⟨rfl, hB⟩; replace hX := hX.trans (hB.mono hX.size); have hS2 := (hX.cell (p := ⟨w.heap.size, 0, none⟩) hPs).trans hP; clear hB h2))
    | (go_at_call 32; refine (hf2 _ _ (by go_simp) (by go_simp)).mono ?_; rintro e w3 ⟨rfl, hw3⟩; replace hX : Below _ _ w3 := (by rw [hw3]; exact hX.alloc hX.size _); have hS3 := (hX.cell (p := ⟨w.heap.size, 0, none⟩) hPs).trans hP; clear hw3))
  clear hS0 hS1 hS2 hf2
  go_wp2
  go_ret2
  exact ⟨rfl, hK0.trans (hX.mono hK0.size)⟩
theorem apartG_none1 (a b : List Cel) (va vb : Value) (w : World) (ha : Sl w va a) (hb : Sl w vb b) (ca : chkI a = 0) (cb : chkI b = 0) (he : a.length = 0) :
    Calls Tryz.prog 13 #[va, vb] w fun e w' => e = .returned (.tuple #[.int .i64 0, .int .i64 12]) ∧ Below w.heap.size w w' := by
  have la := (chkI_zero.1 ca).1
  have lb := (chkI_zero.1 cb).1
  obtain ⟨W0, hW⟩ : ∃ W0, W0 = w.alloc (.cells #[vb] 22) := ⟨_, rfl⟩
  have hK0 : Below w.heap.size w W0 := by subst hW; exact (Below.refl _ _).alloc (Nat.le_refl _) _
  have hP : W0.cell? ⟨w.heap.size, 0, none⟩ = some vb := by subst hW; go_simp
  have hPs : w.heap.size < W0.heap.size := by subst hW; simp
  have h1 := fun W (h : Below W0.heap.size W0 W) => gridCheckG a va W (ha.below (hK0.trans (h.mono hK0.size))) (by unfold maxLen; omega)
  have h2 := fun W (h : Below W0.heap.size W0 W) => gridCheckG b vb W (hb.below (hK0.trans (h.mono hK0.size))) (by unfold maxLen; omega)
  obtain ⟨A, ka, rfl⟩ := ha.form
  obtain ⟨B, kb, rfl⟩ := hb.form
  rw [ca] at h1
  rw [cb] at h2
  have hf2 := fun blk W => first2_ok 0 0 blk 2 W
  have hor : orI 0 0 0 = 0 := by decide
  rw [hor] at hf2
  have ea : (((a.length : Nat) : Int) == 0) = true := by rw [beq_iff_eq]; omega
  have hX : Below W0.heap.size W0 W0.drew := (Below.refl _ _).drew
  have hS0 : W0.drew.cell? ⟨w.heap.size, 0, none⟩ = some (.slice B b.length kb) := hP
  clear ha hb ca cb la lb he hor
  go_enter Tryz.func13, Tryz.ntmps13
  go_wp2
  rw [← hW]
  clear hW
  go_region_held3 (fun w' => w'.cell? ⟨w.heap.size, 0, none⟩ = some (.slice B b.length kb)) (first | exact hS0 | exact hS1 | exact hS2 | exact hS3 | go_keep) (first
    | (go_at_call 33; first
        | (with_reducible refine (h1 _ hX).mono ?_; rintro e w1 ⟨rfl, hB⟩; replace hX := hX.trans (hB.mono hX.size); have hS1 := (hX.cell (p := ⟨w.heap.size, 0, none⟩) hPs).trans hP; clear hB h1)
        | (with_reducible refine (h2 _ hX).mono ?_; rintro e w2 ⟨rfl, hB⟩; replace hX := hX.trans (hB.mono hX.size); have hS2 := (hX.cell (p := ⟨w.heap.size, 0, none⟩) hPs).trans hP; clear hB h2))
    | (go_at_call 32; refine (hf2 _ _ (by go_simp) (by go_simp)).mono ?_; rintro e w3 ⟨rfl, hw3⟩; replace hX : Below _ _ w3 := (by rw [hw3]; exact hX.alloc hX.size _); have hS3 := (hX.cell (p := ⟨w.heap.size, 0, none⟩) hPs).trans hP; clear hw3))
  clear hS0 hS1 hS2 hf2
  go_wp2
  go_ret2
  exact ⟨rfl, hK0.trans (hX.mono hK0.size)⟩
theorem apartG_none2 (a b : List Cel) (va vb : Value) (w : World) (ha : Sl w va a) (hb : Sl w vb b) (ca : chkI a = 0) (cb : chkI b = 0) (hea : 0 < a.length) (he : b.length = 0) :
    Calls Tryz.prog 13 #[va, vb] w fun e w' => e = .returned (.tuple #[.int .i64 0, .int .i64 12]) ∧ Below w.heap.size w w' := by
  have la := (chkI_zero.1 ca).1
  have lb := (chkI_zero.1 cb).1
  obtain ⟨W0, hW⟩ : ∃ W0, W0 = w.alloc (.cells #[vb] 22) := ⟨_, rfl⟩
  have hK0 : Below w.heap.size w W0 := by subst hW; exact (Below.refl _ _).alloc (Nat.le_refl _) _
  have hP : W0.cell? ⟨w.heap.size, 0, none⟩ = some vb := by subst hW; go_simp
  have hPs : w.heap.size < W0.heap.size := by subst hW; simp
  have h1 := fun W (h : Below W0.heap.size W0 W) => gridCheckG a va W (ha.below (hK0.trans (h.mono hK0.size))) (by unfold maxLen; omega)
  have h2 := fun W (h : Below W0.heap.size W0 W) => gridCheckG b vb W (hb.below (hK0.trans (h.mono hK0.size))) (by unfold maxLen; omega)
  obtain ⟨A, ka, rfl⟩ := ha.form
  obtain ⟨B, kb, rfl⟩ := hb.form
  rw [ca] at h1
  rw [cb] at h2
  have hf2 := fun blk W => first2_ok 0 0 blk 2 W
  have hor : orI 0 0 0 = 0 := by decide
  rw [hor] at hf2
  have ea : (((a.length : Nat) : Int) == 0) = false := by rw [beq_eq_false_iff_ne]; omega
  have eb : (((b.length : Nat) : Int) == 0) = true := by rw [beq_iff_eq]; omega
  have hX : Below W0.heap.size W0 W0.drew := (Below.refl _ _).drew
  have hS0 : W0.drew.cell? ⟨w.heap.size, 0, none⟩ = some (.slice B b.length kb) := hP
  clear ha hb ca cb la lb he hea hor
  go_enter Tryz.func13, Tryz.ntmps13
  go_wp2
  rw [← hW]
  clear hW
  go_region_held3 (fun w' => w'.cell? ⟨w.heap.size, 0, none⟩ = some (.slice B b.length kb)) (first | exact hS0 | exact hS1 | exact hS2 | exact hS3 | go_keep) (first
    | (go_at_call 33; first
        | (with_reducible refine (h1 _ hX).mono ?_; rintro e w1 ⟨rfl, hB⟩; replace hX := hX.trans (hB.mono hX.size); have hS1 := (hX.cell (p := ⟨w.heap.size, 0, none⟩) hPs).trans hP; clear hB h1)
        | (with_reducible refine (h2 _ hX).mono ?_; rintro e w2 ⟨rfl, hB⟩; replace hX := hX.trans (hB.mono hX.size); have hS2 := (hX.cell (p := ⟨w.heap.size, 0, none⟩) hPs).trans hP; clear hB h2))
    | (go_at_call 32; refine (hf2 _ _ (by go_simp) (by go_simp)).mono ?_; rintro e w3 ⟨rfl, hw3⟩; replace hX : Below _ _ w3 := (by rw [hw3]; exact hX.alloc hX.size _); have hS3 := (hX.cell (p := ⟨w.heap.size, 0, none⟩) hPs).trans hP; clear hw3))
  clear hS0 hS1 hS2 hf2
  go_wp2
  go_ret2
  exact ⟨rfl, hK0.trans (hX.mono hK0.size)⟩
theorem apartG_ok (a b : List Cel) (va vb : Value) (kb0 : Nat) (w : World) (ha : Sl w va a) (hb : Sl w vb b) (ca : chkI a = 0) (cb : chkI b = 0) (h0a : 0 < a.length) (h0b : 0 < b.length) (hkb : b.length ≤ kb0) (hkm : kb0 ≤ 9223372036854775807) (hvb : ∃ B, vb = .slice B b.length kb0) :
    Calls Tryz.prog 13 #[va, vb] w fun e w' => ∃ m, e = .returned (.tuple #[.int .i64 m, .int .i64 0]) ∧ Least a b m ∧ Below w.heap.size w w' := by
  obtain ⟨la, na, ua⟩ := chkI_zero.1 ca
  obtain ⟨lb, nb, ub⟩ := chkI_zero.1 cb
  obtain ⟨W0, hW⟩ : ∃ W0, W0 = w.alloc (.cells #[vb] 22) := ⟨_, rfl⟩
  have hK0 : Below w.heap.size w W0 := by subst hW; exact (Below.refl _ _).alloc (Nat.le_refl _) _
  have hP : W0.cell? ⟨w.heap.size, 0, none⟩ = some vb := by subst hW; go_simp
  have hPs : w.heap.size < W0.heap.size := by subst hW; simp
  have h1 := fun W (h : Below W0.heap.size W0 W) => gridCheckG a va W (ha.below (hK0.trans (h.mono hK0.size))) (by unfold maxLen; omega)
  have h2 := fun W (h : Below W0.heap.size W0 W) => gridCheckG b vb W (hb.below (hK0.trans (h.mono hK0.size))) (by unfold maxLen; omega)
  obtain ⟨A, ka, rfl⟩ := ha.form
  obtain ⟨B, rfl⟩ := hvb
  rw [ca] at h1
  rw [cb] at h2
  obtain ⟨b1, o1, x, y, z, eA, -, hb1, hc1, r0, r1, r2⟩ := ha.cells h0a
  obtain ⟨b2, o2, x', y', z', eB, -, hb2, hc2, q0, q1, q2⟩ := hb.cells h0b
  subst eA eB
  have hd := fun W => distance_ok (x, y, z) (x', y', z') ((na _ (List.mem_of_getElem? hc1)).mono (by omega)) ((nb _ (List.mem_of_getElem? hc2)).mono (by omega)) W
  unfold cellV at hd
  dsimp only at hd
  have hla : (0 : Int) < a.length := by omega
  have hlb : (0 : Int) < b.length := by omega
  rw [Nat.zero_mul, Nat.add_zero] at r0 r1 r2 q0 q1 q2
  have hD : distI (x, y, z) (x', y', z') = distI (x, y, z) (x', y', z') := rfl
  generalize hm0 : distI (x, y, z) (x', y', z') = m0 at hd hD
  have Hm0 := Lib.hid hm0
  clear hm0 hD
  have ea : (((a.length : Nat) : Int) == 0) = false := by rw [beq_eq_false_iff_ne]; omega
  have eb : (((b.length : Nat) : Int) == 0) = false := by rw [beq_eq_false_iff_ne]; omega
  have hf2 := fun blk W => first2_ok 0 0 blk 2 W
  have hor : orI 0 0 0 = 0 := by decide
  rw [hor] at hf2
  have hX : Below W0.heap.size W0 W0.drew := (Below.refl _ _).drew
  have hS0 : W0.drew.cell? ⟨w.heap.size, 0, none⟩ = some (.slice (some ⟨b2, o2, none⟩) b.length kb0) := hP
  clear hor
  go_enter Tryz.func13, Tryz.ntmps13
  go_wp2
  rw [← hW]
  clear hW
  go_region_held3 (fun w' => w'.cell? ⟨w.heap.size, 0, none⟩ = some (.slice (some ⟨b2, o2, none⟩) b.length kb0)) (first | exact hS0 | exact hS1 | exact hS2 | exact hS3 | go_keep) (first
    | (go_at_call 33; first
        | (with_reducible refine (h1 _ hX).mono ?_; rintro e w1 ⟨rfl, hB⟩; replace hX := hX.trans (hB.mono hX.size); have hS1 := (hX.cell (p := ⟨w.heap.size, 0, none⟩) hPs).trans hP; clear hB h1)
        | (with_reducible refine (h2 _ hX).mono ?_; rintro e w2 ⟨rfl, hB⟩; replace hX := hX.trans (hB.mono hX.size); have hS2 := (hX.cell (p := ⟨w.heap.size, 0, none⟩) hPs).trans hP; clear hB h2))
    | (go_at_call 32; refine (hf2 _ _ (by go_simp) (by go_simp)).mono ?_; rintro e w3 ⟨rfl, hw3⟩; replace hX : Below _ _ w3 := (by rw [hw3]; exact hX.alloc hX.size _); have hS3 := (hX.cell (p := ⟨w.heap.size, 0, none⟩) hPs).trans hP; clear hw3))
  clear hS0 hS1 hS2 hf2
  have kS : ∀ W', Below W0.heap.size W0 W' → W'.cell? ⟨b1, o1, none⟩ = some (.int .i64 x) ∧ W'.cell? ⟨b1, o1 + 1, none⟩ = some (.int .i64 y) ∧ W'.cell? ⟨b1, o1 + 2, none⟩ = some (.int .i64 z) ∧ W'.cell? ⟨b2, o2, none⟩ = some (.int .i64 x') ∧ W'.cell? ⟨b2, o2 + 1, none⟩ = some (.int .i64 y') ∧ W'.cell? ⟨b2, o2 + 2, none⟩ = some (.int .i64 z') ∧ W'.cell? ⟨w.heap.size, 0, none⟩ = some (.slice (some ⟨b2, o2, none⟩) b.length kb0) := fun W' h => by
    have h' := hK0.trans (h.mono hK0.size)
    exact ⟨(h'.cell (p := ⟨b1, _, none⟩) hb1).trans r0, (h'.cell (p := ⟨b1, _, none⟩) hb1).trans r1, (h'.cell (p := ⟨b1, _, none⟩) hb1).trans r2, (h'.cell (p := ⟨b2, _, none⟩) hb2).trans q0, (h'.cell (p := ⟨b2, _, none⟩) hb2).trans q1, (h'.cell (p := ⟨b2, _, none⟩) hb2).trans q2, (h.cell (p := ⟨w.heap.size, 0, none⟩) hPs).trans hP⟩
  have hfirst : ∃ p ∈ a, ∃ q ∈ b, distI p q = m0 := ⟨_, List.mem_of_getElem? hc1, _, List.mem_of_getElem? hc2, Hm0.out⟩
  have Hfirst := Lib.hid hfirst
  clear hfirst Hm0 hc1 hc2 r0 r1 r2 q0 q1 q2
  have hX2 := hX.trans ((Below.refl W0.heap.size w3).drew)
  have hS4 := kS _ hX2
  go_wp2
  refine bothWays (C := fun Lb W1 => W0.heap.size ≤ Lb ∧ Below W0.heap.size W0 W1 ∧ Boxed W1 Lb 3 (.int .i64 m0)) (G := ?G) ?rest (fun key => ?_)
  rotate_left 2
  · refine wp_region_held_drew (S := fun w' => w'.cell? ⟨b1, o1, none⟩ = some (.int .i64 x) ∧ w'.cell? ⟨b1, o1 + 1, none⟩ = some (.int .i64 y) ∧ w'.cell? ⟨b1, o1 + 2, none⟩ = some (.int .i64 z) ∧ w'.cell? ⟨b2, o2, none⟩ = some (.int .i64 x') ∧ w'.cell? ⟨b2, o2 + 1, none⟩ = some (.int .i64 y') ∧ w'.cell? ⟨b2, o2 + 2, none⟩ = some (.int .i64 z') ∧ w'.cell? ⟨w.heap.size, 0, none⟩ = some (.slice (some ⟨b2, o2, none⟩) b.length kb0)) (by kernel_rfl) hS4 (fun hHeld => ?_)
    refine held_yes 0 (some 30) (.slice (some ⟨b1, o1, none⟩) a.length ka) rfl rfl (by kernel_rfl) (by kernel_rfl) (by kernel_rfl) (fun _ _ _ h => h) rfl (fun w' hS => by obtain ⟨s0, s1, s2, s3, s4, s5, s6⟩ := hS; go_simp) hHeld ?_
    try simp only [Act.put, List.setIfInBounds_toArray, List.set_cons_zero, List.set_cons_succ]
    refine held_yes 1 (some 31) (.pointer (some ⟨b1, o1, none⟩)) rfl rfl (by kernel_rfl) (by kernel_rfl) (by kernel_rfl) (fun _ _ _ h => h) rfl (fun w' hS => by obtain ⟨s0, s1, s2, s3, s4, s5, s6⟩ := hS; go_simp) hHeld ?_
    try simp only [Act.put, List.setIfInBounds_toArray, List.set_cons_zero, List.set_cons_succ]
    refine held_yes 2 (some 32) (.agg #[.int .i64 x, .int .i64 y, .int .i64 z]) rfl rfl (by kernel_rfl) (by kernel_rfl) (by kernel_rfl) (fun _ _ _ h => h) rfl (fun w' hS => by obtain ⟨s0, s1, s2, s3, s4, s5, s6⟩ := hS; go_simp) hHeld ?_
    try simp only [Act.put, List.setIfInBounds_toArray, List.set_cons_zero, List.set_cons_succ]
    refine held_yes 3 (some 33) (.slice (some ⟨b2, o2, none⟩) b.length kb0) rfl rfl (by kernel_rfl) (by kernel_rfl) (by kernel_rfl) (fun _ _ _ h => h) rfl (fun w' hS => by obtain ⟨s0, s1, s2, s3, s4, s5, s6⟩ := hS; go_simp) hHeld ?_
    try simp only [Act.put, List.setIfInBounds_toArray, List.set_cons_zero, List.set_cons_succ]
    refine held_yes 4 (some 34) (.pointer (some ⟨b2, o2, none⟩)) rfl rfl (by kernel_rfl) (by kernel_rfl) (by kernel_rfl) (fun _ _ _ h => h) rfl (fun w' hS => by obtain ⟨s0, s1, s2, s3, s4, s5, s6⟩ := hS; go_simp) hHeld ?_
    try simp only [Act.put, List.setIfInBounds_toArray, List.set_cons_zero, List.set_cons_succ]
    refine held_yes 5 (some 35) ((.agg #[.int .i64 x', .int .i64 y', .int .i64 z'])) rfl rfl (by kernel_rfl) (by kernel_rfl) (by kernel_rfl) (fun _ _ _ h => h) rfl (fun w' hS => by obtain ⟨s0, s1, s2, s3, s4, s5, s6⟩ := hS; go_simp) hHeld ?_
    try simp only [Act.put, List.setIfInBounds_toArray, List.set_cons_zero, List.set_cons_succ]
    refine wpAnyH_ready (rs := [6, 7]) (by kernel_rfl) (by simp) ?_
    refine AllReadyH.cons rfl (fun K hK => ?_) (AllReadyH.cons rfl (fun K hK => ?_) AllReadyH.nil)
    · go_simp
      refine (hd _).mono ?_
      rintro e w4 ⟨rfl, hB⟩
      replace hX2 := hX2.trans (hB.mono hX2.size)
      refine hK.out _ _ (kS _ hX2) (fun hHeld => ?_)
      clear hK K hB
      try simp only [Act.put, List.setIfInBounds_toArray, List.set_cons_zero, List.set_cons_succ]
      refine wpAnyH_ready (rs := [7]) (by kernel_rfl) (by simp) ?_
      refine AllReadyH.cons rfl (fun K hK => ?_) AllReadyH.nil
      go_simp
      have bx := Boxed.new w4 3 (.int .i64 0)
      have cL := bx.cell
      have fL := bx.frozen
      refine hK.out _ _ (kS _ (hX2.alloc hX2.size _)) (fun hHeld => ?_)
      clear hK K
      try simp only [Act.put, List.setIfInBounds_toArray, List.set_cons_zero, List.set_cons_succ]
      refine wpAnyH_ready (rs := [8]) (by kernel_rfl) (by simp) ?_
      refine AllReadyH.cons rfl (fun K hK => ?_) AllReadyH.nil
      go_simp
      have hC : W0.heap.size ≤ w4.heap.size ∧ Below W0.heap.size W0 (w4.alloc (.cells #[.int .i64 m0] 3)) ∧ Boxed (w4.alloc (.cells #[.int .i64 m0] 3)) w4.heap.size 3 (.int .i64 m0) := ⟨hX2.size, hX2.alloc hX2.size _, Boxed.new w4 _ _⟩
      refine hK.out _ _ (kS _ hC.2.1) (fun hHeld => ?_)
      clear hK K
      try simp only [Act.put, List.setIfInBounds_toArray, List.set_cons_zero, List.set_cons_succ]
      refine wpAnyH_done (by kernel_rfl) ?_ _
      clear hHeld
      generalize (w4.alloc (.cells #[.int .i64 m0] 3)) = W1 at hC ⊢
      generalize w4.heap.size = Lb at hC ⊢
      exact key Lb W1 hC
    · go_simp
      have hX3 : Below W0.heap.size W0 ((w3.alloc (.cells #[.int .i64 0] 3)).drew) := (hX.alloc hX.size _).trans ((Below.refl W0.heap.size _).drew)
      have bx : Boxed ((w3.alloc (.cells #[.int .i64 0] 3)).drew) w3.heap.size 3 (.int .i64 0) := Boxed.new w3 3 (.int .i64 0)
      refine hK.out _ _ (kS _ hX3) (fun hHeld => ?_)
      clear hK K
      try simp only [Act.put, List.setIfInBounds_toArray, List.set_cons_zero, List.set_cons_succ]
      refine wpAnyH_ready (rs := [6]) (by kernel_rfl) (by simp) ?_
      refine AllReadyH.cons rfl (fun K hK => ?_) AllReadyH.nil
      go_simp
      refine (hd _).mono ?_
      rintro e w4 ⟨rfl, hB⟩
      have hX4 := hX3.trans (hB.mono hX3.size)
      have hbx4 : Boxed w4 w3.heap.size 3 (.int .i64 0) := (hB.block _ bx.lt).trans bx
      have cL := hbx4.cell
      have fL := hbx4.frozen
      refine hK.out _ _ (kS _ hX4) (fun hHeld => ?_)
      clear hK K
      try simp only [Act.put, List.setIfInBounds_toArray, List.set_cons_zero, List.set_cons_succ]
      refine wpAnyH_ready (rs := [8]) (by kernel_rfl) (by simp) ?_
      refine AllReadyH.cons rfl (fun K hK => ?_) AllReadyH.nil
      go_simp
      have hC : W0.heap.size ≤ w3.heap.size ∧ Below W0.heap.size W0 (w4.setCell ⟨w3.heap.size, 0, none⟩ (.int .i64 m0)) ∧ Boxed (w4.setCell ⟨w3.heap.size, 0, none⟩ (.int .i64 m0)) w3.heap.size 3 (.int .i64 m0) := ⟨hX.size, hX4.setCell (p := ⟨w3.heap.size, 0, none⟩) hX.size _, hbx4.set _⟩
      refine hK.out _ _ (kS _ hC.2.1) (fun hHeld => ?_)
      clear hK K
      try simp only [Act.put, List.setIfInBounds_toArray, List.set_cons_zero, List.set_cons_succ]
      refine wpAnyH_done (by kernel_rfl) ?_ _
      clear hHeld
      generalize (w4.setCell ⟨w3.heap.size, 0, none⟩ (.int .i64 m0)) = W1 at hC ⊢
      generalize w3.heap.size = Lb at hC ⊢
      exact key Lb W1 hC
  case rest =>
    rintro Lb W1 ⟨hLb, hX1, hbox⟩
    clear hS4 hX2 hX hd kS
    have hmf : ∀ (fn : Fn) (first cap : Array Value) (w : World), (Instr.makeFunc fn first cap).run Tryz.prog w = .ok (.func fn first cap) w := fun _ _ _ _ => rfl
    have hPL : w.heap.size ≠ Lb := by omega
    go_wp2
    go_loopw [39] (fun i wr => ∃ (k : Nat) (m : Int), k ≤ a.length ∧ i = .int .i64 k ∧ Boxed wr Lb 3 (.int .i64 m) ∧ Hid (∃ p ∈ a, ∃ q ∈ b, distI p q = m) ∧ Hid (∀ p ∈ a.take k, ∀ q ∈ b, m ≤ distI p q) ∧ Below W0.heap.size W0 wr) (fun i _ => a.length - (intOf i).toNat)
    case atStart => exact ⟨0, m0, Nat.zero_le _, rfl, hbox, Hfirst, Lib.hid fun p hp => by simp at hp, hX1⟩
    case round =>
      clear Hfirst hX1 hbox
      obtain ⟨k, m, hk, rfl, hbox, hex, hall, hX1⟩ := hrel
      rename World => w5
      have hml : 0 ≤ m ∧ m ≤ 6000 := by
        obtain ⟨p, hp, q, hq, rfl⟩ := hex.out
        exact dist_le (na p hp) (nb q hq)
      have cP : w5.cell? ⟨w.heap.size, 0, none⟩ = some (.slice (some ⟨b2, o2, none⟩) b.length kb0) := (hX1.cell (p := ⟨w.heap.size, 0, none⟩) hPs).trans hP
      have cL := hbox.cell
      rcases Nat.lt_or_eq_of_le hk with hkn | rfl
      · have hk0 : (0 : Int) ≤ k := by omega
        have hk1 : (k : Int) < a.length := by omega
        obtain ⟨bk, ok, xk, yk, zk, ek, -, hbk, hck, r0, r1, r2⟩ := ha.cells hkn
        injection ek with ek
        injection ek with ek1 ek2
        subst ek1 ek2
        have nak := na _ (List.mem_of_getElem? hck)
        have hsz1 := hX1.size
        rw [← (hK0.trans (hX1.mono hK0.size)).cell (p := ⟨b1, _, none⟩) hb1] at r0 r1 r2
        obtain ⟨W2, hW2⟩ : ∃ W2, W2 = w5.alloc (.cells #[.int .i64 xk, .int .i64 yk, .int .i64 zk] 34) := ⟨_, rfl⟩
        have hC2 : W2.heap[w5.heap.size]? = some (.cells #[.int .i64 xk, .int .i64 yk, .int .i64 zk] 34 (0, 0)) := by subst hW2; exact World.alloc_heap_new w5 _
        have hbox2 : Boxed W2 Lb 3 (.int .i64 m) := by subst hW2; exact hbox.alloc _
        have hX2 : Below W0.heap.size W0 W2 := by subst hW2; exact hX1.alloc hsz1 _
        have hCs : w5.heap.size < W2.heap.size := by subst hW2; simp
        have hLC : Lb < w5.heap.size := hbox.lt
        have cP2 : W2.cell? ⟨w.heap.size, 0, none⟩ = some (.slice (some ⟨b2, o2, none⟩) b.length kb0) := (hX2.cell (p := ⟨w.heap.size, 0, none⟩) hPs).trans hP
        have hs := search_ok b.length (by omega) (fun i => decide (xk - m < (b.getD i (0, 0, 0)).1)) w.heap.size w5.heap.size Lb W2 (fun i hi W hW => by
          obtain ⟨bi, oi, xi, yi, zi, ei, -, hbi, hci, q0, q1, q2⟩ := hb.cells hi
          injection ei with ei
          injection ei with ei1 ei2
          subst ei1 ei2
          have hg : (b.getD i (0, 0, 0)).1 = xi := by rw [List.getD_eq_getElem?_getD, hci]; rfl
          rw [hg]
          unfold Near at nak
          exact apart1_ok i b2 o2 b.length kb0 xi xk m w.heap.size w5.heap.size Lb W hi ((hW.cell (p := ⟨w.heap.size, 0, none⟩) (Nat.lt_of_lt_of_le hPs hX2.size)).trans cP2) (((hK0.trans ((hX2.trans (hW.mono hX2.size)).mono hK0.size)).cell (p := ⟨b2, _, none⟩) hb2).trans q0)
            (cell_of_row W w5.heap.size 0 _ _ _ ((hW.block _ hCs).trans hC2)) (Boxed.cell (t := 3) ((hW.block _ hbox2.lt).trans hbox2)) (by dsimp only at nak; omega))
        go_upto_region 10 with fail
        rw [← hW2]
        clear hW2
        go_wp2_with fail
        clear cP2
        refine hs.mono ?_
        rintro e w6 ⟨K, rfl, hKn, hKp, hB6⟩
        have hskip : ∀ q ∈ b.take K, m ≤ distI (xk, yk, zk) q := fun q hq => by
          obtain ⟨i, hi⟩ := List.mem_iff_getElem?.1 hq
          have hiK : i < K := by
            have := (List.getElem?_eq_some_iff.1 hi).1
            rw [List.length_take] at this
            omega
          rw [List.getElem?_take_of_lt hiK] at hi
          have hK1 : ∃ p, b[K - 1]? = some p := ⟨_, List.getElem?_eq_getElem (by omega)⟩
          obtain ⟨p, hp⟩ := hK1
          have h1 := hKp (by omega)
          have hg : b.getD (K - 1) (0, 0, 0) = p := by rw [List.getD_eq_getElem?_getD, hp]; rfl
          rw [hg] at h1
          have h2 := of_decide_eq_false h1
          have h3 := up_le ub hi hp (by omega)
          unfold distI
          dsimp only
          omega
        have Hskip := Lib.hid hskip
        have hX6 := hX2.trans (hB6.mono hX2.size)
        have hbox6 : Boxed w6 Lb 3 (.int .i64 m) := (hB6.block _ hbox2.lt).trans hbox2
        have hC6 := (hB6.block _ hCs).trans hC2
        have cP6 : w6.cell? ⟨w.heap.size, 0, none⟩ = some (.slice (some ⟨b2, o2, none⟩) b.length kb0) := (hX6.cell (p := ⟨w.heap.size, 0, none⟩) hPs).trans hP
        have hK0' : (0 : Int) ≤ K := by omega
        have hKn' : (K : Int) ≤ b.length := by omega
        have hkb' : ((b.length : Nat) : Int) ≤ kb0 := by omega
        clear hskip hs hKp hB6 hbox2 hC2 hX2 hbox cP cL r0 r1 r2
        by_cases hkK : kb0 = K
        · obtain rfl : K = b.length := by omega
          subst hkK
          have Hall2 : Hid (∀ p ∈ a.take (k + 1), ∀ q ∈ b, m ≤ distI p q) := Lib.hid fun p hp q hq => by
            rw [List.take_add_one, hck] at hp
            rcases List.mem_append.1 hp with hp | hp
            · exact hall.out p hp q hq
            · simp at hp
              subst hp
              exact Hskip.out q (by rw [List.take_length]; exact hq)
          clear hall Hskip hck
          go_wp2
          go_loopw [51] (fun i wr => i = .int .i64 0 ∧ wr = w6) (fun _ _ => 0)
          case atStart => exact ⟨rfl, rfl⟩
          case round =>
            obtain ⟨rfl, rfl⟩ := hrel
            go_wp2
            go_roundw
            case rel => exact ⟨k + 1, m, hkn, rfl, hbox6, hex, Hall2, hX6⟩
            case measure => simp [intOf]; omega
        · go_wp2
          go_loopw [51] (fun i wr => ∃ (j : Nat) (m : Int), j ≤ b.length - K ∧ i = .int .i64 j ∧ Boxed wr Lb 3 (.int .i64 m) ∧ Hid (∃ p ∈ a, ∃ q ∈ b, distI p q = m) ∧ Hid (∀ p ∈ a.take k, ∀ q ∈ b, m ≤ distI p q) ∧ Hid (∀ q ∈ b.take (K + j), m ≤ distI (xk, yk, zk) q) ∧ wr.heap[w5.heap.size]? = some (.cells #[.int .i64 xk, .int .i64 yk, .int .i64 zk] 34 (0, 0)) ∧ Below W0.heap.size W0 wr) (fun i _ => (b.length - K) - (intOf i).toNat)
          case atStart => exact ⟨0, m, Nat.zero_le _, rfl, hbox6, hex, hall, Hskip, hC6, hX6⟩
          case round =>
            clear hbox6 hex hall Hskip hC6 hX6 cP6
            obtain ⟨j, m, hj, rfl, hbox, hex, hall, hskip, hC, hX⟩ := hrel
            rename World => w7
            have hml : 0 ≤ m ∧ m ≤ 6000 := by
              obtain ⟨p, hp, q, hq, rfl⟩ := hex.out
              exact dist_le (na p hp) (nb q hq)
            rcases Nat.lt_or_eq_of_le hj with hjn | rfl
            · have hj0 : (0 : Int) ≤ j := by omega
              have hj1 : (j : Int) < ((b.length - K : Nat) : Int) := by omega
              have hj2 : (j : Int) < (b.length : Int) - K := by omega
              have hKj : K + j < b.length := by omega
              obtain ⟨bj, oj, xj, yj, zj, ej, -, hbj, hcj, q0, q1, q2⟩ := hb.cells hKj
              injection ej with ej
              injection ej with ej1 ej2
              subst ej1 ej2
              have hKw := hK0.trans (hX.mono hK0.size)
              rw [← hKw.cell (p := ⟨b2, _, none⟩) hb2] at q0 q1 q2
              rw [show o2 + (K + j) * 3 = o2 + K * 3 + j * 3 by omega] at q0 q1 q2
              have naj := nb _ (List.mem_of_getElem? hcj)
              have hd := fun W => distance_ok (xk, yk, zk) (xj, yj, zj) (nak.mono (by omega)) (naj.mono (by omega)) W
              unfold cellV at hd
              dsimp only at hd
              obtain ⟨W8, hW8⟩ : ∃ W8, W8 = w7.alloc (.cells #[.int .i64 xj, .int .i64 yj, .int .i64 zj] 34) := ⟨_, rfl⟩
              have hD8 : W8.heap[w7.heap.size]? = some (.cells #[.int .i64 xj, .int .i64 yj, .int .i64 zj] 34 (0, 0)) := by subst hW8; exact World.alloc_heap_new w7 _
              have hbox8 : Boxed W8 Lb 3 (.int .i64 m) := by subst hW8; exact hbox.alloc _
              have hX8 : Below W0.heap.size W0 W8 := by subst hW8; exact hX.alloc hX.size _
              have hC7 : w5.heap.size < w7.heap.size := (Array.getElem?_eq_some_iff.1 hC).1
              have hC8 : W8.heap[w5.heap.size]? = some (.cells #[.int .i64 xk, .int .i64 yk, .int .i64 zk] 34 (0, 0)) := by subst hW8; exact (heap_alloc_old w7 _ hC7).trans hC
              have hD8s : w7.heap.size < W8.heap.size := by subst hW8; simp
              have hLC8 : Lb ≠ w5.heap.size := by omega
              have hLD8 : Lb ≠ w7.heap.size := by have := hbox.lt; omega
              have kS : ∀ W' : World, (∀ B, B < W8.heap.size → W'.heap[B]? = W8.heap[B]?) → W'.cell? ⟨Lb, 0, none⟩ = some (.int .i64 m) ∧ W'.cell? ⟨w5.heap.size, 0, none⟩ = some (.int .i64 xk) ∧ W'.cell? ⟨w5.heap.size, 1, none⟩ = some (.int .i64 yk) ∧ W'.cell? ⟨w5.heap.size, 2, none⟩ = some (.int .i64 zk) ∧ W'.cell? ⟨w7.heap.size, 0, none⟩ = some (.int .i64 xj) ∧ W'.cell? ⟨w7.heap.size, 1, none⟩ = some (.int .i64 yj) ∧ W'.cell? ⟨w7.heap.size, 2, none⟩ = some (.int .i64 zj) := fun W' h =>
                ⟨Boxed.cell (t := 3) ((h _ hbox8.lt).trans hbox8), cell_of_row W' _ 0 _ _ _ ((h _ (by omega)).trans hC8), cell_of_row W' _ 1 _ _ _ ((h _ (by omega)).trans hC8), cell_of_row W' _ 2 _ _ _ ((h _ (by omega)).trans hC8), cell_of_row W' _ 0 _ _ _ ((h _ hD8s).trans hD8), cell_of_row W' _ 1 _ _ _ ((h _ hD8s).trans hD8), cell_of_row W' _ 2 _ _ _ ((h _ hD8s).trans hD8)⟩
              have wm : IntKind.i64.wrap (xk + m) = xk + m := wrapS (by unfold Near at nak; dsimp only at nak; omega)
              have hRest : xk + m ≤ xj → Hid (∀ p ∈ a.take (k + 1), ∀ q ∈ b, m ≤ distI p q) := fun hge => Lib.hid fun p hp q hq => by
                rw [List.take_add_one, hck] at hp
                rcases List.mem_append.1 hp with hp | hp
                · exact hall.out p hp q hq
                · simp at hp
                  subst hp
                  obtain ⟨i, hi⟩ := List.mem_iff_getElem?.1 hq
                  by_cases hiK : i < K + j
                  · exact hskip.out q (List.mem_iff_getElem?.2 ⟨i, by rw [List.getElem?_take_of_lt hiK]; exact hi⟩)
                  · have h3 := up_le ub hcj hi (by omega)
                    unfold distI
                    dsimp only at h3 ⊢
                    omega
              have hnew : (∃ p ∈ a, ∃ q ∈ b, distI p q = min m (distI (xk, yk, zk) (xj, yj, zj))) ∧ (∀ p ∈ a.take k, ∀ q ∈ b, min m (distI (xk, yk, zk) (xj, yj, zj)) ≤ distI p q) ∧ (∀ q ∈ b.take (K + (j + 1)), min m (distI (xk, yk, zk) (xj, yj, zj)) ≤ distI (xk, yk, zk) q) := by
                refine ⟨?_, fun p hp q hq => ?_, fun q hq => ?_⟩
                · rcases Int.le_total m (distI (xk, yk, zk) (xj, yj, zj)) with h | h
                  · rw [Int.min_eq_left h]; exact hex.out
                  · rw [Int.min_eq_right h]; exact ⟨_, List.mem_of_getElem? hck, _, List.mem_of_getElem? hcj, rfl⟩
                · have := hall.out p hp q hq
                  omega
                · rw [← Nat.add_assoc, List.take_add_one, hcj] at hq
                  rcases List.mem_append.1 hq with hq | hq
                  · have := hskip.out q hq
                    omega
                  · simp at hq
                    subst hq
                    omega
              have hNew := Lib.hid hnew
              generalize distI (xk, yk, zk) (xj, yj, zj) = dd at hd hNew
              go_upto_region 14 with fail
              rw [← hW8]
              obtain ⟨s0, s1, s2, s3, s4, s5, s6⟩ := kS W8 (fun _ _ => rfl)
              clear hnew hW8 q0 q1 q2 hj1 hj2 hbox hC hX hKw naj hcj hj0
              by_cases hge : xk + m ≤ xj
              · have HR := hRest hge
                clear hRest hNew kS hd
                go_wp2
                go_roundw
                case rel => exact ⟨k + 1, m, hkn, rfl, hbox8, hex, HR, hX8⟩
                case measure => simp [intOf]; omega
              · clear hRest hex hall hskip
                go_upto_region 15 with fail
                have hE : Below W8.heap.size W8 W8.drew := (Below.refl _ _).drew
                have hS0 := (kS W8.drew hE.block).2
                have c0 : W8.drew.cell? ⟨Lb, 0, none⟩ = some (.int .i64 m) := s0
                have kT : ∀ W' : World, (∀ B, B < W8.heap.size → B ≠ Lb → W'.heap[B]? = W8.heap[B]?) → (W'.cell? ⟨w5.heap.size, 0, none⟩ = some (.int .i64 xk) ∧ W'.cell? ⟨w5.heap.size, 1, none⟩ = some (.int .i64 yk) ∧ W'.cell? ⟨w5.heap.size, 2, none⟩ = some (.int .i64 zk) ∧ W'.cell? ⟨w7.heap.size, 0, none⟩ = some (.int .i64 xj) ∧ W'.cell? ⟨w7.heap.size, 1, none⟩ = some (.int .i64 yj) ∧ W'.cell? ⟨w7.heap.size, 2, none⟩ = some (.int .i64 zj)) ∧ W'.heap[w5.heap.size]? = some (.cells #[.int .i64 xk, .int .i64 yk, .int .i64 zk] 34 (0, 0)) := fun W' h => by
                  have hh1 := (h w5.heap.size (by omega) (Ne.symm hLC8)).trans hC8
                  have hh2 := (h w7.heap.size hD8s (Ne.symm hLD8)).trans hD8
                  exact ⟨⟨cell_of_row W' _ 0 _ _ _ hh1, cell_of_row W' _ 1 _ _ _ hh1, cell_of_row W' _ 2 _ _ _ hh1, cell_of_row W' _ 0 _ _ _ hh2, cell_of_row W' _ 1 _ _ _ hh2, cell_of_row W' _ 2 _ _ _ hh2⟩, hh1⟩
                clear s0 s1 s2 s3 s4 s5 s6
                refine wp_region_held_drew (S := fun W' => W'.cell? ⟨w5.heap.size, 0, none⟩ = some (.int .i64 xk) ∧ W'.cell? ⟨w5.heap.size, 1, none⟩ = some (.int .i64 yk) ∧ W'.cell? ⟨w5.heap.size, 2, none⟩ = some (.int .i64 zk) ∧ W'.cell? ⟨w7.heap.size, 0, none⟩ = some (.int .i64 xj) ∧ W'.cell? ⟨w7.heap.size, 1, none⟩ = some (.int .i64 yj) ∧ W'.cell? ⟨w7.heap.size, 2, none⟩ = some (.int .i64 zj)) (by kernel_rfl) hS0 (fun hHeld => ?_)
                refine held_yes 1 (some 63) (.agg #[.int .i64 xk, .int .i64 yk, .int .i64 zk]) rfl rfl (by kernel_rfl) (by kernel_rfl) (by kernel_rfl) (fun _ _ _ h => h) rfl (fun w' hS => by obtain ⟨s1, s2, s3, s4, s5, s6⟩ := hS; go_simp) hHeld ?_
                try simp only [Act.put, List.setIfInBounds_toArray, List.set_cons_zero, List.set_cons_succ]
                refine held_yes 2 (some 64) (.agg #[.int .i64 xj, .int .i64 yj, .int .i64 zj]) rfl rfl (by kernel_rfl) (by kernel_rfl) (by kernel_rfl) (fun _ _ _ h => h) rfl (fun w' hS => by obtain ⟨s1, s2, s3, s4, s5, s6⟩ := hS; go_simp) hHeld ?_
                try simp only [Act.put, List.setIfInBounds_toArray, List.set_cons_zero, List.set_cons_succ]
                refine wpAnyH_ready (rs := [0, 3]) (by kernel_rfl) (by simp) ?_
                refine AllReadyH.cons rfl (fun K hK => ?_) (AllReadyH.cons rfl (fun K hK => ?_) AllReadyH.nil)
                · go_simp
                  refine hK.out _ _ hS0 (fun hHeld => ?_)
                  clear hK K
                  try simp only [Act.put, List.setIfInBounds_toArray, List.set_cons_zero, List.set_cons_succ]
                  refine wpAnyH_ready (rs := [3]) (by kernel_rfl) (by simp) ?_
                  refine AllReadyH.cons rfl (fun K hK => ?_) AllReadyH.nil
                  go_simp
                  refine (hd _).mono ?_
                  rintro e w9 ⟨rfl, hB⟩
                  replace hE := hE.trans (hB.mono hE.size)
                  obtain ⟨cL9, hS9⟩ := kS _ hE.block
                  have hbox9 : Boxed w9 Lb 3 (.int .i64 m) := (hE.block _ hbox8.lt).trans hbox8
                  have fL9 := hbox9.frozen
                  refine hK.out _ _ hS9 (fun hHeld => ?_)
                  clear hK K hB
                  try simp only [Act.put, List.setIfInBounds_toArray, List.set_cons_zero, List.set_cons_succ]
                  refine wpAnyH_ready (rs := [4]) (by kernel_rfl) (by simp) ?_
                  refine AllReadyH.cons rfl (fun K hK => ?_) AllReadyH.nil
                  go_simp
                  refine hK.out _ _ hS9 (fun hHeld => ?_)
                  clear hK K
                  try simp only [Act.put, List.setIfInBounds_toArray, List.set_cons_zero, List.set_cons_succ]
                  refine wpAnyH_ready (rs := [5]) (by kernel_rfl) (by simp) ?_
                  refine AllReadyH.cons rfl (fun K hK => ?_) AllReadyH.nil
                  go_simp
                  have hbA := hbox9.set (.int .i64 (min m dd))
                  have hS10 := (kT (w9.setCell ⟨Lb, 0, none⟩ (.int .i64 (min m dd))) (fun B hBs hBL => (heap_setCell_other w9 ⟨Lb, 0, none⟩ B _ hBL).trans (hE.block B hBs)))
                  refine hK.out _ _ hS10.1 (fun hHeld => ?_)
                  clear hK K
                  try simp only [Act.put, List.setIfInBounds_toArray, List.set_cons_zero, List.set_cons_succ]
                  refine wpAnyH_done (by kernel_rfl) ?_ _
                  clear hHeld
                  go_wp2
                  exact ⟨⟨j + 1, _, hjn, rfl, hbA, Lib.hid hNew.out.1, Lib.hid hNew.out.2.1, Lib.hid hNew.out.2.2, hS10.2, (hX8.trans (hE.mono hX8.size)).setCell (p := ⟨Lb, 0, none⟩) hLb _⟩, by simp [intOf]; omega⟩
                · go_simp
                  refine (hd _).mono ?_
                  rintro e w9 ⟨rfl, hB⟩
                  replace hE := hE.trans (hB.mono hE.size)
                  obtain ⟨cL9, hS9⟩ := kS _ hE.block
                  have hbox9 : Boxed w9 Lb 3 (.int .i64 m) := (hE.block _ hbox8.lt).trans hbox8
                  have fL9 := hbox9.frozen
                  refine hK.out _ _ hS9 (fun hHeld => ?_)
                  clear hK K hB
                  try simp only [Act.put, List.setIfInBounds_toArray, List.set_cons_zero, List.set_cons_succ]
                  refine wpAnyH_ready (rs := [0]) (by kernel_rfl) (by simp) ?_
                  refine AllReadyH.cons rfl (fun K hK => ?_) AllReadyH.nil
                  go_simp
                  refine hK.out _ _ hS9 (fun hHeld => ?_)
                  clear hK K
                  try simp only [Act.put, List.setIfInBounds_toArray, List.set_cons_zero, List.set_cons_succ]
                  refine wpAnyH_ready (rs := [4]) (by kernel_rfl) (by simp) ?_
                  refine AllReadyH.cons rfl (fun K hK => ?_) AllReadyH.nil
                  go_simp
                  refine hK.out _ _ hS9 (fun hHeld => ?_)
                  clear hK K
                  try simp only [Act.put, List.setIfInBounds_toArray, List.set_cons_zero, List.set_cons_succ]
                  refine wpAnyH_ready (rs := [5]) (by kernel_rfl) (by simp) ?_
                  refine AllReadyH.cons rfl (fun K hK => ?_) AllReadyH.nil
                  go_simp
                  have hbA := hbox9.set (.int .i64 (min m dd))
                  have hS10 := (kT (w9.setCell ⟨Lb, 0, none⟩ (.int .i64 (min m dd))) (fun B hBs hBL => (heap_setCell_other w9 ⟨Lb, 0, none⟩ B _ hBL).trans (hE.block B hBs)))
                  refine hK.out _ _ hS10.1 (fun hHeld => ?_)
                  clear hK K
                  try simp only [Act.put, List.setIfInBounds_toArray, List.set_cons_zero, List.set_cons_succ]
                  refine wpAnyH_done (by kernel_rfl) ?_ _
                  clear hHeld
                  go_wp2
                  exact ⟨⟨j + 1, _, hjn, rfl, hbA, Lib.hid hNew.out.1, Lib.hid hNew.out.2.1, Lib.hid hNew.out.2.2, hS10.2, (hX8.trans (hE.mono hX8.size)).setCell (p := ⟨Lb, 0, none⟩) hLb _⟩, by simp [intOf]; omega⟩
            · have Hall2 : Hid (∀ p ∈ a.take (k + 1), ∀ q ∈ b, m ≤ distI p q) := Lib.hid fun p hp q hq => by
                rw [List.take_add_one, hck] at hp
                rcases List.mem_append.1 hp with hp | hp
                · exact hall.out p hp q hq
                · simp at hp
                  subst hp
                  exact hskip.out q (by rw [show K + (b.length - K) = b.length by omega, List.take_length]; exact hq)
              clear hall hskip
              go_wp2
              go_roundw
              case rel => exact ⟨k + 1, m, hkn, rfl, hbox, hex, Hall2, hX⟩
              case measure => simp [intOf]; omega
      · have hL : Least a b m := ⟨hex.out, fun p hp q hq => hall.out p (by rw [List.take_length]; exact hp) q hq⟩
        have HL := Lib.hid hL
        clear hL hex hall
        go_wp2
        go_ret2
        exact ⟨m, rfl, HL.out, hK0.trans (hX1.mono hK0.size)⟩
end Go.Proofs
