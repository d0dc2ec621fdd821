/- Jobs, exactly: the first error. -/
import Derived.Test.YtdiddniddohhgaaGreatDoorJbL
import Derived.Test.YtdiddniddohhgaaGreatDoorJobI
import Derived.Test.YtdiddniddohhgaaGreatDoorErrI
namespace Go.Proofs
open Go.RowKit Go.MapKept
set_option maxHeartbeats 16000000
set_option maxRecDepth 1000000
theorem mem_takeJ {α : Type} {f : α → ByteArray} {l : List α} {k : Nat} {s : ByteArray} : s ∈ (l.take k).map f ↔ ∃ (j : Nat) (u : α), j < k ∧ l[j]? = some u ∧ f u = s := by
  constructor
  · intro h
    obtain ⟨t, ht, e⟩ := List.mem_map.1 h
    obtain ⟨j, hj⟩ := List.mem_iff_getElem?.1 ht
    rw [List.getElem?_take] at hj
    split at hj
    · rename_i hjk
      exact ⟨j, t, hjk, hj, e⟩
    · cases hj
  · rintro ⟨j, u, hj, hu, rfl⟩
    refine List.mem_map.2 ⟨u, List.mem_iff_getElem?.2 ⟨j, ?_⟩, rfl⟩
    rw [List.getElem?_take, if_pos hj]
    exact hu
theorem or4_orL (a b c d : Int) : or4 a b c d = orL [a, b, c, d] := by
  unfold or4 orL orL orL orL orL
  split <;> (try rfl)
  split <;> (try rfl)
  split <;> (try rfl)
  split <;> simp_all
noncomputable def timesE (t d : List Int) (m : Nat) : Int := orL [if t.length ≠ m ∨ d.length + 1 ≠ t.length then 2 else 0, if 8 < t.length then 5 else 0, allE t 0 1440, allE d 0 1440]
def stN (J : List JobT) : Nat := match J[0]? with
  | some j => j.2.1.length
  | none => 0
noncomputable def jobE (J : List JobT) (k : Nat) (j : JobT) : Int := orL [nameE j.1, twiceE j.1 ((J.take k).map (·.1)), timesE j.2.1 j.2.2 (stN J)]
def JobX (J : List JobT) (e : Int) : Prop := (J.length = 0 ∧ e = 12) ∨ (0 < J.length ∧ ((32 < J.length ∧ e = 5) ∨ (J.length ≤ 32 ∧ ScanE J (jobE J) e)))
theorem JobX.same {J : List JobT} {e e' : Int} (h : JobX J e) (h' : JobX J e') : e = e' := by
  rcases h with ⟨h1, rfl⟩ | ⟨h1, ⟨h2, rfl⟩ | ⟨h2, h3⟩⟩ <;> rcases h' with ⟨g1, rfl⟩ | ⟨g1, ⟨g2, rfl⟩ | ⟨g2, g3⟩⟩ <;> first | rfl | exact h3.same g3 | (exfalso; omega)
theorem allE_0 {l : List Int} {lo hi : Int} (h : allE l lo hi = 0) : ∀ x ∈ l, lo ≤ x ∧ x ≤ hi := by
  unfold allE at h
  split at h
  · assumption
  · cases h
theorem JobX.ok {J : List JobT} (h : JobX J 0) : JobsOk (stN J) J := by
  rcases h with ⟨h1, e⟩ | ⟨h1, ⟨h2, e⟩ | ⟨h2, h3⟩⟩
  · cases e
  · cases e
  · have h5 : ∀ (k : Nat) (t : JobT), J[k]? = some t → jobE J k t = 0 := by
      rcases h3 with ⟨-, h4⟩ | ⟨h4, -⟩
      · exact h4
      · exact absurd rfl h4
    have h6 := fun k t h => orL_eq0.1 (h5 k t h)
    have h7 : ∀ (k : Nat) (t : JobT), J[k]? = some t → timesE t.2.1 t.2.2 (stN J) = 0 := fun k t h => h6 k t h _ (by simp)
    refine ⟨h1, h2, fun j hj => ?_, fun j hj => ?_, fun i k s t hki hs ht he => ?_⟩
    · obtain ⟨k, hk⟩ := List.mem_iff_getElem?.1 hj
      have h8 := orL_eq0.1 (h7 k j hk)
      have g1 := h8 (if j.2.1.length ≠ stN J ∨ j.2.2.length + 1 ≠ j.2.1.length then 2 else 0) (by simp)
      have g2 := h8 (if 8 < j.2.1.length then 5 else 0) (by simp)
      have g3 := allE_0 (h8 (allE j.2.1 0 1440) (by simp))
      have g4 := allE_0 (h8 (allE j.2.2 0 1440) (by simp))
      split at g1
      · cases g1
      · split at g2
        · cases g2
        · rename_i n1 n2
          exact ⟨by omega, by omega, by omega, g3, g4⟩
    · obtain ⟨k, hk⟩ := List.mem_iff_getElem?.1 hj
      exact nameE_iff.1 (h6 k j hk (nameE j.1) (by simp))
    · have := twiceE_iff.1 (h6 i t ht (twiceE t.1 ((J.take i).map (·.1))) (List.mem_cons_of_mem _ (List.mem_cons_self ..)))
      exact this (mem_takeJ.2 ⟨k, s, hki, hs, he⟩)
theorem checkTimesX_ok (nm : ByteArray) (vt vd : Value) (t d : List Int) (m : Nat) (w : World) (ht : SlI w vt t) (hd : SlI w vd d) (hn : t.length ≤ 1000) (hn2 : d.length ≤ 1000) :
    Calls Tryz.prog 117 #[jobV nm vt vd, .int .i64 m] w fun e w' => e = .returned (.int .i64 (timesE t d m)) ∧ Below w.heap.size w w' := by
  obtain ⟨At, ct, rfl⟩ := ht.form
  obtain ⟨Ad, cd, rfl⟩ := hd.form
  have kT := fun W (h : SlI W (.slice At t.length ct) t) => shAllX_ok t _ 0 1440 W h (by omega)
  have kD := fun W (h : SlI W (.slice Ad d.length cd) d) => shAllX_ok d _ 0 1440 W h (by omega)
  have wn1 : wrap64 ((t.length : Int) - 1) = (t.length : Int) - 1 := wrap64_small (by omega)
  have wn2 : IntKind.i64.wrap ((t.length : Int) - 1) = (t.length : Int) - 1 := wrap_small (by omega)
  obtain ⟨b1, hb1⟩ : ∃ b, ((t.length : Int) != (m : Int)) = b := ⟨_, rfl⟩
  obtain ⟨b2, hb2⟩ : ∃ b, ((d.length : Int) != (t.length : Int) - 1) = b := ⟨_, rfl⟩
  obtain ⟨b3, hb3⟩ : ∃ b, decide ((8 : Int) < (t.length : Int)) = b := ⟨_, rfl⟩
  have hE : timesE t d m = or4 (if (b1 || b2) = true then 2 else 0) (if b3 = true then 5 else 0) (allE t 0 1440) (allE d 0 1440) := by
    rw [or4_orL]
    unfold timesE
    congr 1
    congr 1
    · have h1 : (b1 || b2) = true ↔ t.length ≠ m ∨ d.length + 1 ≠ t.length := by
        rw [← hb1, ← hb2]
        simp only [Bool.or_eq_true, bne_iff_ne, ne_eq]
        omega
      by_cases h : t.length ≠ m ∨ d.length + 1 ≠ t.length
      · rw [if_pos h, if_pos (h1.2 h)]
      · rw [if_neg h, if_neg (fun h2 => h (h1.1 h2))]
    · congr 1
      have h1 : b3 = true ↔ 8 < t.length := by
        rw [← hb3]
        simp only [decide_eq_true_eq]
        omega
      by_cases h : 8 < t.length
      · rw [if_pos h, if_pos (h1.2 h)]
      · rw [if_neg h, if_neg (fun h2 => h (h1.1 h2))]
  rw [hE]
  clear hE
  have hw2 := fun W => shWhen_ok b3 5 W
  generalize allE t 0 1440 = et at kT ⊢
  generalize allE d 0 1440 = ed at kD ⊢
  generalize (if b3 = true then (5 : Int) else 0) = em at hw2 ⊢
  unfold jobV
  obtain ⟨W0, hW⟩ : ∃ W0, W0 = w.alloc (.cells #[.string nm, .slice At t.length ct, .slice Ad d.length cd] 132) := ⟨_, rfl⟩
  have hB0 : Below w.heap.size w W0 := by subst hW; exact (Below.refl _ _).alloc (Nat.le_refl _) _
  have rj : RowK W0 132 w.heap.size [.string nm, .slice At t.length ct, .slice Ad d.length cd] := by subst hW; exact heap_alloc_new w _
  have kk : ∀ V, Below W0.heap.size W0 V → V.cell? ⟨w.heap.size, 0, none⟩ = some (.string nm) ∧ V.cell? ⟨w.heap.size, 1, none⟩ = some (.slice At t.length ct) ∧ V.cell? ⟨w.heap.size, 2, none⟩ = some (.slice Ad d.length cd) := fun V h => ⟨(rj.below h).cell (by rfl), (rj.below h).cell (by rfl), (rj.below h).cell (by rfl)⟩
  have hD := (Below.refl W0.heap.size W0).drew
  have hky := kk _ hD
  have kT0 := kT _ ((ht.below hB0).below hD)
  have kD0 := kD _ ((hd.below hB0).below hD)
  clear hn hn2 kT kD ht hd
  cases b1 with
  | true =>
    have hw1 := fun W => shWhen_ok true 2 W
    simp only [if_true] at hw1
    simp only [Bool.true_or, if_true]
    have hkyA := kk _ (hD.alloc hD.size (.cells #[.int .i64 2, .int .i64 em, .int .i64 et, .int .i64 ed] 28))
    have ho := fun blk W => shFirst4 2 em et ed blk 4 W
    generalize or4 2 em et ed = er at ho ⊢
    have hBF := hB0.drew.alloc hB0.size (.cells #[.int .i64 2, .int .i64 em, .int .i64 et, .int .i64 ed] 28)
    have hX := hD
    go_enter Tryz.func117, Tryz.ntmps117
    go_wp2_with fail
    rw [← hW]
    clear hW
    refine wp_region_held_drew (S := fun V => V.cell? ⟨w.heap.size, 0, none⟩ = some (.string nm) ∧ V.cell? ⟨w.heap.size, 1, none⟩ = some (.slice At t.length ct) ∧ V.cell? ⟨w.heap.size, 2, none⟩ = some (.slice Ad d.length cd)) (by kernel_rfl) hky (fun hHeld => ?_)
    refine held_yes 0 (some 5) (.pointer (some ⟨w.heap.size, 1, none⟩)) rfl rfl (by kernel_rfl) (by kernel_rfl) (by kernel_rfl) (fun _ _ _ h => h) rfl (fun w' hS => by obtain ⟨s0, s1, s2⟩ := hS; go_simp) hHeld ?_
    try simp only [Act.put, List.setIfInBounds_toArray, List.set_cons_zero, List.set_cons_succ]
    refine held_yes 1 (some 6) (.slice At t.length ct) rfl rfl (by kernel_rfl) (by kernel_rfl) (by kernel_rfl) (fun _ _ _ h => h) rfl (fun w' hS => by obtain ⟨s0, s1, s2⟩ := hS; go_simp) hHeld ?_
    try simp only [Act.put, List.setIfInBounds_toArray, List.set_cons_zero, List.set_cons_succ]
    refine held_yes 2 (some 7) (.int .i64 t.length) rfl rfl (by kernel_rfl) (by kernel_rfl) (by kernel_rfl) (fun _ _ _ h => h) rfl (fun w' hS => by obtain ⟨s0, s1, s2⟩ := hS; go_simp) hHeld ?_
    try simp only [Act.put, List.setIfInBounds_toArray, List.set_cons_zero, List.set_cons_succ]
    refine held_yes 3 (some 8) (.int .i64 m) rfl rfl (by kernel_rfl) (by kernel_rfl) (by kernel_rfl) (fun _ _ _ h => h) rfl (fun w' hS => by obtain ⟨s0, s1, s2⟩ := hS; go_simp) hHeld ?_
    try simp only [Act.put, List.setIfInBounds_toArray, List.set_cons_zero, List.set_cons_succ]
    refine held_yes 4 (some 9) (.bool true) rfl rfl (by kernel_rfl) (by kernel_rfl) (by kernel_rfl) (fun _ _ _ h => h) rfl (fun w' hS => by obtain ⟨s0, s1, s2⟩ := hS; go_simp) hHeld ?_
    try simp only [Act.put, List.setIfInBounds_toArray, List.set_cons_zero, List.set_cons_succ]
    refine held_yes 5 (some 10) (.bool true) rfl rfl (by kernel_rfl) (by kernel_rfl) (by kernel_rfl) (fun _ _ _ h => h) rfl (fun w' hS => by obtain ⟨s0, s1, s2⟩ := hS; go_simp) hHeld ?_
    try simp only [Act.put, List.setIfInBounds_toArray, List.set_cons_zero, List.set_cons_succ]
    refine held_no 6 (some 11) rfl rfl (by kernel_rfl) (by kernel_rfl) (by kernel_rfl) (fun _ _ _ h => h) rfl hHeld ?_
    try simp only [Act.put, List.setIfInBounds_toArray, List.set_cons_zero, List.set_cons_succ]
    refine held_no 7 (some 12) rfl rfl (by kernel_rfl) (by kernel_rfl) (by kernel_rfl) (fun _ _ _ h => h) rfl hHeld ?_
    try simp only [Act.put, List.setIfInBounds_toArray, List.set_cons_zero, List.set_cons_succ]
    refine held_no 8 (some 13) rfl rfl (by kernel_rfl) (by kernel_rfl) (by kernel_rfl) (fun _ _ _ h => h) rfl hHeld ?_
    try simp only [Act.put, List.setIfInBounds_toArray, List.set_cons_zero, List.set_cons_succ]
    refine held_no 9 (some 14) rfl rfl (by kernel_rfl) (by kernel_rfl) (by kernel_rfl) (fun _ _ _ h => h) rfl hHeld ?_
    try simp only [Act.put, List.setIfInBounds_toArray, List.set_cons_zero, List.set_cons_succ]
    refine held_no 10 (some 15) rfl rfl (by kernel_rfl) (by kernel_rfl) (by kernel_rfl) (fun _ _ _ h => h) rfl hHeld ?_
    try simp only [Act.put, List.setIfInBounds_toArray, List.set_cons_zero, List.set_cons_succ]
    refine held_no 11 (some 16) rfl rfl (by kernel_rfl) (by kernel_rfl) (by kernel_rfl) (fun _ _ _ h => h) rfl hHeld ?_
    try simp only [Act.put, List.setIfInBounds_toArray, List.set_cons_zero, List.set_cons_succ]
    refine held_no 12 (some 17) rfl rfl (by kernel_rfl) (by kernel_rfl) (by kernel_rfl) (fun _ _ _ h => h) rfl hHeld ?_
    try simp only [Act.put, List.setIfInBounds_toArray, List.set_cons_zero, List.set_cons_succ]
    refine held_no 13 (some 18) rfl rfl (by kernel_rfl) (by kernel_rfl) (by kernel_rfl) (fun _ _ _ h => h) rfl hHeld ?_
    try simp only [Act.put, List.setIfInBounds_toArray, List.set_cons_zero, List.set_cons_succ]
    refine held_yes 14 (some 19) (.bool true) rfl rfl (by kernel_rfl) (by kernel_rfl) (by kernel_rfl) (fun _ _ _ h => h) rfl (fun w' hS => by obtain ⟨s0, s1, s2⟩ := hS; go_simp) hHeld ?_
    try simp only [Act.put, List.setIfInBounds_toArray, List.set_cons_zero, List.set_cons_succ]
    refine held_yes 16 (some 21) (.pointer (some ⟨w.heap.size, 1, none⟩)) rfl rfl (by kernel_rfl) (by kernel_rfl) (by kernel_rfl) (fun _ _ _ h => h) rfl (fun w' hS => by obtain ⟨s0, s1, s2⟩ := hS; go_simp) hHeld ?_
    try simp only [Act.put, List.setIfInBounds_toArray, List.set_cons_zero, List.set_cons_succ]
    refine held_yes 17 (some 22) (.slice At t.length ct) rfl rfl (by kernel_rfl) (by kernel_rfl) (by kernel_rfl) (fun _ _ _ h => h) rfl (fun w' hS => by obtain ⟨s0, s1, s2⟩ := hS; go_simp) hHeld ?_
    try simp only [Act.put, List.setIfInBounds_toArray, List.set_cons_zero, List.set_cons_succ]
    refine held_yes 18 (some 23) (.int .i64 t.length) rfl rfl (by kernel_rfl) (by kernel_rfl) (by kernel_rfl) (fun _ _ _ h => h) rfl (fun w' hS => by obtain ⟨s0, s1, s2⟩ := hS; go_simp) hHeld ?_
    try simp only [Act.put, List.setIfInBounds_toArray, List.set_cons_zero, List.set_cons_succ]
    refine held_yes 19 (some 24) (.bool b3) rfl rfl (by kernel_rfl) (by kernel_rfl) (by kernel_rfl) (fun _ _ _ h => h) rfl (fun w' hS => by obtain ⟨s0, s1, s2⟩ := hS; go_simp) hHeld ?_
    try simp only [Act.put, List.setIfInBounds_toArray, List.set_cons_zero, List.set_cons_succ]
    refine held_yes 21 (some 26) (.pointer (some ⟨w.heap.size, 1, none⟩)) rfl rfl (by kernel_rfl) (by kernel_rfl) (by kernel_rfl) (fun _ _ _ h => h) rfl (fun w' hS => by obtain ⟨s0, s1, s2⟩ := hS; go_simp) hHeld ?_
    try simp only [Act.put, List.setIfInBounds_toArray, List.set_cons_zero, List.set_cons_succ]
    refine held_yes 22 (some 27) (.slice At t.length ct) rfl rfl (by kernel_rfl) (by kernel_rfl) (by kernel_rfl) (fun _ _ _ h => h) rfl (fun w' hS => by obtain ⟨s0, s1, s2⟩ := hS; go_simp) hHeld ?_
    try simp only [Act.put, List.setIfInBounds_toArray, List.set_cons_zero, List.set_cons_succ]
    refine held_yes 24 (some 29) (.pointer (some ⟨w.heap.size, 2, none⟩)) rfl rfl (by kernel_rfl) (by kernel_rfl) (by kernel_rfl) (fun _ _ _ h => h) rfl (fun w' hS => by obtain ⟨s0, s1, s2⟩ := hS; go_simp) hHeld ?_
    try simp only [Act.put, List.setIfInBounds_toArray, List.set_cons_zero, List.set_cons_succ]
    refine held_yes 25 (some 30) (.slice Ad d.length cd) rfl rfl (by kernel_rfl) (by kernel_rfl) (by kernel_rfl) (fun _ _ _ h => h) rfl (fun w' hS => by obtain ⟨s0, s1, s2⟩ := hS; go_simp) hHeld ?_
    try simp only [Act.put, List.setIfInBounds_toArray, List.set_cons_zero, List.set_cons_succ]
    refine wpAnyH_ready (rs := [15]) (by kernel_rfl) (by simp) ?_
    refine AllReadyH.cons rfl (fun K hK => ?_) AllReadyH.nil
    go_simp
    refine (hw1 _).mono ?_
    rintro e1 w5 ⟨rfl, hw5⟩
    subst hw5
    go_wp2_with fail
    refine hK.out _ _ (kk _ hX) (fun hHeld => ?_)
    clear hK K
    try simp only [Act.put, List.setIfInBounds_toArray, List.set_cons_zero, List.set_cons_succ]
    refine wpAnyH_ready (rs := [20]) (by kernel_rfl) (by simp) ?_
    refine AllReadyH.cons rfl (fun K hK => ?_) AllReadyH.nil
    go_simp
    refine (hw2 _).mono ?_
    rintro e1 w5 ⟨rfl, hw5⟩
    subst hw5
    go_wp2_with fail
    refine hK.out _ _ (kk _ hX) (fun hHeld => ?_)
    clear hK K
    try simp only [Act.put, List.setIfInBounds_toArray, List.set_cons_zero, List.set_cons_succ]
    refine wpAnyH_ready (rs := [23]) (by kernel_rfl) (by simp) ?_
    refine AllReadyH.cons rfl (fun K hK => ?_) AllReadyH.nil
    go_simp
    refine (kT0).mono ?_
    rintro e1 w5 ⟨rfl, hw5⟩
    subst hw5
    go_wp2_with fail
    refine hK.out _ _ (kk _ hX) (fun hHeld => ?_)
    clear hK K
    try simp only [Act.put, List.setIfInBounds_toArray, List.set_cons_zero, List.set_cons_succ]
    refine wpAnyH_ready (rs := [26]) (by kernel_rfl) (by simp) ?_
    refine AllReadyH.cons rfl (fun K hK => ?_) AllReadyH.nil
    go_simp
    refine (kD0).mono ?_
    rintro e1 w5 ⟨rfl, hw5⟩
    subst hw5
    go_wp2_with fail
    refine hK.out _ _ (kk _ hX) (fun hHeld => ?_)
    clear hK K
    try simp only [Act.put, List.setIfInBounds_toArray, List.set_cons_zero, List.set_cons_succ]
    refine wpAnyH_ready (rs := [27]) (by kernel_rfl) (by simp) ?_
    refine AllReadyH.cons rfl (fun K hK => ?_) AllReadyH.nil
    go_simp
    refine hK.out _ _ hkyA (fun hHeld => ?_)
    clear hK K
    try simp only [Act.put, List.setIfInBounds_toArray, List.set_cons_zero, List.set_cons_succ]
    refine wpAnyH_ready (rs := [28]) (by kernel_rfl) (by simp) ?_
    refine AllReadyH.cons rfl (fun K hK => ?_) AllReadyH.nil
    go_simp
    refine (ho _ _ ?_ ?_ ?_ ?_).mono ?_
    · go_simp
    · go_simp
    · go_simp
    · go_simp
    rintro e1 w5 ⟨rfl, hw5⟩
    subst hw5
    go_wp2_with fail
    refine hK.out _ _ hkyA (fun hHeld => ?_)
    clear hK K
    try simp only [Act.put, List.setIfInBounds_toArray, List.set_cons_zero, List.set_cons_succ]
    refine held_yes 29 (some 4) (.int .i64 er) rfl rfl (by kernel_rfl) (by kernel_rfl) (by kernel_rfl) (fun _ _ _ h => h) rfl (fun w' hS => by obtain ⟨s0, s1, s2⟩ := hS; go_simp) hHeld ?_
    try simp only [Act.put, List.setIfInBounds_toArray, List.set_cons_zero, List.set_cons_succ]
    refine wpAnyH_done (by kernel_rfl) ?_ _
    clear hHeld
    go_wp2
    go_ret
    exact ⟨rfl, hBF⟩
  | false =>
    have hw1 := fun W => shWhen_ok b2 2 W
    simp only [Bool.false_or]
    generalize (if b2 = true then (2 : Int) else 0) = es at hw1 ⊢
    have hkyA := kk _ (hD.alloc hD.size (.cells #[.int .i64 es, .int .i64 em, .int .i64 et, .int .i64 ed] 28))
    have ho := fun blk W => shFirst4 es em et ed blk 4 W
    generalize or4 es em et ed = er at ho ⊢
    have hBF := hB0.drew.alloc hB0.size (.cells #[.int .i64 es, .int .i64 em, .int .i64 et, .int .i64 ed] 28)
    clear kk
    go_enter Tryz.func117, Tryz.ntmps117
    go_wp2_with fail
    rw [← hW]
    clear hW
    go_region_held3 (fun w' => w'.cell? ⟨w.heap.size, 0, none⟩ = some (.string nm) ∧ w'.cell? ⟨w.heap.size, 1, none⟩ = some (.slice At t.length ct) ∧ w'.cell? ⟨w.heap.size, 2, none⟩ = some (.slice Ad d.length cd)) (first | exact hky | exact hkyA | go_keep)
      (first
        | (go_at_call 122; (first | with_reducible refine kT0.mono ?_ | with_reducible refine kD0.mono ?_); rintro e w4 ⟨rfl, rfl⟩)
        | (go_at_call 40; (first | with_reducible refine (hw1 _).mono ?_ | with_reducible refine (hw2 _).mono ?_); rintro e w4 ⟨rfl, rfl⟩)
        | (go_at_call 39; refine (ho _ _ ?_ ?_ ?_ ?_).mono ?_; (go_simp); (go_simp); (go_simp); (go_simp); rintro e w5 ⟨rfl, rfl⟩))
    go_wp2
    go_ret
    exact ⟨rfl, hBF⟩
end Go.Proofs
