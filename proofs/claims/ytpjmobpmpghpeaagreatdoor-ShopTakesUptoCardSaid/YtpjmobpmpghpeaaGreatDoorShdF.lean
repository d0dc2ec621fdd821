import Derived.Test.YtpjmobpmpghpeaaGreatDoorShdC
import Derived.DeepKeys3
import Derived.Laws.StructEq
import Derived.MapKept
import Derived.WideKeyRuns
section
/- Shades: CheckGuide of the reference. -/
namespace Go.Proofs
open Go.RowKit
set_option maxHeartbeats 16000000
set_option maxRecDepth 1000000
structure GuideOk (ws : Cel) (l : List TabT) : Prop where
  wt : ColOk ws 1 100
  pos : 0 < l.length
  few : l.length ≤ 32
  at_ : ∀ (i : Nat) (t : TabT), l[i]? = some t → NameOk t.1 ∧ ColOk t.2 0 255
  nd : ∀ (i j : Nat) (s t : TabT), j < i → l[j]? = some s → l[i]? = some t → s.1 ≠ t.1
structure PreG (l : List TabT) (k : Nat) : Prop where
  at_ : ∀ (i : Nat) (t : TabT), i < k → l[i]? = some t → NameOk t.1 ∧ ColOk t.2 0 255
  nd : ∀ (i j : Nat) (s t : TabT), j < i → i < k → l[j]? = some s → l[i]? = some t → s.1 ≠ t.1
theorem preG_step {l : List TabT} {k : Nat} {t : TabT} (h : PreG l k) (ht : l[k]? = some t) (hn : NameOk t.1) (hc : ColOk t.2 0 255) (hd : ∀ j s, j < k → l[j]? = some s → s.1 ≠ t.1) : PreG l (k + 1) := by
  refine ⟨fun i u hi hu => ?_, fun i j s u hji hi hs hu => ?_⟩
  · rcases Nat.lt_or_eq_of_le (Nat.le_of_lt_succ hi) with h1 | rfl
    · exact h.at_ i u h1 hu
    · obtain rfl := Option.some.inj (ht.symm.trans hu)
      exact ⟨hn, hc⟩
  · rcases Nat.lt_or_eq_of_le (Nat.le_of_lt_succ hi) with h1 | rfl
    · exact h.nd i j s u hji h1 hs hu
    · obtain rfl := Option.some.inj (ht.symm.trans hu)
      exact hd j s hji hs
def GuideE (ws : Cel) (l : List TabT) (w : World) (e : Ending) (w' : World) : Prop := ∃ n : Int, e = .returned (.int .i64 n) ∧ 0 ≤ n ∧ n ≤ 12 ∧ (n = 0 → GuideOk ws l) ∧ Below w.heap.size w w'
theorem guideE_no {ws : Cel} {l : List TabT} {w w' : World} (n : Int) (h : 1 ≤ n ∧ n ≤ 12) (hb : Below w.heap.size w w') : GuideE ws l w (.returned (.int .i64 n)) w' := ⟨n, rfl, by omega, h.2, fun e => absurd e (by omega), hb⟩
theorem refGuide_ok (ws : Cel) (v : Value) (l : List TabT) (w : World) (hl : SlT w v l) :
    Calls Tryz.prog 24 #[gdV ws v] w (GuideE ws l w) := by
  have q := sumE_ok ws 1 100
  have h1 := within_cases ws.1 1 100
  have h2 := within_cases ws.2.1 1 100
  have h3 := within_cases ws.2.2 1 100
  have e1 := wrap64_small (n := withinI ws.1 1 100 + withinI ws.2.1 1 100) (by omega)
  have e2 := wrap64_small (n := withinI ws.1 1 100 + withinI ws.2.1 1 100 + withinI ws.2.2 1 100) (by omega)
  have e3 := wrap_small (n := withinI ws.1 1 100 + withinI ws.2.1 1 100) (by omega)
  have e4 := wrap_small (n := withinI ws.1 1 100 + withinI ws.2.1 1 100 + withinI ws.2.2 1 100) (by omega)
  unfold sumE at q
  clear h1 h2 h3
  obtain ⟨A, cap, rfl⟩ := hl.form
  obtain ⟨x, y, z⟩ := ws
  unfold gdV
  dsimp only at e1 e2 e3 e4 q ⊢
  obtain ⟨W0, hW⟩ : ∃ W0, W0 = (w.alloc (.cells #[.int .i64 x, .int .i64 y, .int .i64 z, .slice A l.length cap] 53)) := ⟨_, rfl⟩
  have hB0 : Below w.heap.size w W0 := by subst hW; exact (Below.refl _ _).alloc (Nat.le_refl _) _
  have hlt : w.heap.size < W0.heap.size := by subst hW; simp
  have c0 : W0.cell? ⟨w.heap.size, 0, none⟩ = some (.int .i64 x) := by subst hW; go_simp
  have c1 : W0.cell? ⟨w.heap.size, 1, none⟩ = some (.int .i64 y) := by subst hW; go_simp
  have c2 : W0.cell? ⟨w.heap.size, 2, none⟩ = some (.int .i64 z) := by subst hW; go_simp
  have c3 : W0.cell? ⟨w.heap.size, 3, none⟩ = some (.slice A l.length cap) := by subst hW; go_simp
  have hl0 := hl.below hB0
  clear hl
  go_enter Tryz.func24, Tryz.ntmps24
  go_wp2_with fail
  rw [← hW]
  clear hW
  go_quiet (exact Calls.quiet_of_same (refRange9_ok _ _ _ _))
  clear e1 e2 e3 e4 c0 c1 c2
  generalize withinI x 1 100 + withinI y 1 100 + withinI z 1 100 = r at q ⊢
  rename Nat => q1
  have hB1 := below_drewN hB0 q1
  by_cases h0 : r = 0
  · subst h0
    have hwt := q.1 rfl
    clear q
    go_wp2
    all_goals (try (go_ret; exact guideE_no _ (by omega) hB1))
    have hp0 : 0 < l.length := by
      have h : ((l.length : Int) == 0) = false := by assumption
      simp only [beq_eq_false_iff_ne, ne_eq] at h
      omega
    have hf0 : l.length ≤ 32 := by
      have h : (l.length : Int) ≤ 32 := by assumption
      omega
    have hx : ((l.length : Int) == 0) = false := by assumption
    have hy : ((0 : Int) != 0) = false := rfl
    simp only [hx, hy]
    clear hx hy
    go_loopw [3] (fun i wr => ∃ k : Nat, k ≤ l.length ∧ i = .int .i64 k ∧ PreG l k ∧ Below W0.heap.size W0 wr) (fun i _ => l.length - (intOf i).toNat)
    case atStart => exact ⟨0, Nat.zero_le _, rfl, ⟨fun i t h _ => absurd h (Nat.not_lt_zero i), fun i j s t _ h _ _ => absurd h (Nat.not_lt_zero i)⟩, below_drewN (Below.refl _ _) _⟩
    case round =>
      obtain ⟨k, hk, rfl, hp, hX⟩ := hrel
      have hBw := hB0.trans (hX.mono hB0.size)
      have kc : ∀ V, Below W0.heap.size W0 V → V.cell? ⟨w.heap.size, 3, none⟩ = some (.slice A l.length cap) := fun V h => (h.cell (p := ⟨_, _, none⟩) hlt).trans c3
      have c3 := kc _ hX
      rcases Nat.lt_or_eq_of_le hk with hkn | rfl
      · obtain ⟨b, o, s, x1, y1, z1, rfl, -, hb, hc, r0, r1, r2, r3⟩ := (hl0.below hX).cells hkn
        have hi0 : (0 : Int) ≤ k := by omega
        have hi1 : (k : Int) < l.length := by omega
        go_wp2_with (go_at_call 15; refine (refName_ok _ _).mono ?_; rintro e w2 ⟨rn, rfl, hrn, rfl⟩)
        all_goals (try (go_ret; exact guideE_no 8 (by omega) hBw))
        have hrt : (!rn) = false := by assumption
        obtain rfl : rn = true := by simpa using hrt
        have hnm := hrn rfl
        simp only [Bool.not_true]
        clear hrn hrt r0 r1 r2 r3 hb
        go_loopw [4] (fun j wr2 => ∃ m : Nat, m ≤ k ∧ j = .int .i64 m ∧ (∀ (i : Nat) (s' : TabT), i < m → l[i]? = some s' → s'.1 ≠ s) ∧ Below W0.heap.size W0 wr2) (fun j _ => k - (intOf j).toNat)
        case atStart => exact ⟨0, Nat.zero_le _, rfl, fun i s' h _ => absurd h (Nat.not_lt_zero i), hX⟩
        case round =>
          obtain ⟨m, hm, rfl, hd, hY⟩ := hrel
          have hBy := hB0.trans (hY.mono hB0.size)
          have c3 := kc _ hY
          obtain ⟨b, o, s2, x2, y2, z2, e5, -, hb, hc2, r0, r1, r2, r3⟩ := (hl0.below hY).cells hkn
          obtain ⟨rfl, rfl⟩ : _ = b ∧ _ = o := by injection e5 with e6; injection e6 with e7 e8; exact ⟨e7, e8⟩
          obtain ⟨rfl, rfl, rfl, rfl⟩ : s = s2 ∧ x1 = x2 ∧ y1 = y2 ∧ z1 = z2 := by have := hc.symm.trans hc2; simpa using this
          rcases Nat.lt_or_eq_of_le hm with hmn | rfl
          · obtain ⟨b', o', s', x', y', z', e5, -, hb', hc', p0, p1, p2, p3⟩ := (hl0.below hY).cells (k := m) (by omega)
            obtain ⟨rfl, rfl⟩ : _ = b' ∧ _ = o' := by injection e5 with e6; injection e6 with e7 e8; exact ⟨e7, e8⟩
            have hj0 : (0 : Int) ≤ m := by omega
            have hj1 : (m : Int) < k := by omega
            have hj2 : (m : Int) < l.length := by omega
            go_wp2_with fail
            go_quiet (fail)
            cases hss : (s'.toList == s.toList) with
            | true =>
              go_wp2
              go_ret
              exact guideE_no 9 (by omega) (below_drewN hBy _)
            | false =>
              go_wp2
              go_roundw
              case rel =>
                refine ⟨m + 1, hmn, by simp, fun i u hi hu => ?_, below_drewN hY _⟩
                rcases Nat.lt_or_eq_of_le (Nat.le_of_lt_succ hi) with h1 | rfl
                · exact hd i u h1 hu
                · obtain rfl := Option.some.inj (hc'.symm.trans hu)
                  rintro rfl
                  simp at hss
              case measure => simp [intOf]; omega
          · have hcol := fun W => refColour_ok (x1, y1, z1) W
            have hsum := sumE_ok (x1, y1, z1) 0 255
            have hce : (colE (x1, y1, z1) = 0 ∧ ColOk (x1, y1, z1) 0 255) ∨ colE (x1, y1, z1) = 3 := by
              unfold colE
              by_cases h : sumE (x1, y1, z1) 0 255 = 0
              · exact .inl ⟨by rw [if_neg (by omega)], hsum.1 h⟩
              · exact .inr (by rw [if_pos h])
            clear hsum
            unfold colV at hcol
            dsimp only at hcol
            generalize colE (x1, y1, z1) = ce at hcol hce
            rcases hce with ⟨rfl, hok⟩ | rfl
            · go_wp2_with (go_at_call 25; refine (hcol _).mono ?_; rintro e w4 ⟨rfl, hB4⟩)
              go_roundw
              case rel => exact ⟨_, hkn, by simp, preG_step hp hc hnm hok hd, hY.trans (hB4.mono hY.size)⟩
              case measure => simp [intOf]; omega
            · go_wp2_with (go_at_call 25; refine (hcol _).mono ?_; rintro e w4 ⟨rfl, hB4⟩)
              go_ret
              exact guideE_no 3 (by omega) (hBy.trans (hB4.mono hBy.size))
      · go_wp2
        go_ret
        exact ⟨0, rfl, by omega, by omega, fun _ => ⟨hwt, hp0, hf0, fun i t h => hp.at_ i t (List.getElem?_eq_some_iff.1 h).1 h, fun i j s t hji hs ht => hp.nd i j s t hji (List.getElem?_eq_some_iff.1 ht).1 hs ht⟩, hBw⟩
  · clear q
    go_wp2
    go_ret
    exact guideE_no _ (by decide) hB1
end Go.Proofs
end

section
/- Shades: distances of the reference. -/
namespace Go.Proofs
open Go.RowKit
set_option maxHeartbeats 16000000
set_option maxRecDepth 1000000
theorem mul_bd {a b : Int} {A B : Nat} (ha : -(A : Int) ≤ a ∧ a ≤ A) (hb : -(B : Int) ≤ b ∧ b ≤ B) : -((A * B : Nat) : Int) ≤ a * b ∧ a * b ≤ ((A * B : Nat) : Int) := by
  have h1 : a.natAbs ≤ A := by omega
  have h2 : b.natAbs ≤ B := by omega
  have h3 : (a * b).natAbs ≤ A * B := by rw [Int.natAbs_mul]; exact Nat.mul_le_mul h1 h2
  omega
def termD (w x p : Int) : Int := w * (x - p) * (x - p)
def distW (ws a b : Cel) : Int := termD ws.1 a.1 b.1 + termD ws.2.1 a.2.1 b.2.1 + termD ws.2.2 a.2.2 b.2.2
theorem term_wraps {w x p : Int} (hw : -100 ≤ w ∧ w ≤ 100) (hx : -3000 ≤ x ∧ x ≤ 3000) (hp : -3000 ≤ p ∧ p ≤ 3000) :
    IntKind.i64.wrap (x - p) = x - p ∧ IntKind.i64.wrap (w * (x - p)) = w * (x - p) ∧ IntKind.i64.wrap (w * (x - p) * (x - p)) = termD w x p ∧ -3600000000 ≤ termD w x p ∧ termD w x p ≤ 3600000000 := by
  have h1 : -((6000 : Nat) : Int) ≤ x - p ∧ x - p ≤ ((6000 : Nat) : Int) := by omega
  have h2 := mul_bd (A := 100) (a := w) (by omega) h1
  have h3 := mul_bd h2 h1
  unfold termD
  refine ⟨wrap_small (by omega), wrap_small (by omega), wrap_small (by omega), by omega, by omega⟩
theorem refDist_ok (ws a b : Cel) (v : Value) (w : World) (hw : ColOk ws (-100) 100) (ha : ColOk a (-3000) 3000) (hb : ColOk b (-3000) 3000) :
    Calls Tryz.prog 26 #[gdV ws v, colV a, colV b] w fun e w' => e = .returned (.int .i64 (distW ws a b)) ∧ Below w.heap.size w w' := by
  obtain ⟨w0, w1, w2⟩ := ws
  obtain ⟨a0, a1, a2⟩ := a
  obtain ⟨b0, b1, b2⟩ := b
  unfold ColOk at hw ha hb
  dsimp only at hw ha hb
  obtain ⟨p0, q0, s0, l0, m0⟩ := term_wraps hw.1 ha.1 hb.1
  obtain ⟨p1, q1, s1, l1, m1⟩ := term_wraps hw.2.1 ha.2.1 hb.2.1
  obtain ⟨p2, q2, s2, l2, m2⟩ := term_wraps hw.2.2 ha.2.2 hb.2.2
  unfold distW gdV colV
  dsimp only
  generalize termD w0 a0 b0 = t0 at s0 l0 m0 ⊢
  generalize termD w1 a1 b1 = t1 at s1 l1 m1 ⊢
  generalize termD w2 a2 b2 = t2 at s2 l2 m2 ⊢
  have u0 := wrap_small (n := 0 + t0) (by omega)
  have u1 := wrap_small (n := 0 + t0 + t1) (by omega)
  have u2 := wrap_small (n := 0 + t0 + t1 + t2) (by omega)
  rw [Int.zero_add] at u0 u1 u2
  clear hw ha hb l0 m0 l1 m1 l2 m2
  obtain ⟨W0, hW⟩ : ∃ W0, W0 = ((w.alloc (.cells #[.int .i64 w0, .int .i64 w1, .int .i64 w2, v] 53)).alloc (.cells #[.int .i64 a0, .int .i64 a1, .int .i64 a2] 47)).alloc (.cells #[.int .i64 b0, .int .i64 b1, .int .i64 b2] 47) := ⟨_, rfl⟩
  have hB0 : Below w.heap.size w W0 := by subst hW; exact (((Below.refl _ _).alloc (Nat.le_refl _) _).alloc (by simp) _).alloc (by simp; omega) _
  go_enter Tryz.func26, Tryz.ntmps26
  go_wp2_with fail
  have z0 := heap_alloc_new w (.cells #[.int .i64 w0, .int .i64 w1, .int .i64 w2, v] 53)
  rw [← hW]
  have c0 : W0.cell? ⟨w.heap.size, 0, none⟩ = some (.int .i64 w0) := by subst hW; go_simp
  have c1 : W0.cell? ⟨w.heap.size, 1, none⟩ = some (.int .i64 w1) := by subst hW; go_simp
  have c2 : W0.cell? ⟨w.heap.size, 2, none⟩ = some (.int .i64 w2) := by subst hW; go_simp
  have d0 : W0.cell? ⟨w.heap.size + 1, 0, none⟩ = some (.int .i64 a0) := by subst hW; go_simp
  have d1 : W0.cell? ⟨w.heap.size + 1, 1, none⟩ = some (.int .i64 a1) := by subst hW; go_simp
  have d2 : W0.cell? ⟨w.heap.size + 1, 2, none⟩ = some (.int .i64 a2) := by subst hW; go_simp
  have f0 : W0.cell? ⟨w.heap.size + 1 + 1, 0, none⟩ = some (.int .i64 b0) := by subst hW; go_simp
  have f1 : W0.cell? ⟨w.heap.size + 1 + 1, 1, none⟩ = some (.int .i64 b1) := by subst hW; go_simp
  have f2 : W0.cell? ⟨w.heap.size + 1 + 1, 2, none⟩ = some (.int .i64 b2) := by subst hW; go_simp
  clear hW z0
  refine wp_loop_rounds 4 ?_
  rw [rounds_succ]
  go_wp2_with fail
  go_quiet (fail)
  rename Nat => n1
  go_wp2
  rw [rounds_succ]
  go_wp2_with fail
  go_quiet (fail)
  rename Nat => n2
  go_wp2
  rw [rounds_succ]
  go_wp2_with fail
  go_quiet (fail)
  rename Nat => n3
  go_wp2
  rw [rounds_succ]
  go_wp2
  go_ret
  exact ⟨rfl, below_drewN hB0 _⟩
end Go.Proofs
end

section
/- Shades: shadeLess, Far of the reference; distance, mixed of the program. -/
namespace Go.Proofs
open Go.RowKit Go.MapKept
set_option maxHeartbeats 16000000
set_option maxRecDepth 1000000
def lessC (c : Cel) : Cel := (255 - c.1, 255 - c.2.1, 255 - c.2.2)
theorem eq_int3 (n : Nat) (a b : Int) (w : World) : (Op.equalIn (n + 1) 3 (.int .i64 a) (.int .i64 b)).run Tryz.prog w = .ok (a == b) w := run_equalIn_int w n 3 .i64 .i64 a b Tryz.underlying3
theorem equal_col (c d : Cel) (w : World) : (Op.equalIn 10000 47 (colV c) (colV d)).run Tryz.prog w = .ok (decide (c = d)) w := by
  obtain ⟨c1, c2, c3⟩ := c
  obtain ⟨d1, d2, d3⟩ := d
  unfold colV
  dsimp only
  have p0 : ∀ (a b c : Int) (w : World), (part 3 #[.int .i64 a, .int .i64 b, .int .i64 c] 0).run Tryz.prog w = .ok (.int .i64 a) w := fun a b c w => run_part_plain w (by kernel_rfl) rfl
  have p1 : ∀ (a b c : Int) (w : World), (part 3 #[.int .i64 a, .int .i64 b, .int .i64 c] 1).run Tryz.prog w = .ok (.int .i64 b) w := fun a b c w => run_part_plain w (by kernel_rfl) rfl
  have p2 : ∀ (a b c : Int) (w : World), (part 3 #[.int .i64 a, .int .i64 b, .int .i64 c] 2).run Tryz.prog w = .ok (.int .i64 c) w := fun a b c w => run_part_plain w (by kernel_rfl) rfl
  change (Op.equalIn (9999 + 1) _ _ _).run _ _ = _
  unfold Op.equalIn
  simp [run_underlying Tryz.underlying47, eq_int3 9998, p0, p1, p2, List.range']
  by_cases h1 : c1 = d1 <;> by_cases h2 : c2 = d2 <;> by_cases h3 : c3 = d3 <;> simp [h1, h2, h3]
theorem index_col (a b c : Int) (w : World) : (Instr.index 47 (.agg #[.int .i64 a, .int .i64 b, .int .i64 c]) (.int .i64 0)).run Tryz.prog w = .ok (.int .i64 a) w ∧ (Instr.index 47 (.agg #[.int .i64 a, .int .i64 b, .int .i64 c]) (.int .i64 1)).run Tryz.prog w = .ok (.int .i64 b) w ∧ (Instr.index 47 (.agg #[.int .i64 a, .int .i64 b, .int .i64 c]) (.int .i64 2)).run Tryz.prog w = .ok (.int .i64 c) w := by
  refine ⟨?_, ?_, ?_⟩ <;> kernel_rfl
/-- The colour that is wanted, with the weights. -/
def tgtV (ws b : Cel) : Value := .agg #[.int .i64 ws.1, .int .i64 ws.2.1, .int .i64 ws.2.2, .int .i64 b.1, .int .i64 b.2.1, .int .i64 b.2.2]
theorem distW_self (ws a : Cel) : distW ws a a = 0 := by unfold distW termD; simp
theorem shDist_ok (ws b a : Cel) (w : World) (hw : ColOk ws (-100) 100) (ha : ColOk a (-3000) 3000) (hb : ColOk b (-3000) 3000) :
    Calls Tryz.prog 56 #[tgtV ws b, colV a] w fun e w' => e = .returned (.int .i64 (distW ws a b)) ∧ Below w.heap.size w w' := by
  have heq := fun W => equal_col a b W
  have hself : decide (a = b) = true → distW ws a b = 0 := fun h => by rw [of_decide_eq_true h]; exact distW_self ws b
  obtain ⟨w0, w1, w2⟩ := ws
  obtain ⟨a0, a1, a2⟩ := a
  obtain ⟨b0, b1, b2⟩ := b
  unfold ColOk at hw ha hb
  dsimp only at hw ha hb
  obtain ⟨p0, q0, s0, l0, m0⟩ := term_wraps hw.1 ha.1 hb.1
  obtain ⟨p1, q1, s1, l1, m1⟩ := term_wraps hw.2.1 ha.2.1 hb.2.1
  obtain ⟨p2, q2, s2, l2, m2⟩ := term_wraps hw.2.2 ha.2.2 hb.2.2
  unfold distW at hself
  unfold distW tgtV
  unfold colV at heq ⊢
  dsimp only at hself heq ⊢
  generalize decide ((a0, a1, a2) = (b0, b1, b2)) = r at heq hself
  generalize termD w0 a0 b0 = t0 at s0 l0 m0 hself ⊢
  generalize termD w1 a1 b1 = t1 at s1 l1 m1 hself ⊢
  generalize termD w2 a2 b2 = t2 at s2 l2 m2 hself ⊢
  have u0 := wrap_small (n := 0 + t0) (by omega)
  have u1 := wrap_small (n := 0 + t0 + t1) (by omega)
  have u2 := wrap_small (n := 0 + t0 + t1 + t2) (by omega)
  rw [Int.zero_add] at u0 u1 u2
  clear hw ha hb l0 m0 l1 m1 l2 m2
  obtain ⟨W0, hW⟩ : ∃ W0, W0 = (w.alloc (.cells #[.int .i64 w0, .int .i64 w1, .int .i64 w2, .int .i64 b0, .int .i64 b1, .int .i64 b2] 121)).alloc (.cells #[.int .i64 a0, .int .i64 a1, .int .i64 a2] 47) := ⟨_, rfl⟩
  have hB0 : Below w.heap.size w W0 := by subst hW; exact ((Below.refl _ _).alloc (Nat.le_refl _) _).alloc (by simp) _
  go_enter Tryz.func56, Tryz.ntmps56
  go_wp2_with fail
  rw [← hW]
  have c0 : W0.cell? ⟨w.heap.size, 0, none⟩ = some (.int .i64 w0) := by subst hW; go_simp
  have c1 : W0.cell? ⟨w.heap.size, 1, none⟩ = some (.int .i64 w1) := by subst hW; go_simp
  have c2 : W0.cell? ⟨w.heap.size, 2, none⟩ = some (.int .i64 w2) := by subst hW; go_simp
  have d0 : W0.cell? ⟨w.heap.size, 3, none⟩ = some (.int .i64 b0) := by subst hW; go_simp
  have d1 : W0.cell? ⟨w.heap.size, 4, none⟩ = some (.int .i64 b1) := by subst hW; go_simp
  have d2 : W0.cell? ⟨w.heap.size, 5, none⟩ = some (.int .i64 b2) := by subst hW; go_simp
  have f0 : W0.cell? ⟨w.heap.size + 1, 0, none⟩ = some (.int .i64 a0) := by subst hW; go_simp
  have f1 : W0.cell? ⟨w.heap.size + 1, 1, none⟩ = some (.int .i64 a1) := by subst hW; go_simp
  have f2 : W0.cell? ⟨w.heap.size + 1, 2, none⟩ = some (.int .i64 a2) := by subst hW; go_simp
  go_wp2
  · have hr : r = true := by assumption
    have hs := hself hr
    clear hself
    go_ret
    refine ⟨?_, hB0⟩
    rw [hs]
    rfl
  · clear hself heq
    have i0 := fun W => (index_col w0 w1 w2 W).1
    have i1 := fun W => (index_col w0 w1 w2 W).2.1
    have i2 := fun W => (index_col w0 w1 w2 W).2.2
    refine wp_loop_rounds 4 ?_
    rw [rounds_succ]
    go_wp2_with fail
    go_quiet (fail)
    rename Nat => n1
    go_wp2
    rw [rounds_succ]
    go_wp2_with fail
    go_quiet (fail)
    rename Nat => n2
    go_wp2
    rw [rounds_succ]
    go_wp2_with fail
    go_quiet (fail)
    rename Nat => n3
    go_wp2
    rw [rounds_succ]
    go_wp2
    go_ret
    exact ⟨rfl, by rw [← hW]; exact below_drewN hB0 _⟩
end Go.Proofs
end
