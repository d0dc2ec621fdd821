import Derived.Test.YtdiddniddohhgaaGreatDoorShdC
import Derived.DeepKeys3
import Derived.Laws.StructEq
import Derived.MapKept
import Derived.WideKeyRuns
section
/- Shades: CheckGuide of the reference. -/
namespace Go.Proofs
open Go.RowKit
set_option maxHeartbeats 16000000
set_option maxRecDepth 1000000
structure GuideOk (ws : Cel) (l : List TabT) : Prop where
  wt : ColOk ws 1 100
  pos : 0 < l.length
  few : l.length ≤ 32
  at_ : ∀ (i : Nat) (t : TabT), l[i]? = some t → NameOk t.1 ∧ ColOk t.2 0 255
  nd : ∀ (i j : Nat) (s t : TabT), j < i → l[j]? = some s → l[i]? = some t → s.1 ≠ t.1
structure PreG (l : List TabT) (k : Nat) : Prop where
  at_ : ∀ (i : Nat) (t : TabT), i < k → l[i]? = some t → NameOk t.1 ∧ ColOk t.2 0 255
  nd : ∀ (i j : Nat) (s t : TabT), j < i → i < k → l[j]? = some s → l[i]? = some t → s.1 ≠ t.1
theorem preG_step {l : List TabT} {k : Nat} {t : TabT} (h : PreG l k) (ht : l[k]? = some t) (hn : NameOk t.1) (hc : ColOk t.2 0 255) (hd : ∀ j s, j < k → l[j]? = some s → s.1 ≠ t.1) : PreG l (k + 1) := by
  refine ⟨fun i u hi hu => ?_, fun i j s u hji hi hs hu => ?_⟩
  · rcases Nat.lt_or_eq_of_le (Nat.le_of_lt_succ hi) with h1 | rfl
    · exact h.at_ i u h1 hu
    · obtain rfl := Option.some.inj (ht.symm.trans hu)
      exact ⟨hn, hc⟩
  · rcases Nat.lt_or_eq_of_le (Nat.le_of_lt_succ hi) with h1 | rfl
    · exact h.nd i j s u hji h1 hs hu
    · obtain rfl := Option.some.inj (ht.symm.trans hu)
      exact hd j s hji hs
def GuideE (ws : Cel) (l : List TabT) (w : World) (e : Ending) (w' : World) : Prop := ∃ n : Int, e = .returned (.int .i64 n) ∧ 0 ≤ n ∧ n ≤ 12 ∧ (n = 0 → GuideOk ws l) ∧ Below w.heap.size w w'
theorem guideE_no {ws : Cel} {l : List TabT} {w w' : World} (n : Int) (h : 1 ≤ n ∧ n ≤ 12) (hb : Below w.heap.size w w') : GuideE ws l w (.returned (.int .i64 n)) w' := ⟨n, rfl, by omega, h.2, fun e => absurd e (by omega), hb⟩
end Go.Proofs
end

section
/- Shades: distances of the reference. -/
namespace Go.Proofs
open Go.RowKit
set_option maxHeartbeats 16000000
set_option maxRecDepth 1000000
theorem mul_bd {a b : Int} {A B : Nat} (ha : -(A : Int) ≤ a ∧ a ≤ A) (hb : -(B : Int) ≤ b ∧ b ≤ B) : -((A * B : Nat) : Int) ≤ a * b ∧ a * b ≤ ((A * B : Nat) : Int) := by
  have h1 : a.natAbs ≤ A := by omega
  have h2 : b.natAbs ≤ B := by omega
  have h3 : (a * b).natAbs ≤ A * B := by rw [Int.natAbs_mul]; exact Nat.mul_le_mul h1 h2
  omega
def termD (w x p : Int) : Int := w * (x - p) * (x - p)
def distW (ws a b : Cel) : Int := termD ws.1 a.1 b.1 + termD ws.2.1 a.2.1 b.2.1 + termD ws.2.2 a.2.2 b.2.2
theorem term_wraps {w x p : Int} (hw : -100 ≤ w ∧ w ≤ 100) (hx : -3000 ≤ x ∧ x ≤ 3000) (hp : -3000 ≤ p ∧ p ≤ 3000) :
    IntKind.i64.wrap (x - p) = x - p ∧ IntKind.i64.wrap (w * (x - p)) = w * (x - p) ∧ IntKind.i64.wrap (w * (x - p) * (x - p)) = termD w x p ∧ -3600000000 ≤ termD w x p ∧ termD w x p ≤ 3600000000 := by
  have h1 : -((6000 : Nat) : Int) ≤ x - p ∧ x - p ≤ ((6000 : Nat) : Int) := by omega
  have h2 := mul_bd (A := 100) (a := w) (by omega) h1
  have h3 := mul_bd h2 h1
  unfold termD
  refine ⟨wrap_small (by omega), wrap_small (by omega), wrap_small (by omega), by omega, by omega⟩
end Go.Proofs
end

section
/- Shades: shadeLess, Far of the reference; distance, mixed of the program. -/
namespace Go.Proofs
open Go.RowKit Go.MapKept
set_option maxHeartbeats 16000000
set_option maxRecDepth 1000000
def lessC (c : Cel) : Cel := (255 - c.1, 255 - c.2.1, 255 - c.2.2)
theorem eq_int3 (n : Nat) (a b : Int) (w : World) : (Op.equalIn (n + 1) 3 (.int .i64 a) (.int .i64 b)).run Tryz.prog w = .ok (a == b) w := run_equalIn_int w n 3 .i64 .i64 a b Tryz.underlying3
theorem equal_col (c d : Cel) (w : World) : (Op.equalIn 10000 78 (colV c) (colV d)).run Tryz.prog w = .ok (decide (c = d)) w := by
  obtain ⟨c1, c2, c3⟩ := c
  obtain ⟨d1, d2, d3⟩ := d
  unfold colV
  dsimp only
  have p0 : ∀ (a b c : Int) (w : World), (part 3 #[.int .i64 a, .int .i64 b, .int .i64 c] 0).run Tryz.prog w = .ok (.int .i64 a) w := fun a b c w => run_part_plain w (by kernel_rfl) rfl
  have p1 : ∀ (a b c : Int) (w : World), (part 3 #[.int .i64 a, .int .i64 b, .int .i64 c] 1).run Tryz.prog w = .ok (.int .i64 b) w := fun a b c w => run_part_plain w (by kernel_rfl) rfl
  have p2 : ∀ (a b c : Int) (w : World), (part 3 #[.int .i64 a, .int .i64 b, .int .i64 c] 2).run Tryz.prog w = .ok (.int .i64 c) w := fun a b c w => run_part_plain w (by kernel_rfl) rfl
  change (Op.equalIn (9999 + 1) _ _ _).run _ _ = _
  unfold Op.equalIn
  simp [run_underlying Tryz.underlying78, eq_int3 9998, p0, p1, p2, List.range']
  by_cases h1 : c1 = d1 <;> by_cases h2 : c2 = d2 <;> by_cases h3 : c3 = d3 <;> simp [h1, h2, h3]
theorem index_col (a b c : Int) (w : World) : (Instr.index 78 (.agg #[.int .i64 a, .int .i64 b, .int .i64 c]) (.int .i64 0)).run Tryz.prog w = .ok (.int .i64 a) w ∧ (Instr.index 78 (.agg #[.int .i64 a, .int .i64 b, .int .i64 c]) (.int .i64 1)).run Tryz.prog w = .ok (.int .i64 b) w ∧ (Instr.index 78 (.agg #[.int .i64 a, .int .i64 b, .int .i64 c]) (.int .i64 2)).run Tryz.prog w = .ok (.int .i64 c) w := by
  refine ⟨?_, ?_, ?_⟩ <;> kernel_rfl
/-- The colour that is wanted, with the weights. -/
def tgtV (ws b : Cel) : Value := .agg #[.int .i64 ws.1, .int .i64 ws.2.1, .int .i64 ws.2.2, .int .i64 b.1, .int .i64 b.2.1, .int .i64 b.2.2]
theorem distW_self (ws a : Cel) : distW ws a a = 0 := by unfold distW termD; simp
theorem shDist_ok (ws b a : Cel) (w : World) (hw : ColOk ws (-100) 100) (ha : ColOk a (-3000) 3000) (hb : ColOk b (-3000) 3000) :
    Calls Tryz.prog 89 #[tgtV ws b, colV a] w fun e w' => e = .returned (.int .i64 (distW ws a b)) ∧ Below w.heap.size w w' := by
  have heq := fun W => equal_col a b W
  have hself : decide (a = b) = true → distW ws a b = 0 := fun h => by rw [of_decide_eq_true h]; exact distW_self ws b
  obtain ⟨w0, w1, w2⟩ := ws
  obtain ⟨a0, a1, a2⟩ := a
  obtain ⟨b0, b1, b2⟩ := b
  unfold ColOk at hw ha hb
  dsimp only at hw ha hb
  obtain ⟨p0, q0, s0, l0, m0⟩ := term_wraps hw.1 ha.1 hb.1
  obtain ⟨p1, q1, s1, l1, m1⟩ := term_wraps hw.2.1 ha.2.1 hb.2.1
  obtain ⟨p2, q2, s2, l2, m2⟩ := term_wraps hw.2.2 ha.2.2 hb.2.2
  unfold distW at hself
  unfold distW tgtV
  unfold colV at heq ⊢
  dsimp only at hself heq ⊢
  generalize decide ((a0, a1, a2) = (b0, b1, b2)) = r at heq hself
  generalize termD w0 a0 b0 = t0 at s0 l0 m0 hself ⊢
  generalize termD w1 a1 b1 = t1 at s1 l1 m1 hself ⊢
  generalize termD w2 a2 b2 = t2 at s2 l2 m2 hself ⊢
  have u0 := wrap_small (n := 0 + t0) (by omega)
  have u1 := wrap_small (n := 0 + t0 + t1) (by omega)
  have u2 := wrap_small (n := 0 + t0 + t1 + t2) (by omega)
  rw [Int.zero_add] at u0 u1 u2
  clear hw ha hb l0 m0 l1 m1 l2 m2
  obtain ⟨W0, hW⟩ : ∃ W0, W0 = (w.alloc (.cells #[.int .i64 w0, .int .i64 w1, .int .i64 w2, .int .i64 b0, .int .i64 b1, .int .i64 b2] 155)).alloc (.cells #[.int .i64 a0, .int .i64 a1, .int .i64 a2] 78) := ⟨_, rfl⟩
  have hB0 : Below w.heap.size w W0 := by subst hW; exact ((Below.refl _ _).alloc (Nat.le_refl _) _).alloc (by simp) _
  go_enter Tryz.func89, Tryz.ntmps89
  go_wp2_with fail
  rw [← hW]
  have c0 : W0.cell? ⟨w.heap.size, 0, none⟩ = some (.int .i64 w0) := by subst hW; go_simp
  have c1 : W0.cell? ⟨w.heap.size, 1, none⟩ = some (.int .i64 w1) := by subst hW; go_simp
  have c2 : W0.cell? ⟨w.heap.size, 2, none⟩ = some (.int .i64 w2) := by subst hW; go_simp
  have d0 : W0.cell? ⟨w.heap.size, 3, none⟩ = some (.int .i64 b0) := by subst hW; go_simp
  have d1 : W0.cell? ⟨w.heap.size, 4, none⟩ = some (.int .i64 b1) := by subst hW; go_simp
  have d2 : W0.cell? ⟨w.heap.size, 5, none⟩ = some (.int .i64 b2) := by subst hW; go_simp
  have f0 : W0.cell? ⟨w.heap.size + 1, 0, none⟩ = some (.int .i64 a0) := by subst hW; go_simp
  have f1 : W0.cell? ⟨w.heap.size + 1, 1, none⟩ = some (.int .i64 a1) := by subst hW; go_simp
  have f2 : W0.cell? ⟨w.heap.size + 1, 2, none⟩ = some (.int .i64 a2) := by subst hW; go_simp
  go_wp2
  · have hr : r = true := by assumption
    have hs := hself hr
    clear hself
    go_ret
    refine ⟨?_, hB0⟩
    rw [hs]
    rfl
  · clear hself heq
    have i0 := fun W => (index_col w0 w1 w2 W).1
    have i1 := fun W => (index_col w0 w1 w2 W).2.1
    have i2 := fun W => (index_col w0 w1 w2 W).2.2
    refine wp_loop_rounds 4 ?_
    rw [rounds_succ]
    go_wp2_with fail
    go_quiet (fail)
    rename Nat => n1
    go_wp2
    rw [rounds_succ]
    go_wp2_with fail
    go_quiet (fail)
    rename Nat => n2
    go_wp2
    rw [rounds_succ]
    go_wp2_with fail
    go_quiet (fail)
    rename Nat => n3
    go_wp2
    rw [rounds_succ]
    go_wp2
    go_ret
    exact ⟨rfl, by rw [← hW]; exact below_drewN hB0 _⟩
end Go.Proofs
end
