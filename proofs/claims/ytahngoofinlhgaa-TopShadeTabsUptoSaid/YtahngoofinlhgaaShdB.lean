/- Shades: a colour of the reference, and small functions of the program. -/
import Derived.Test.YtahngoofinlhgaaShdA
namespace Go.Proofs
open Go.RowKit
set_option maxHeartbeats 8000000
set_option maxRecDepth 1000000
theorem within_cases (n lo hi : Int) : 0 ≤ withinI n lo hi ∧ withinI n lo hi ≤ 3 ∧ (withinI n lo hi = 0 ↔ lo ≤ n ∧ n ≤ hi) := by
  unfold withinI
  split
  · rename_i h
    refine ⟨by omega, by omega, by omega⟩
  · refine ⟨by omega, by omega, by omega⟩
theorem wrap_small {n : Int} (h : -1000000000000000 ≤ n ∧ n ≤ 1000000000000000) : IntKind.i64.wrap n = n := by
  simp [IntKind.wrap, IntKind.bits, IntKind.signed]; omega
theorem wrap64_small {n : Int} (h : -1000000000000000 ≤ n ∧ n ≤ 1000000000000000) : wrap64 n = n := by unfold wrap64; omega
theorem below_drewN {B : Nat} {w w' : World} (h : Below B w w') (n : Nat) : Below B w (w'.drewN n) := ⟨h.os, h.tape, h.output, h.size, h.block⟩
def ColOk (c : Cel) (lo hi : Int) : Prop := (lo ≤ c.1 ∧ c.1 ≤ hi) ∧ (lo ≤ c.2.1 ∧ c.2.1 ≤ hi) ∧ (lo ≤ c.2.2 ∧ c.2.2 ≤ hi)
def sumE (c : Cel) (lo hi : Int) : Int := withinI c.1 lo hi + withinI c.2.1 lo hi + withinI c.2.2 lo hi
theorem sumE_ok (c : Cel) (lo hi : Int) : sumE c lo hi = 0 ↔ ColOk c lo hi := by
  unfold sumE ColOk
  have h1 := within_cases c.1 lo hi
  have h2 := within_cases c.2.1 lo hi
  have h3 := within_cases c.2.2 lo hi
  constructor
  · intro h
    exact ⟨h1.2.2.1 (by omega), h2.2.2.1 (by omega), h3.2.2.1 (by omega)⟩
  · rintro ⟨a, b, c⟩
    rw [h1.2.2.2 a, h2.2.2.2 b, h3.2.2.2 c]
    rfl
def colE (c : Cel) : Int := if sumE c 0 255 ≠ 0 then 3 else 0
theorem refColour_ok (c : Cel) (w : World) : Calls Try.prog 18 #[colV c] w fun e w' => e = .returned (.int .i64 (colE c)) ∧ Below w.heap.size w w' := by
  have h1 := within_cases c.1 0 255
  have h2 := within_cases c.2.1 0 255
  have h3 := within_cases c.2.2 0 255
  have e1 := wrap64_small (n := withinI c.1 0 255 + withinI c.2.1 0 255) (by omega)
  have e2 := wrap64_small (n := withinI c.1 0 255 + withinI c.2.1 0 255 + withinI c.2.2 0 255) (by omega)
  have e3 := wrap_small (n := withinI c.1 0 255 + withinI c.2.1 0 255) (by omega)
  have e4 := wrap_small (n := withinI c.1 0 255 + withinI c.2.1 0 255 + withinI c.2.2 0 255) (by omega)
  have q0 : sumE c 0 255 = 0 → colE c = 0 := fun h => by unfold colE; rw [if_neg (by omega)]
  have q1 : sumE c 0 255 ≠ 0 → colE c = 3 := fun h => by unfold colE; rw [if_pos h]
  generalize colE c = q at q0 q1 ⊢
  unfold sumE at q0 q1
  unfold colV
  clear h1 h2 h3
  obtain ⟨x, y, z⟩ := c
  dsimp only at e1 e2 e3 e4 q0 q1 ⊢
  obtain ⟨W0, hW⟩ : ∃ W0, W0 = (w.alloc (.cells #[.int .i64 x, .int .i64 y, .int .i64 z] 44)) := ⟨_, rfl⟩
  have hB0 : Below w.heap.size w W0 := by subst hW; exact (Below.refl _ _).alloc (Nat.le_refl _) _
  have c0 : W0.cell? ⟨w.heap.size, 0, none⟩ = some (.int .i64 x) := by subst hW; go_simp
  have c1 : W0.cell? ⟨w.heap.size, 1, none⟩ = some (.int .i64 y) := by subst hW; go_simp
  have c2 : W0.cell? ⟨w.heap.size, 2, none⟩ = some (.int .i64 z) := by subst hW; go_simp
  go_enter Try.func18, Try.ntmps18
  go_wp2_with fail
  rw [← hW]
  clear hW
  go_quiet (exact Calls.quiet_of_same (refRange9_ok _ _ _ _))
  clear e1 e2 e3 e4 c0 c1 c2
  generalize withinI x 0 255 + withinI y 0 255 + withinI z 0 255 = r at q0 q1 ⊢
  by_cases h0 : r = 0
  · subst h0
    obtain rfl := q0 rfl
    clear q0 q1
    go_wp2
    go_ret
    exact ⟨rfl, below_drewN hB0 _⟩
  · obtain rfl := q1 h0
    clear q0 q1
    go_wp2
    go_ret
    exact ⟨rfl, below_drewN hB0 _⟩
theorem shWithin_ok (n lo hi : Int) (w : World) : Calls Try.prog 77 #[.int .i64 n, .int .i64 lo, .int .i64 hi] w fun e w' => e = .returned (.int .i64 (withinI n lo hi)) ∧ w' = w := by
  have hw : ∀ (b : Bool) (n : Int) (W : World), Calls Try.prog 31 #[.bool b, .int .i64 n] W fun e w' => e = .returned (.int .i64 (if b then n else 0)) ∧ w' = W := fun b n W => by
    cases b
    · go_enter Try.func31, Try.ntmps31
      go_wp2
      go_ret
      exact ⟨rfl, rfl⟩
    · go_enter Try.func31, Try.ntmps31
      go_wp2
      go_ret
      exact ⟨rfl, rfl⟩
  unfold withinI
  go_enter Try.func77, Try.ntmps77
  go_wp2_with (go_at_call 31; refine (hw _ _ _).mono ?_; rintro e w1 ⟨rfl, rfl⟩)
  all_goals go_ret
  all_goals (refine ⟨?_, rfl⟩; simp_all <;> omega)
end Go.Proofs
