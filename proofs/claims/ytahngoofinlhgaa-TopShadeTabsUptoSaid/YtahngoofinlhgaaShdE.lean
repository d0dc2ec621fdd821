/- Shades: distances of the reference. -/
import Derived.Test.YtahngoofinlhgaaShdD
namespace Go.Proofs
open Go.RowKit
set_option maxHeartbeats 16000000
set_option maxRecDepth 1000000
theorem mul_bd {a b : Int} {A B : Nat} (ha : -(A : Int) ≤ a ∧ a ≤ A) (hb : -(B : Int) ≤ b ∧ b ≤ B) : -((A * B : Nat) : Int) ≤ a * b ∧ a * b ≤ ((A * B : Nat) : Int) := by
  have h1 : a.natAbs ≤ A := by omega
  have h2 : b.natAbs ≤ B := by omega
  have h3 : (a * b).natAbs ≤ A * B := by rw [Int.natAbs_mul]; exact Nat.mul_le_mul h1 h2
  omega
def termD (w x p : Int) : Int := w * (x - p) * (x - p)
def distW (ws a b : Cel) : Int := termD ws.1 a.1 b.1 + termD ws.2.1 a.2.1 b.2.1 + termD ws.2.2 a.2.2 b.2.2
theorem term_wraps {w x p : Int} (hw : -100 ≤ w ∧ w ≤ 100) (hx : -3000 ≤ x ∧ x ≤ 3000) (hp : -3000 ≤ p ∧ p ≤ 3000) :
    IntKind.i64.wrap (x - p) = x - p ∧ IntKind.i64.wrap (w * (x - p)) = w * (x - p) ∧ IntKind.i64.wrap (w * (x - p) * (x - p)) = termD w x p ∧ -3600000000 ≤ termD w x p ∧ termD w x p ≤ 3600000000 := by
  have h1 : -((6000 : Nat) : Int) ≤ x - p ∧ x - p ≤ ((6000 : Nat) : Int) := by omega
  have h2 := mul_bd (A := 100) (a := w) (by omega) h1
  have h3 := mul_bd h2 h1
  unfold termD
  refine ⟨wrap_small (by omega), wrap_small (by omega), wrap_small (by omega), by omega, by omega⟩
theorem refDist_ok (ws a b : Cel) (v : Value) (w : World) (hw : ColOk ws (-100) 100) (ha : ColOk a (-3000) 3000) (hb : ColOk b (-3000) 3000) :
    Calls Try.prog 21 #[gdV ws v, colV a, colV b] w fun e w' => e = .returned (.int .i64 (distW ws a b)) ∧ Below w.heap.size w w' := by
  obtain ⟨w0, w1, w2⟩ := ws
  obtain ⟨a0, a1, a2⟩ := a
  obtain ⟨b0, b1, b2⟩ := b
  unfold ColOk at hw ha hb
  dsimp only at hw ha hb
  obtain ⟨p0, q0, s0, l0, m0⟩ := term_wraps hw.1 ha.1 hb.1
  obtain ⟨p1, q1, s1, l1, m1⟩ := term_wraps hw.2.1 ha.2.1 hb.2.1
  obtain ⟨p2, q2, s2, l2, m2⟩ := term_wraps hw.2.2 ha.2.2 hb.2.2
  unfold distW gdV colV
  dsimp only
  generalize termD w0 a0 b0 = t0 at s0 l0 m0 ⊢
  generalize termD w1 a1 b1 = t1 at s1 l1 m1 ⊢
  generalize termD w2 a2 b2 = t2 at s2 l2 m2 ⊢
  have u0 := wrap_small (n := 0 + t0) (by omega)
  have u1 := wrap_small (n := 0 + t0 + t1) (by omega)
  have u2 := wrap_small (n := 0 + t0 + t1 + t2) (by omega)
  rw [Int.zero_add] at u0 u1 u2
  clear hw ha hb l0 m0 l1 m1 l2 m2
  obtain ⟨W0, hW⟩ : ∃ W0, W0 = ((w.alloc (.cells #[.int .i64 w0, .int .i64 w1, .int .i64 w2, v] 52)).alloc (.cells #[.int .i64 a0, .int .i64 a1, .int .i64 a2] 44)).alloc (.cells #[.int .i64 b0, .int .i64 b1, .int .i64 b2] 44) := ⟨_, rfl⟩
  have hB0 : Below w.heap.size w W0 := by subst hW; exact (((Below.refl _ _).alloc (Nat.le_refl _) _).alloc (by simp) _).alloc (by simp; omega) _
  go_enter Try.func21, Try.ntmps21
  go_wp2_with fail
  have z0 := heap_alloc_new w (.cells #[.int .i64 w0, .int .i64 w1, .int .i64 w2, v] 52)
  rw [← hW]
  have c0 : W0.cell? ⟨w.heap.size, 0, none⟩ = some (.int .i64 w0) := by subst hW; go_simp
  have c1 : W0.cell? ⟨w.heap.size, 1, none⟩ = some (.int .i64 w1) := by subst hW; go_simp
  have c2 : W0.cell? ⟨w.heap.size, 2, none⟩ = some (.int .i64 w2) := by subst hW; go_simp
  have d0 : W0.cell? ⟨w.heap.size + 1, 0, none⟩ = some (.int .i64 a0) := by subst hW; go_simp
  have d1 : W0.cell? ⟨w.heap.size + 1, 1, none⟩ = some (.int .i64 a1) := by subst hW; go_simp
  have d2 : W0.cell? ⟨w.heap.size + 1, 2, none⟩ = some (.int .i64 a2) := by subst hW; go_simp
  have f0 : W0.cell? ⟨w.heap.size + 1 + 1, 0, none⟩ = some (.int .i64 b0) := by subst hW; go_simp
  have f1 : W0.cell? ⟨w.heap.size + 1 + 1, 1, none⟩ = some (.int .i64 b1) := by subst hW; go_simp
  have f2 : W0.cell? ⟨w.heap.size + 1 + 1, 2, none⟩ = some (.int .i64 b2) := by subst hW; go_simp
  clear hW z0
  refine wp_loop_rounds 4 ?_
  rw [rounds_succ]
  go_wp2_with fail
  go_quiet (fail)
  rename Nat => n1
  go_wp2
  rw [rounds_succ]
  go_wp2_with fail
  go_quiet (fail)
  rename Nat => n2
  go_wp2
  rw [rounds_succ]
  go_wp2_with fail
  go_quiet (fail)
  rename Nat => n3
  go_wp2
  rw [rounds_succ]
  go_wp2
  go_ret
  exact ⟨rfl, below_drewN hB0 _⟩
end Go.Proofs
