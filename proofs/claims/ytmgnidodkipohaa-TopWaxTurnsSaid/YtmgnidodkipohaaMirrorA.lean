import Derived.Test.YtmgnidodkipohaaMoved
import Derived.Deep.RegionWith
import Derived.Deep.RegionHeld3
namespace Go.Proofs
open Go.RowKit
set_option maxHeartbeats 8000000
set_option maxRecDepth 1000000
def mirrorC (j : Nat) (c : Cel) : Cel := match j with
  | 0 => (-c.1, c.2.1, c.2.2)
  | 1 => (c.1, -c.2.1, c.2.2)
  | _ => (c.1, c.2.1, -c.2.2)
theorem mirror1_ok (j : Nat) (hj : j < 3) (x y z : Int) (p q : Nat) (w : World) (h0 : w.cell? ⟨p, 0, none⟩ = some (.int .i64 j)) (h1 : w.cell? ⟨q, 0, none⟩ = some (.int .i64 0)) (hp : p < w.heap.size) (hq : q < w.heap.size)
    (k1 : -9000000 ≤ x ∧ x ≤ 9000000) (k2 : -9000000 ≤ y ∧ y ≤ 9000000) (k3 : -9000000 ≤ z ∧ z ≤ 9000000) :
    Calls Try.prog 60 #[.agg #[.int .i64 x, .int .i64 y, .int .i64 z], .pointer (some ⟨p, 0, none⟩), .pointer (some ⟨q, 0, none⟩)] w fun e w' => e = .returned (.agg #[.int .i64 (mirrorC j (x, y, z)).1, .int .i64 (mirrorC j (x, y, z)).2.1, .int .i64 (mirrorC j (x, y, z)).2.2]) ∧ Below w.heap.size w w' := by
  have w1 : wrap64 (-x) = -x := by unfold wrap64; omega
  have w2 : wrap64 (-y) = -y := by unfold wrap64; omega
  have w3 : wrap64 (-z) = -z := by unfold wrap64; omega
  clear k1 k2 k3
  have hne : p ≠ w.heap.size := by omega
  have hne1 : p ≠ w.heap.size + 1 := by omega
  have hnq : q ≠ w.heap.size := by omega
  have hnq1 : q ≠ w.heap.size + 1 := by omega
  obtain rfl | rfl | rfl : j = 0 ∨ j = 1 ∨ j = 2 := by omega
  all_goals simp only [mirrorC]
  all_goals go_enter Try.func60, Try.ntmps60
  all_goals go_wp2
  all_goals (try simp only [Exit.inBlock, Exit.then])
  · refine bodyPost_ret (results_cell_row rfl _ _ _ 32 #[.int .i64 (-x), .int .i64 y, .int .i64 z] (0, 0) _ rfl ?_ Try.underlying32 rfl (by kernel_rfl)) rfl ?_
    · have e : (w.alloc (.cells #[.int .i64 (-x), .int .i64 y, .int .i64 z] 32)).heap.size = w.heap.size + 1 := by simp
      have := heap_alloc_new (w.alloc (.cells #[.int .i64 (-x), .int .i64 y, .int .i64 z] 32)) (.cells #[.int .i64 (-x), .int .i64 y, .int .i64 z] 32)
      rw [e] at this
      exact this
    · exact ⟨rfl, ((Below.refl _ _).alloc (Nat.le_refl _) _).alloc (by simp) _⟩
  · refine bodyPost_ret (results_cell_row rfl _ _ _ 32 #[.int .i64 x, .int .i64 (-y), .int .i64 z] (0, 0) _ rfl ?_ Try.underlying32 rfl (by kernel_rfl)) rfl ?_
    · have e : (w.alloc (.cells #[.int .i64 x, .int .i64 (-y), .int .i64 z] 32)).heap.size = w.heap.size + 1 := by simp
      have := heap_alloc_new (w.alloc (.cells #[.int .i64 x, .int .i64 (-y), .int .i64 z] 32)) (.cells #[.int .i64 x, .int .i64 (-y), .int .i64 z] 32)
      rw [e] at this
      exact this
    · exact ⟨rfl, ((Below.refl _ _).alloc (Nat.le_refl _) _).alloc (by simp) _⟩
  · refine bodyPost_ret (results_cell_row rfl _ _ _ 32 #[.int .i64 x, .int .i64 y, .int .i64 (-z)] (0, 0) _ rfl ?_ Try.underlying32 rfl (by kernel_rfl)) rfl ?_
    · have e : (w.alloc (.cells #[.int .i64 x, .int .i64 y, .int .i64 (-z)] 32)).heap.size = w.heap.size + 1 := by simp
      have := heap_alloc_new (w.alloc (.cells #[.int .i64 x, .int .i64 y, .int .i64 (-z)] 32)) (.cells #[.int .i64 x, .int .i64 y, .int .i64 (-z)] 32)
      rw [e] at this
      exact this
    · exact ⟨rfl, ((Below.refl _ _).alloc (Nat.le_refl _) _).alloc (by simp) _⟩
end Go.Proofs
