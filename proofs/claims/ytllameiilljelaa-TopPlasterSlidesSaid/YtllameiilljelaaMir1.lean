import Derived.Test.YtllameiilljelaaShiftR
import Derived.Test.YtllameiilljelaaInsR
section
/- The reference's Mirror. -/
namespace Go.Proofs
open Go.Shelf Go.RowKit Go.Lib Go.Sort
set_option maxHeartbeats 8000000
set_option maxRecDepth 1000000
def mirT (j : Nat) (t : Int) (c : Cel) : Cel := match j with
  | 0 => (2 * t - c.1, c.2.1, c.2.2)
  | 1 => (c.1, 2 * t - c.2.1, c.2.2)
  | _ => (c.1, c.2.1, 2 * t - c.2.2)
end Go.Proofs
end

section
/- grid.Mirror's closure, about any plane. -/
namespace Go.Proofs
open Go.RowKit
set_option maxHeartbeats 8000000
set_option maxRecDepth 1000000
theorem mirrorX1_0 (x y z t : Int) (p q : Nat) (w : World) (h0 : w.cell? ⟨p, 0, none⟩ = some (.int .i64 0)) (h1 : w.cell? ⟨q, 0, none⟩ = some (.int .i64 t)) (hp : p < w.heap.size) (hq : q < w.heap.size)
    (kt : -1000 ≤ t ∧ t ≤ 1000) (k1 : -1000 ≤ x ∧ x ≤ 1000) :
    Calls Try.prog 42 #[.agg #[.int .i64 x, .int .i64 y, .int .i64 z], .pointer (some ⟨p, 0, none⟩), .pointer (some ⟨q, 0, none⟩)] w fun e w' => e = .returned (.agg #[.int .i64 (2 * t - x), .int .i64 y, .int .i64 z]) ∧ Below w.heap.size w w' := by
  have wt : IntKind.i64.wrap (2 * t) = 2 * t := wrapS (by omega)
  have wx : IntKind.i64.wrap (2 * t - x) = 2 * t - x := wrapS (by omega)
  clear kt k1
  have hne : p ≠ w.heap.size := by omega
  have hne1 : p ≠ w.heap.size + 1 := by omega
  have hnq : q ≠ w.heap.size := by omega
  have hnq1 : q ≠ w.heap.size + 1 := by omega
  go_enter Try.func42, Try.ntmps42
  go_wp2
  (try simp only [Exit.inBlock, Exit.then])
  refine bodyPost_ret (results_cell_row rfl _ _ _ 26 #[.int .i64 (2 * t - x), .int .i64 y, .int .i64 z] (0, 0) _ rfl ?_ Try.underlying26 rfl (by kernel_rfl)) rfl ?_
  · have := heap_alloc_new (w.alloc (.cells #[.int .i64 (2 * t - x), .int .i64 y, .int .i64 z] 26)) (.cells #[.int .i64 (2 * t - x), .int .i64 y, .int .i64 z] 26)
    rw [show (w.alloc (.cells #[.int .i64 (2 * t - x), .int .i64 y, .int .i64 z] 26)).heap.size = w.heap.size + 1 by simp] at this
    exact this
  · exact ⟨rfl, ((Below.refl _ _).alloc (Nat.le_refl _) _).alloc (by simp) _⟩
theorem mirrorX1_1 (x y z t : Int) (p q : Nat) (w : World) (h0 : w.cell? ⟨p, 0, none⟩ = some (.int .i64 1)) (h1 : w.cell? ⟨q, 0, none⟩ = some (.int .i64 t)) (hp : p < w.heap.size) (hq : q < w.heap.size)
    (kt : -1000 ≤ t ∧ t ≤ 1000) (k1 : -1000 ≤ y ∧ y ≤ 1000) :
    Calls Try.prog 42 #[.agg #[.int .i64 x, .int .i64 y, .int .i64 z], .pointer (some ⟨p, 0, none⟩), .pointer (some ⟨q, 0, none⟩)] w fun e w' => e = .returned (.agg #[.int .i64 x, .int .i64 (2 * t - y), .int .i64 z]) ∧ Below w.heap.size w w' := by
  have wt : IntKind.i64.wrap (2 * t) = 2 * t := wrapS (by omega)
  have wx : IntKind.i64.wrap (2 * t - y) = 2 * t - y := wrapS (by omega)
  clear kt k1
  have hne : p ≠ w.heap.size := by omega
  have hne1 : p ≠ w.heap.size + 1 := by omega
  have hnq : q ≠ w.heap.size := by omega
  have hnq1 : q ≠ w.heap.size + 1 := by omega
  go_enter Try.func42, Try.ntmps42
  go_wp2
  (try simp only [Exit.inBlock, Exit.then])
  refine bodyPost_ret (results_cell_row rfl _ _ _ 26 #[.int .i64 x, .int .i64 (2 * t - y), .int .i64 z] (0, 0) _ rfl ?_ Try.underlying26 rfl (by kernel_rfl)) rfl ?_
  · have := heap_alloc_new (w.alloc (.cells #[.int .i64 x, .int .i64 (2 * t - y), .int .i64 z] 26)) (.cells #[.int .i64 x, .int .i64 (2 * t - y), .int .i64 z] 26)
    rw [show (w.alloc (.cells #[.int .i64 x, .int .i64 (2 * t - y), .int .i64 z] 26)).heap.size = w.heap.size + 1 by simp] at this
    exact this
  · exact ⟨rfl, ((Below.refl _ _).alloc (Nat.le_refl _) _).alloc (by simp) _⟩
theorem mirrorX1_2 (x y z t : Int) (p q : Nat) (w : World) (h0 : w.cell? ⟨p, 0, none⟩ = some (.int .i64 2)) (h1 : w.cell? ⟨q, 0, none⟩ = some (.int .i64 t)) (hp : p < w.heap.size) (hq : q < w.heap.size)
    (kt : -1000 ≤ t ∧ t ≤ 1000) (k1 : -1000 ≤ z ∧ z ≤ 1000) :
    Calls Try.prog 42 #[.agg #[.int .i64 x, .int .i64 y, .int .i64 z], .pointer (some ⟨p, 0, none⟩), .pointer (some ⟨q, 0, none⟩)] w fun e w' => e = .returned (.agg #[.int .i64 x, .int .i64 y, .int .i64 (2 * t - z)]) ∧ Below w.heap.size w w' := by
  have wt : IntKind.i64.wrap (2 * t) = 2 * t := wrapS (by omega)
  have wx : IntKind.i64.wrap (2 * t - z) = 2 * t - z := wrapS (by omega)
  clear kt k1
  have hne : p ≠ w.heap.size := by omega
  have hne1 : p ≠ w.heap.size + 1 := by omega
  have hnq : q ≠ w.heap.size := by omega
  have hnq1 : q ≠ w.heap.size + 1 := by omega
  go_enter Try.func42, Try.ntmps42
  go_wp2
  (try simp only [Exit.inBlock, Exit.then])
  refine bodyPost_ret (results_cell_row rfl _ _ _ 26 #[.int .i64 x, .int .i64 y, .int .i64 (2 * t - z)] (0, 0) _ rfl ?_ Try.underlying26 rfl (by kernel_rfl)) rfl ?_
  · have := heap_alloc_new (w.alloc (.cells #[.int .i64 x, .int .i64 y, .int .i64 (2 * t - z)] 26)) (.cells #[.int .i64 x, .int .i64 y, .int .i64 (2 * t - z)] 26)
    rw [show (w.alloc (.cells #[.int .i64 x, .int .i64 y, .int .i64 (2 * t - z)] 26)).heap.size = w.heap.size + 1 by simp] at this
    exact this
  · exact ⟨rfl, ((Below.refl _ _).alloc (Nat.le_refl _) _).alloc (by simp) _⟩
end Go.Proofs
end
