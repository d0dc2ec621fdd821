import Derived.Test.YtllameiilljelaaMoved
section
namespace Go.Proofs
open Go.RowKit
set_option maxHeartbeats 8000000
set_option maxRecDepth 1000000
/-- What a turn's code takes of a vector. -/
def pickI (x y z : Int) : Nat → Int
  | 0 => x
  | 1 => -x
  | 2 => y
  | 3 => -y
  | 4 => z
  | _ => -z
def outV (a b c : Int) : Nat → Array Value
  | 0 => #[.int .i64 0, .int .i64 0, .int .i64 0]
  | 1 => #[.int .i64 a, .int .i64 0, .int .i64 0]
  | 2 => #[.int .i64 a, .int .i64 b, .int .i64 0]
  | _ => #[.int .i64 a, .int .i64 b, .int .i64 c]
theorem of_ok (a b c : Nat) (ha : a < 6) (hb : b < 6) (hc : c < 6) (x y z : Int) (w : World) (k1 : -9000000 ≤ x ∧ x ≤ 9000000) (k2 : -9000000 ≤ y ∧ y ≤ 9000000) (k3 : -9000000 ≤ z ∧ z ≤ 9000000) :
    Calls Try.prog 41 #[.agg #[.int .i64 a, .int .i64 b, .int .i64 c], .agg #[.int .i64 x, .int .i64 y, .int .i64 z]] w fun e w' => e = .returned (.agg #[.int .i64 (pickI x y z a), .int .i64 (pickI x y z b), .int .i64 (pickI x y z c)]) ∧ Below w.heap.size w w' := by
  have w1 : wrap64 (-x) = -x := by unfold wrap64; omega
  have w2 : wrap64 (-y) = -y := by unfold wrap64; omega
  have w3 : wrap64 (-z) = -z := by unfold wrap64; omega
  have i0 : ∀ (u v t : Value) W, (Instr.index 71 (.agg #[u, v, t]) (.int .i64 0)).run Try.prog W = .ok u W := fun _ _ _ _ => by kernel_rfl
  have i1 : ∀ (u v t : Value) W, (Instr.index 71 (.agg #[u, v, t]) (.int .i64 1)).run Try.prog W = .ok v W := fun _ _ _ _ => by kernel_rfl
  have i2 : ∀ (u v t : Value) W, (Instr.index 71 (.agg #[u, v, t]) (.int .i64 2)).run Try.prog W = .ok t W := fun _ _ _ _ => by kernel_rfl
  clear k1 k2 k3
  obtain ⟨T, hT⟩ : ∃ T, T = 70 := ⟨_, rfl⟩
  go_enter Try.func41, Try.ntmps41
  go_wp2
  go_loopw [9] (fun i wr => ∃ k : Nat, k ≤ 3 ∧ i = .int .i64 k ∧ wr = (((w.alloc (.cells #[.int .i64 a, .int .i64 b, .int .i64 c] 71)).alloc (.cells #[.int .i64 x, .int .i64 y, .int .i64 z] 70)).alloc (.cells #[.int .i64 0, .int .i64 0, .int .i64 0] 70)).alloc (.cells (outV (pickI x y z a) (pickI x y z b) (pickI x y z c) k) 70)) (fun i _ => 3 - (intOf i).toNat)
  case atStart => exact ⟨0, Nat.zero_le _, rfl, rfl⟩
  case round =>
    obtain ⟨k, hk, rfl, rfl⟩ := hrel
    obtain rfl | rfl | rfl | rfl : k = 0 ∨ k = 1 ∨ k = 2 ∨ k = 3 := by omega
    · obtain rfl | rfl | rfl | rfl | rfl | rfl : a = 0 ∨ a = 1 ∨ a = 2 ∨ a = 3 ∨ a = 4 ∨ a = 5 := by omega
      all_goals simp only [outV]
      all_goals simp only [pickI]
      all_goals go_wp2
      all_goals exact ⟨⟨1, by omega, rfl, rfl⟩, by decide⟩
    · obtain rfl | rfl | rfl | rfl | rfl | rfl : b = 0 ∨ b = 1 ∨ b = 2 ∨ b = 3 ∨ b = 4 ∨ b = 5 := by omega
      all_goals simp only [outV]
      all_goals generalize hpa : pickI x y z a = pa
      all_goals simp only [pickI]
      all_goals clear hpa
      all_goals go_wp2
      all_goals exact ⟨⟨2, by omega, rfl, rfl⟩, by decide⟩
    · obtain rfl | rfl | rfl | rfl | rfl | rfl : c = 0 ∨ c = 1 ∨ c = 2 ∨ c = 3 ∨ c = 4 ∨ c = 5 := by omega
      all_goals simp only [outV]
      all_goals generalize pickI x y z a = pa
      all_goals generalize pickI x y z b = pb
      all_goals simp only [pickI]
      all_goals go_wp2
      all_goals exact ⟨⟨3, by omega, rfl, rfl⟩, by decide⟩
    · simp only [outV]
      clear hT
      go_wp2
      (try simp only [Exit.inBlock, Exit.then])
      refine bodyPost_ret (results_cell_row rfl _ _ _ 70 #[.int .i64 (pickI x y z a), .int .i64 (pickI x y z b), .int .i64 (pickI x y z c)] (0, 0) _ rfl ?hg Try.underlying70 rfl (by kernel_rfl)) rfl ?_
      case hg =>
        have e : ((w.alloc (.cells #[.int .i64 a, .int .i64 b, .int .i64 c] 71)).alloc (.cells #[.int .i64 x, .int .i64 y, .int .i64 z] 70)).heap.size = w.heap.size + 2 := by simp
        have := heap_alloc2_old ((w.alloc (.cells #[.int .i64 a, .int .i64 b, .int .i64 c] 71)).alloc (.cells #[.int .i64 x, .int .i64 y, .int .i64 z] 70)) (.cells #[.int .i64 (pickI x y z a), .int .i64 (pickI x y z b), .int .i64 (pickI x y z c)] 70) (.cells #[.int .i64 (pickI x y z a), .int .i64 (pickI x y z b), .int .i64 (pickI x y z c)] 70)
        rw [e] at this
        exact this
      exact ⟨rfl, ((((Below.refl _ _).alloc (Nat.le_refl _) _).alloc (by simp) _).alloc (by simp; omega) _).alloc (by simp; omega) _⟩
/-- A cell, turned about another one. -/
def turnC (a b c : Nat) (o p : Cel) : Cel := (o.1 + pickI (p.1 - o.1) (p.2.1 - o.2.1) (p.2.2 - o.2.2) a, o.2.1 + pickI (p.1 - o.1) (p.2.1 - o.2.1) (p.2.2 - o.2.2) b, o.2.2 + pickI (p.1 - o.1) (p.2.1 - o.2.1) (p.2.2 - o.2.2) c)
theorem pickI_le {x y z n : Int} (k1 : -n ≤ x ∧ x ≤ n) (k2 : -n ≤ y ∧ y ≤ n) (k3 : -n ≤ z ∧ z ≤ n) (a : Nat) : -n ≤ pickI x y z a ∧ pickI x y z a ≤ n := by
  unfold pickI
  split <;> omega
end Go.Proofs
end

section
namespace Go.Proofs
open Go.RowKit
set_option maxHeartbeats 8000000
set_option maxRecDepth 1000000
theorem turn1_ok (a b c : Nat) (ha : a < 6) (hb : b < 6) (hc : c < 6) (x y z ox oy oz : Int) (p q : Nat) (w : World)
    (h0 : w.cell? ⟨p, 0, none⟩ = some (.int .i64 a)) (h1 : w.cell? ⟨p, 1, none⟩ = some (.int .i64 b)) (h2 : w.cell? ⟨p, 2, none⟩ = some (.int .i64 c)) (hp : p < w.heap.size)
    (g0 : w.cell? ⟨q, 0, none⟩ = some (.int .i64 ox)) (g1 : w.cell? ⟨q, 1, none⟩ = some (.int .i64 oy)) (g2 : w.cell? ⟨q, 2, none⟩ = some (.int .i64 oz)) (hq : q < w.heap.size)
    (k1 : -1000 ≤ x ∧ x ≤ 1000) (k2 : -1000 ≤ y ∧ y ≤ 1000) (k3 : -1000 ≤ z ∧ z ≤ 1000) (j1 : -1000 ≤ ox ∧ ox ≤ 1000) (j2 : -1000 ≤ oy ∧ oy ≤ 1000) (j3 : -1000 ≤ oz ∧ oz ≤ 1000) :
    Calls Try.prog 40 #[.agg #[.int .i64 x, .int .i64 y, .int .i64 z], .pointer (some ⟨p, 0, none⟩), .pointer (some ⟨q, 0, none⟩)] w fun e w' => e = .returned (.agg #[.int .i64 (turnC a b c (ox, oy, oz) (x, y, z)).1, .int .i64 (turnC a b c (ox, oy, oz) (x, y, z)).2.1, .int .i64 (turnC a b c (ox, oy, oz) (x, y, z)).2.2]) ∧ Below w.heap.size w w' := by
  unfold turnC
  dsimp only
  have d1 : IntKind.i64.wrap (x - ox) = x - ox := wrapS (by omega)
  have d2 : IntKind.i64.wrap (y - oy) = y - oy := wrapS (by omega)
  have d3 : IntKind.i64.wrap (z - oz) = z - oz := wrapS (by omega)
  have hof := fun W => of_ok a b c ha hb hc (x - ox) (y - oy) (z - oz) W (by omega) (by omega) (by omega)
  have p1 := pickI_le (n := 2000) (x := x - ox) (y := y - oy) (z := z - oz) (by omega) (by omega) (by omega) a
  have p2 := pickI_le (n := 2000) (x := x - ox) (y := y - oy) (z := z - oz) (by omega) (by omega) (by omega) b
  have p3 := pickI_le (n := 2000) (x := x - ox) (y := y - oy) (z := z - oz) (by omega) (by omega) (by omega) c
  generalize pickI (x - ox) (y - oy) (z - oz) a = r1 at hof p1 ⊢
  generalize pickI (x - ox) (y - oy) (z - oz) b = r2 at hof p2 ⊢
  generalize pickI (x - ox) (y - oy) (z - oz) c = r3 at hof p3 ⊢
  have e1 : IntKind.i64.wrap (ox + r1) = ox + r1 := wrapS (by omega)
  have e2 : IntKind.i64.wrap (oy + r2) = oy + r2 := wrapS (by omega)
  have e3 : IntKind.i64.wrap (oz + r3) = oz + r3 := wrapS (by omega)
  have n1 : p ≠ w.heap.size := by omega
  have n2 : p ≠ w.heap.size + 1 := by omega
  have m1 : q ≠ w.heap.size := by omega
  have m2 : q ≠ w.heap.size + 1 := by omega
  clear k1 k2 k3 j1 j2 j3 p1 p2 p3
  obtain ⟨W, hW⟩ : ∃ W, W = (w.alloc (.cells #[.int .i64 x, .int .i64 y, .int .i64 z] 26)).alloc (.cells #[.int .i64 0, .int .i64 0, .int .i64 0] 26) := ⟨_, rfl⟩
  have hBW : Below w.heap.size w W := by subst hW; exact ((Below.refl _ _).alloc (Nat.le_refl _) _).alloc (by simp) _
  have hsz : w.heap.size + 1 < W.heap.size := by subst hW; simp
  have hnw : W.heap[w.heap.size + 1]? = some (.cells #[.int .i64 0, .int .i64 0, .int .i64 0] 26 (0, 0)) := by
    subst hW
    have := heap_alloc_new (w.alloc (.cells #[.int .i64 x, .int .i64 y, .int .i64 z] 26)) (.cells #[.int .i64 0, .int .i64 0, .int .i64 0] 26)
    rw [show (w.alloc (.cells #[.int .i64 x, .int .i64 y, .int .i64 z] 26)).heap.size = w.heap.size + 1 by simp] at this
    exact this
  have f0 : ∀ W', Below W.heap.size W W' → W'.cell? ⟨q, 0, none⟩ = some (.int .i64 ox) ∧ W'.cell? ⟨q, 1, none⟩ = some (.int .i64 oy) ∧ W'.cell? ⟨q, 2, none⟩ = some (.int .i64 oz) := fun W' h => by
    have h' := hBW.trans (h.mono hBW.size)
    exact ⟨(h'.cell (p := ⟨q, 0, none⟩) hq).trans g0, (h'.cell (p := ⟨q, 1, none⟩) hq).trans g1, (h'.cell (p := ⟨q, 2, none⟩) hq).trans g2⟩
  go_enter Try.func40, Try.ntmps40
  go_wp2_with (go_at_call 41; (refine (hof _).mono ?_; rintro e w2 ⟨rfl, hB2⟩; rw [← hW] at hB2; obtain ⟨q0, q1, q2⟩ := f0 w2 hB2; have hz2 := (hB2.block _ hsz).trans hnw; have o0 : w2.cell? ⟨w.heap.size + 1, 0, none⟩ = some (.int .i64 0) := (by simp [World.cell?, hz2]); have o1 : w2.cell? ⟨w.heap.size + 1, 1, none⟩ = some (.int .i64 0) := (by simp [World.cell?, hz2]); have o2 : w2.cell? ⟨w.heap.size + 1, 2, none⟩ = some (.int .i64 0) := (by simp [World.cell?, hz2]); have fz := fun j => frozen_of_row w2 (w.heap.size + 1) j _ _ hz2; have hq2 : q < w2.heap.size := (by have := hB2.size; have := hBW.size; omega); have hq3 : q ≠ w2.heap.size := (by omega); have hs2 : w.heap.size + 1 < w2.heap.size := (by have := hB2.size; omega); have hs3 : w.heap.size + 1 ≠ w2.heap.size := (by omega)))
  have hB3 : Below w.heap.size w w2 := hBW.trans (hB2.mono hBW.size)
  have g3 := heap_setCell_same _ (w.heap.size + 1) 2 _ _ (.int .i64 (oz + r3)) (heap_setCell_same _ (w.heap.size + 1) 1 _ _ (.int .i64 (oy + r2)) (heap_setCell_same w2 (w.heap.size + 1) 0 _ _ (.int .i64 (ox + r1)) hz2))
  (try simp only [Exit.inBlock, Exit.then])
  refine bodyPost_ret (results_cell_row rfl _ _ _ 26 #[.int .i64 (ox + r1), .int .i64 (oy + r2), .int .i64 (oz + r3)] (0, 0) _ rfl ?hg Try.underlying26 rfl (by kernel_rfl)) rfl ?_
  case hg =>
    rw [Below.heap_alloc _ _ _ (by simpa [World.setCell] using hs2)]
    exact g3
  refine ⟨rfl, ?_⟩
  refine Below.alloc (((hB3.setCell (p := ⟨w.heap.size + 1, 0, none⟩) (Nat.le_succ _) _).setCell (p := ⟨w.heap.size + 1, 1, none⟩) (Nat.le_succ _) _).setCell (p := ⟨w.heap.size + 1, 2, none⟩) (Nat.le_succ _) _) ?_ _
  simp [World.setCell]
  omega
end Go.Proofs
end
