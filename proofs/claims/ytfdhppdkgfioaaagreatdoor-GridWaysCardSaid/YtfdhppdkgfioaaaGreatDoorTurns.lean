import Derived.Test.YtfdhppdkgfioaaaGreatDoorMoved
import Derived.Test.YtfdhppdkgfioaaaGreatDoorWaxBase
section
namespace Go.Proofs
open Go.RowKit
set_option maxHeartbeats 8000000
set_option maxRecDepth 1000000
/-- What a turn's code takes of a vector. -/
def pickI (x y z : Int) : Nat → Int
  | 0 => x
  | 1 => -x
  | 2 => y
  | 3 => -y
  | 4 => z
  | _ => -z
def outV (a b c : Int) : Nat → Array Value
  | 0 => #[.int .i64 0, .int .i64 0, .int .i64 0]
  | 1 => #[.int .i64 a, .int .i64 0, .int .i64 0]
  | 2 => #[.int .i64 a, .int .i64 b, .int .i64 0]
  | _ => #[.int .i64 a, .int .i64 b, .int .i64 c]
theorem of_ok (a b c : Nat) (ha : a < 6) (hb : b < 6) (hc : c < 6) (x y z : Int) (w : World) (k1 : -9000000 ≤ x ∧ x ≤ 9000000) (k2 : -9000000 ≤ y ∧ y ≤ 9000000) (k3 : -9000000 ≤ z ∧ z ≤ 9000000) :
    Calls Tryz.prog 97 #[.agg #[.int .i64 a, .int .i64 b, .int .i64 c], .agg #[.int .i64 x, .int .i64 y, .int .i64 z]] w fun e w' => e = .returned (.agg #[.int .i64 (pickI x y z a), .int .i64 (pickI x y z b), .int .i64 (pickI x y z c)]) ∧ Below w.heap.size w w' := by
  have w1 : wrap64 (-x) = -x := by unfold wrap64; omega
  have w2 : wrap64 (-y) = -y := by unfold wrap64; omega
  have w3 : wrap64 (-z) = -z := by unfold wrap64; omega
  have i0 : ∀ (u v t : Value) W, (Instr.index 148 (.agg #[u, v, t]) (.int .i64 0)).run Tryz.prog W = .ok u W := fun _ _ _ _ => by kernel_rfl
  have i1 : ∀ (u v t : Value) W, (Instr.index 148 (.agg #[u, v, t]) (.int .i64 1)).run Tryz.prog W = .ok v W := fun _ _ _ _ => by kernel_rfl
  have i2 : ∀ (u v t : Value) W, (Instr.index 148 (.agg #[u, v, t]) (.int .i64 2)).run Tryz.prog W = .ok t W := fun _ _ _ _ => by kernel_rfl
  clear k1 k2 k3
  obtain ⟨T, hT⟩ : ∃ T, T = 147 := ⟨_, rfl⟩
  go_enter Tryz.func97, Tryz.ntmps97
  go_wp2
  go_loopw [9] (fun i wr => ∃ k : Nat, k ≤ 3 ∧ i = .int .i64 k ∧ wr = (((w.alloc (.cells #[.int .i64 a, .int .i64 b, .int .i64 c] 148)).alloc (.cells #[.int .i64 x, .int .i64 y, .int .i64 z] 147)).alloc (.cells #[.int .i64 0, .int .i64 0, .int .i64 0] 147)).alloc (.cells (outV (pickI x y z a) (pickI x y z b) (pickI x y z c) k) 147)) (fun i _ => 3 - (intOf i).toNat)
  case atStart => exact ⟨0, Nat.zero_le _, rfl, rfl⟩
  case round =>
    obtain ⟨k, hk, rfl, rfl⟩ := hrel
    obtain rfl | rfl | rfl | rfl : k = 0 ∨ k = 1 ∨ k = 2 ∨ k = 3 := by omega
    · obtain rfl | rfl | rfl | rfl | rfl | rfl : a = 0 ∨ a = 1 ∨ a = 2 ∨ a = 3 ∨ a = 4 ∨ a = 5 := by omega
      all_goals simp only [outV]
      all_goals simp only [pickI]
      all_goals go_wp2
      all_goals exact ⟨⟨1, by omega, rfl, rfl⟩, by decide⟩
    · obtain rfl | rfl | rfl | rfl | rfl | rfl : b = 0 ∨ b = 1 ∨ b = 2 ∨ b = 3 ∨ b = 4 ∨ b = 5 := by omega
      all_goals simp only [outV]
      all_goals generalize hpa : pickI x y z a = pa
      all_goals simp only [pickI]
      all_goals clear hpa
      all_goals go_wp2
      all_goals exact ⟨⟨2, by omega, rfl, rfl⟩, by decide⟩
    · obtain rfl | rfl | rfl | rfl | rfl | rfl : c = 0 ∨ c = 1 ∨ c = 2 ∨ c = 3 ∨ c = 4 ∨ c = 5 := by omega
      all_goals simp only [outV]
      all_goals generalize pickI x y z a = pa
      all_goals generalize pickI x y z b = pb
      all_goals simp only [pickI]
      all_goals go_wp2
      all_goals exact ⟨⟨3, by omega, rfl, rfl⟩, by decide⟩
    · simp only [outV]
      clear hT
      go_wp2
      (try simp only [Exit.inBlock, Exit.then])
      refine bodyPost_ret (results_cell_row rfl _ _ _ 147 #[.int .i64 (pickI x y z a), .int .i64 (pickI x y z b), .int .i64 (pickI x y z c)] (0, 0) _ rfl ?hg Tryz.underlying147 rfl (by kernel_rfl)) rfl ?_
      case hg =>
        have e : ((w.alloc (.cells #[.int .i64 a, .int .i64 b, .int .i64 c] 148)).alloc (.cells #[.int .i64 x, .int .i64 y, .int .i64 z] 147)).heap.size = w.heap.size + 2 := by simp
        have := heap_alloc2_old ((w.alloc (.cells #[.int .i64 a, .int .i64 b, .int .i64 c] 148)).alloc (.cells #[.int .i64 x, .int .i64 y, .int .i64 z] 147)) (.cells #[.int .i64 (pickI x y z a), .int .i64 (pickI x y z b), .int .i64 (pickI x y z c)] 147) (.cells #[.int .i64 (pickI x y z a), .int .i64 (pickI x y z b), .int .i64 (pickI x y z c)] 147)
        rw [e] at this
        exact this
      exact ⟨rfl, ((((Below.refl _ _).alloc (Nat.le_refl _) _).alloc (by simp) _).alloc (by simp; omega) _).alloc (by simp; omega) _⟩
/-- A cell, turned about another one. -/
def turnC (a b c : Nat) (o p : Cel) : Cel := (o.1 + pickI (p.1 - o.1) (p.2.1 - o.2.1) (p.2.2 - o.2.2) a, o.2.1 + pickI (p.1 - o.1) (p.2.1 - o.2.1) (p.2.2 - o.2.2) b, o.2.2 + pickI (p.1 - o.1) (p.2.1 - o.2.1) (p.2.2 - o.2.2) c)
theorem pickI_le {x y z n : Int} (k1 : -n ≤ x ∧ x ≤ n) (k2 : -n ≤ y ∧ y ≤ n) (k3 : -n ≤ z ∧ z ≤ n) (a : Nat) : -n ≤ pickI x y z a ∧ pickI x y z a ≤ n := by
  unfold pickI
  split <;> omega
end Go.Proofs
end

section
namespace Go.Proofs
open Go.RowKit
set_option maxHeartbeats 8000000
set_option maxRecDepth 1000000
theorem turn1_ok (a b c : Nat) (ha : a < 6) (hb : b < 6) (hc : c < 6) (x y z ox oy oz : Int) (p q : Nat) (w : World)
    (h0 : w.cell? ⟨p, 0, none⟩ = some (.int .i64 a)) (h1 : w.cell? ⟨p, 1, none⟩ = some (.int .i64 b)) (h2 : w.cell? ⟨p, 2, none⟩ = some (.int .i64 c)) (hp : p < w.heap.size)
    (g0 : w.cell? ⟨q, 0, none⟩ = some (.int .i64 ox)) (g1 : w.cell? ⟨q, 1, none⟩ = some (.int .i64 oy)) (g2 : w.cell? ⟨q, 2, none⟩ = some (.int .i64 oz)) (hq : q < w.heap.size)
    (k1 : -1000 ≤ x ∧ x ≤ 1000) (k2 : -1000 ≤ y ∧ y ≤ 1000) (k3 : -1000 ≤ z ∧ z ≤ 1000) (j1 : -1000 ≤ ox ∧ ox ≤ 1000) (j2 : -1000 ≤ oy ∧ oy ≤ 1000) (j3 : -1000 ≤ oz ∧ oz ≤ 1000) :
    Calls Tryz.prog 96 #[.agg #[.int .i64 x, .int .i64 y, .int .i64 z], .pointer (some ⟨p, 0, none⟩), .pointer (some ⟨q, 0, none⟩)] w fun e w' => e = .returned (.agg #[.int .i64 (turnC a b c (ox, oy, oz) (x, y, z)).1, .int .i64 (turnC a b c (ox, oy, oz) (x, y, z)).2.1, .int .i64 (turnC a b c (ox, oy, oz) (x, y, z)).2.2]) ∧ Below w.heap.size w w' := by
  unfold turnC
  dsimp only
  have d1 : IntKind.i64.wrap (x - ox) = x - ox := wrapS (by omega)
  have d2 : IntKind.i64.wrap (y - oy) = y - oy := wrapS (by omega)
  have d3 : IntKind.i64.wrap (z - oz) = z - oz := wrapS (by omega)
  have hof := fun W => of_ok a b c ha hb hc (x - ox) (y - oy) (z - oz) W (by omega) (by omega) (by omega)
  have p1 := pickI_le (n := 2000) (x := x - ox) (y := y - oy) (z := z - oz) (by omega) (by omega) (by omega) a
  have p2 := pickI_le (n := 2000) (x := x - ox) (y := y - oy) (z := z - oz) (by omega) (by omega) (by omega) b
  have p3 := pickI_le (n := 2000) (x := x - ox) (y := y - oy) (z := z - oz) (by omega) (by omega) (by omega) c
  generalize pickI (x - ox) (y - oy) (z - oz) a = r1 at hof p1 ⊢
  generalize pickI (x - ox) (y - oy) (z - oz) b = r2 at hof p2 ⊢
  generalize pickI (x - ox) (y - oy) (z - oz) c = r3 at hof p3 ⊢
  have e1 : IntKind.i64.wrap (ox + r1) = ox + r1 := wrapS (by omega)
  have e2 : IntKind.i64.wrap (oy + r2) = oy + r2 := wrapS (by omega)
  have e3 : IntKind.i64.wrap (oz + r3) = oz + r3 := wrapS (by omega)
  have n1 : p ≠ w.heap.size := by omega
  have n2 : p ≠ w.heap.size + 1 := by omega
  have m1 : q ≠ w.heap.size := by omega
  have m2 : q ≠ w.heap.size + 1 := by omega
  clear k1 k2 k3 j1 j2 j3 p1 p2 p3
  obtain ⟨W, hW⟩ : ∃ W, W = (w.alloc (.cells #[.int .i64 x, .int .i64 y, .int .i64 z] 24)).alloc (.cells #[.int .i64 0, .int .i64 0, .int .i64 0] 24) := ⟨_, rfl⟩
  have hBW : Below w.heap.size w W := by subst hW; exact ((Below.refl _ _).alloc (Nat.le_refl _) _).alloc (by simp) _
  have hsz : w.heap.size + 1 < W.heap.size := by subst hW; simp
  have hnw : W.heap[w.heap.size + 1]? = some (.cells #[.int .i64 0, .int .i64 0, .int .i64 0] 24 (0, 0)) := by
    subst hW
    have := heap_alloc_new (w.alloc (.cells #[.int .i64 x, .int .i64 y, .int .i64 z] 24)) (.cells #[.int .i64 0, .int .i64 0, .int .i64 0] 24)
    rw [show (w.alloc (.cells #[.int .i64 x, .int .i64 y, .int .i64 z] 24)).heap.size = w.heap.size + 1 by simp] at this
    exact this
  have f0 : ∀ W', Below W.heap.size W W' → W'.cell? ⟨q, 0, none⟩ = some (.int .i64 ox) ∧ W'.cell? ⟨q, 1, none⟩ = some (.int .i64 oy) ∧ W'.cell? ⟨q, 2, none⟩ = some (.int .i64 oz) := fun W' h => by
    have h' := hBW.trans (h.mono hBW.size)
    exact ⟨(h'.cell (p := ⟨q, 0, none⟩) hq).trans g0, (h'.cell (p := ⟨q, 1, none⟩) hq).trans g1, (h'.cell (p := ⟨q, 2, none⟩) hq).trans g2⟩
  go_enter Tryz.func96, Tryz.ntmps96
  go_wp2_with (go_at_call 97; (refine (hof _).mono ?_; rintro e w2 ⟨rfl, hB2⟩; rw [← hW] at hB2; obtain ⟨q0, q1, q2⟩ := f0 w2 hB2; have hz2 := (hB2.block _ hsz).trans hnw; have o0 : w2.cell? ⟨w.heap.size + 1, 0, none⟩ = some (.int .i64 0) := (by simp [World.cell?, hz2]); have o1 : w2.cell? ⟨w.heap.size + 1, 1, none⟩ = some (.int .i64 0) := (by simp [World.cell?, hz2]); have o2 : w2.cell? ⟨w.heap.size + 1, 2, none⟩ = some (.int .i64 0) := (by simp [World.cell?, hz2]); have fz := fun j => frozen_of_row w2 (w.heap.size + 1) j _ _ hz2; have hq2 : q < w2.heap.size := (by have := hB2.size; have := hBW.size; omega); have hq3 : q ≠ w2.heap.size := (by omega); have hs2 : w.heap.size + 1 < w2.heap.size := (by have := hB2.size; omega); have hs3 : w.heap.size + 1 ≠ w2.heap.size := (by omega)))
  have hB3 : Below w.heap.size w w2 := hBW.trans (hB2.mono hBW.size)
  have g3 := heap_setCell_same _ (w.heap.size + 1) 2 _ _ (.int .i64 (oz + r3)) (heap_setCell_same _ (w.heap.size + 1) 1 _ _ (.int .i64 (oy + r2)) (heap_setCell_same w2 (w.heap.size + 1) 0 _ _ (.int .i64 (ox + r1)) hz2))
  (try simp only [Exit.inBlock, Exit.then])
  refine bodyPost_ret (results_cell_row rfl _ _ _ 24 #[.int .i64 (ox + r1), .int .i64 (oy + r2), .int .i64 (oz + r3)] (0, 0) _ rfl ?hg Tryz.underlying24 rfl (by kernel_rfl)) rfl ?_
  case hg =>
    rw [Below.heap_alloc _ _ _ (by simpa [World.setCell] using hs2)]
    exact g3
  refine ⟨rfl, ?_⟩
  refine Below.alloc (((hB3.setCell (p := ⟨w.heap.size + 1, 0, none⟩) (Nat.le_succ _) _).setCell (p := ⟨w.heap.size + 1, 1, none⟩) (Nat.le_succ _) _).setCell (p := ⟨w.heap.size + 1, 2, none⟩) (Nat.le_succ _) _) ?_ _
  simp [World.setCell]
  omega
end Go.Proofs
end

section
namespace Go.Proofs
open Go.AM Go.RowKit
set_option maxRecDepth 1000000
def turnT : List (Nat × Nat × Nat) := [(0, 2, 4), (0, 3, 5), (0, 4, 3), (0, 5, 2), (1, 2, 5), (1, 3, 4), (1, 4, 2), (1, 5, 3), (2, 0, 5), (2, 1, 4), (2, 4, 0), (2, 5, 1), (3, 0, 4), (3, 1, 5), (3, 4, 1), (3, 5, 0), (4, 0, 2), (4, 1, 3), (4, 2, 1), (4, 3, 0), (5, 0, 3), (5, 1, 2), (5, 2, 0), (5, 3, 1)]
noncomputable def turnsV : Value := .agg #[.int .i64 0, .int .i64 2, .int .i64 4, .int .i64 0, .int .i64 3, .int .i64 5, .int .i64 0, .int .i64 4, .int .i64 3, .int .i64 0, .int .i64 5, .int .i64 2, .int .i64 1, .int .i64 2, .int .i64 5, .int .i64 1, .int .i64 3, .int .i64 4, .int .i64 1, .int .i64 4, .int .i64 2, .int .i64 1, .int .i64 5, .int .i64 3, .int .i64 2, .int .i64 0, .int .i64 5, .int .i64 2, .int .i64 1, .int .i64 4, .int .i64 2, .int .i64 4, .int .i64 0, .int .i64 2, .int .i64 5, .int .i64 1, .int .i64 3, .int .i64 0, .int .i64 4, .int .i64 3, .int .i64 1, .int .i64 5, .int .i64 3, .int .i64 4, .int .i64 1, .int .i64 3, .int .i64 5, .int .i64 0, .int .i64 4, .int .i64 0, .int .i64 2, .int .i64 4, .int .i64 1, .int .i64 3, .int .i64 4, .int .i64 2, .int .i64 1, .int .i64 4, .int .i64 3, .int .i64 0, .int .i64 5, .int .i64 0, .int .i64 3, .int .i64 5, .int .i64 1, .int .i64 2, .int .i64 5, .int .i64 2, .int .i64 0, .int .i64 5, .int .i64 3, .int .i64 1]
theorem turns_runs : (callF Tryz.prog noSum 100000 95 [] h0).map (·.1) = some turnsV := by kernel_rfl
theorem turns_ok (w : World) : Calls Tryz.prog 95 #[] w fun e w' => e = .returned turnsV ∧ Below w.heap.size w w' := by
  have e := turns_runs
  rw [callF_eq] at e
  obtain ⟨⟨v, h'⟩, he, hv⟩ := Option.map_eq_some_iff.1 e
  simp only at hv
  subst hv
  refine (closed_callS wax_names wax_mixed noSum_ok (w := w) he rfl).mono ?_
  rintro e w' ⟨v', θ', rfl, hv, _, hb⟩
  exact ⟨by rw [flat_eq rfl hv], hb⟩
end Go.Proofs
end
