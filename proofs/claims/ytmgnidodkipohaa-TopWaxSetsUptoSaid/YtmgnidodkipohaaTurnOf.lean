import Derived.Test.YtmgnidodkipohaaMoved
namespace Go.Proofs
open Go.RowKit
set_option maxHeartbeats 8000000
set_option maxRecDepth 1000000
/-- What a turn's code takes of a vector. -/
def pickI (x y z : Int) : Nat → Int
  | 0 => x
  | 1 => -x
  | 2 => y
  | 3 => -y
  | 4 => z
  | _ => -z
def outV (a b c : Int) : Nat → Array Value
  | 0 => #[.int .i64 0, .int .i64 0, .int .i64 0]
  | 1 => #[.int .i64 a, .int .i64 0, .int .i64 0]
  | 2 => #[.int .i64 a, .int .i64 b, .int .i64 0]
  | _ => #[.int .i64 a, .int .i64 b, .int .i64 c]
theorem of_ok (a b c : Nat) (ha : a < 6) (hb : b < 6) (hc : c < 6) (x y z : Int) (w : World) (k1 : -9000000 ≤ x ∧ x ≤ 9000000) (k2 : -9000000 ≤ y ∧ y ≤ 9000000) (k3 : -9000000 ≤ z ∧ z ≤ 9000000) :
    Calls Try.prog 57 #[.agg #[.int .i64 a, .int .i64 b, .int .i64 c], .agg #[.int .i64 x, .int .i64 y, .int .i64 z]] w fun e w' => e = .returned (.agg #[.int .i64 (pickI x y z a), .int .i64 (pickI x y z b), .int .i64 (pickI x y z c)]) ∧ Below w.heap.size w w' := by
  have w1 : wrap64 (-x) = -x := by unfold wrap64; omega
  have w2 : wrap64 (-y) = -y := by unfold wrap64; omega
  have w3 : wrap64 (-z) = -z := by unfold wrap64; omega
  have i0 : ∀ (u v t : Value) W, (Instr.index 87 (.agg #[u, v, t]) (.int .i64 0)).run Try.prog W = .ok u W := fun _ _ _ _ => by kernel_rfl
  have i1 : ∀ (u v t : Value) W, (Instr.index 87 (.agg #[u, v, t]) (.int .i64 1)).run Try.prog W = .ok v W := fun _ _ _ _ => by kernel_rfl
  have i2 : ∀ (u v t : Value) W, (Instr.index 87 (.agg #[u, v, t]) (.int .i64 2)).run Try.prog W = .ok t W := fun _ _ _ _ => by kernel_rfl
  clear k1 k2 k3
  obtain ⟨T, hT⟩ : ∃ T, T = 86 := ⟨_, rfl⟩
  go_enter Try.func57, Try.ntmps57
  go_wp2
  go_loopw [9] (fun i wr => ∃ k : Nat, k ≤ 3 ∧ i = .int .i64 k ∧ wr = (((w.alloc (.cells #[.int .i64 a, .int .i64 b, .int .i64 c] 87)).alloc (.cells #[.int .i64 x, .int .i64 y, .int .i64 z] 86)).alloc (.cells #[.int .i64 0, .int .i64 0, .int .i64 0] 86)).alloc (.cells (outV (pickI x y z a) (pickI x y z b) (pickI x y z c) k) 86)) (fun i _ => 3 - (intOf i).toNat)
  case atStart => exact ⟨0, Nat.zero_le _, rfl, rfl⟩
  case round =>
    obtain ⟨k, hk, rfl, rfl⟩ := hrel
    obtain rfl | rfl | rfl | rfl : k = 0 ∨ k = 1 ∨ k = 2 ∨ k = 3 := by omega
    · obtain rfl | rfl | rfl | rfl | rfl | rfl : a = 0 ∨ a = 1 ∨ a = 2 ∨ a = 3 ∨ a = 4 ∨ a = 5 := by omega
      all_goals simp only [outV]
      all_goals simp only [pickI]
      all_goals go_wp2
      all_goals exact ⟨⟨1, by omega, rfl, rfl⟩, by decide⟩
    · obtain rfl | rfl | rfl | rfl | rfl | rfl : b = 0 ∨ b = 1 ∨ b = 2 ∨ b = 3 ∨ b = 4 ∨ b = 5 := by omega
      all_goals simp only [outV]
      all_goals generalize hpa : pickI x y z a = pa
      all_goals simp only [pickI]
      all_goals clear hpa
      all_goals go_wp2
      all_goals exact ⟨⟨2, by omega, rfl, rfl⟩, by decide⟩
    · obtain rfl | rfl | rfl | rfl | rfl | rfl : c = 0 ∨ c = 1 ∨ c = 2 ∨ c = 3 ∨ c = 4 ∨ c = 5 := by omega
      all_goals simp only [outV]
      all_goals generalize pickI x y z a = pa
      all_goals generalize pickI x y z b = pb
      all_goals simp only [pickI]
      all_goals go_wp2
      all_goals exact ⟨⟨3, by omega, rfl, rfl⟩, by decide⟩
    · simp only [outV]
      clear hT
      go_wp2
      (try simp only [Exit.inBlock, Exit.then])
      refine bodyPost_ret (results_cell_row rfl _ _ _ 86 #[.int .i64 (pickI x y z a), .int .i64 (pickI x y z b), .int .i64 (pickI x y z c)] (0, 0) _ rfl ?hg Try.underlying86 rfl (by kernel_rfl)) rfl ?_
      case hg =>
        have e : ((w.alloc (.cells #[.int .i64 a, .int .i64 b, .int .i64 c] 87)).alloc (.cells #[.int .i64 x, .int .i64 y, .int .i64 z] 86)).heap.size = w.heap.size + 2 := by simp
        have := heap_alloc2_old ((w.alloc (.cells #[.int .i64 a, .int .i64 b, .int .i64 c] 87)).alloc (.cells #[.int .i64 x, .int .i64 y, .int .i64 z] 86)) (.cells #[.int .i64 (pickI x y z a), .int .i64 (pickI x y z b), .int .i64 (pickI x y z c)] 86) (.cells #[.int .i64 (pickI x y z a), .int .i64 (pickI x y z b), .int .i64 (pickI x y z c)] 86)
        rw [e] at this
        exact this
      exact ⟨rfl, ((((Below.refl _ _).alloc (Nat.le_refl _) _).alloc (by simp) _).alloc (by simp; omega) _).alloc (by simp; omega) _⟩
/-- A cell, turned about another one. -/
def turnC (a b c : Nat) (o p : Cel) : Cel := (o.1 + pickI (p.1 - o.1) (p.2.1 - o.2.1) (p.2.2 - o.2.2) a, o.2.1 + pickI (p.1 - o.1) (p.2.1 - o.2.1) (p.2.2 - o.2.2) b, o.2.2 + pickI (p.1 - o.1) (p.2.1 - o.2.1) (p.2.2 - o.2.2) c)
theorem pickI_le {x y z n : Int} (k1 : -n ≤ x ∧ x ≤ n) (k2 : -n ≤ y ∧ y ≤ n) (k3 : -n ≤ z ∧ z ≤ n) (a : Nat) : -n ≤ pickI x y z a ∧ pickI x y z a ≤ n := by
  unfold pickI
  split <;> omega
end Go.Proofs
