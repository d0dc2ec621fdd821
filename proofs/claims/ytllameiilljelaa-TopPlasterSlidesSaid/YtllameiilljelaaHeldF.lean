import Derived.Test.YtllameiilljelaaInsB
import Derived.Test.YtllameiilljelaaInsD
import Derived.Deep.RegionHeld3
section
/- insert.undercuts: pure facts on the cells that come to a cell along a direction, within a box. -/
namespace Go.Proofs
open Go.RowKit
set_option maxHeartbeats 8000000
set_option maxRecDepth 1000000
/-- The cell k steps before another one. -/
def stepC (c d : Cel) (k : Int) : Cel := (c.1 - k * d.1 / d.2.2, c.2.1 - k * d.2.1 / d.2.2, c.2.2 - k)
theorem step0 (c d : Cel) : stepC c d 0 = c := by
  unfold stepC
  simp
/-- How many steps lie within the box. -/
def Steps (b : Cel × Cel) (c d : Cel) (m : Nat) : Prop := (∀ j : Nat, j < m → isInB b (stepC c d j)) ∧ ¬ isInB b (stepC c d m)
theorem steps_least (p : Nat → Prop) : ∀ n : Nat, (∀ j, j < n → p j) ∨ ∃ m, m < n ∧ (∀ j, j < m → p j) ∧ ¬ p m
  | 0 => .inl fun j h => by omega
  | n + 1 => by
    rcases steps_least p n with h | ⟨m, h1, h2⟩
    · by_cases hp : p n
      · exact .inl fun j hj => by
          rcases Nat.lt_or_eq_of_le (Nat.le_of_lt_succ hj) with h' | rfl
          · exact h j h'
          · exact hp
      · exact .inr ⟨n, Nat.lt_succ_self n, h, hp⟩
    · exact .inr ⟨m, Nat.lt_succ_of_lt h1, h2⟩
theorem steps_ex (b : Cel × Cel) (c d : Cel) : ∃ m, Steps b c d m := by
  rcases steps_least (fun j : Nat => isInB b (stepC c d j)) ((c.2.2 - b.1.2.2).toNat + 2) with h | ⟨m, _, h1, h2⟩
  · have := h ((c.2.2 - b.1.2.2).toNat + 1) (by omega)
    unfold isInB stepC at this
    dsimp only at this
    omega
  · exact ⟨m, h1, h2⟩
theorem steps_le {b : Cel × Cel} {c d : Cel} {m : Nat} (h : Steps b c d m) (hb1 : Near b.1 1000) (hc : Near c 1000) : m ≤ 2001 := by
  refine Classical.byContradiction fun hm => ?_
  have := h.1 2001 (by omega)
  unfold isInB stepC at this
  unfold Near at hb1 hc
  dsimp only at this
  omega
/-- One step more moves a part of the way by no more than the direction's part. -/
theorem quot_step {a u z : Int} (hz : 1 ≤ z) (hu : -8 ≤ u ∧ u ≤ 8) : a / z - 8 ≤ (a + u) / z ∧ (a + u) / z ≤ a / z + 8 := by
  have z0 : 0 < z := by omega
  have h1 : (a + 8 * z) / z = a / z + 8 := Int.add_mul_ediv_right a 8 (by omega)
  have h2 : (a + (-8) * z) / z = a / z + (-8) := Int.add_mul_ediv_right a (-8) (by omega)
  have h3 : (a + u) / z ≤ (a + 8 * z) / z := Int.ediv_le_ediv z0 (by omega)
  have h4 : (a + (-8) * z) / z ≤ (a + u) / z := Int.ediv_le_ediv z0 (by omega)
  omega
theorem steps_way {b : Cel × Cel} {c d : Cel} {m j : Nat} (h : Steps b c d m) (hj : j ≤ m) (hb1 : Near b.1 1000) (hb2 : Near b.2 1000) (hc : Near c 1000) (hd : (-8 ≤ d.1 ∧ d.1 ≤ 8) ∧ (-8 ≤ d.2.1 ∧ d.2.1 ≤ 8) ∧ (1 ≤ d.2.2 ∧ d.2.2 ≤ 8)) : Near (wayC d j) 3000 := by
  have hm := steps_le h hb1 hc
  match j, hj with
  | 0, _ =>
    unfold Near wayC
    simp
  | k + 1, hj =>
    have hin := h.1 k (by omega)
    have e1 : ((k + 1 : Nat) : Int) * d.1 = (k : Int) * d.1 + d.1 := by rw [Int.natCast_add, Int.add_mul]; simp
    have e2 : ((k + 1 : Nat) : Int) * d.2.1 = (k : Int) * d.2.1 + d.2.1 := by rw [Int.natCast_add, Int.add_mul]; simp
    have q1 := quot_step (a := (k : Int) * d.1) hd.2.2.1 hd.1
    have q2 := quot_step (a := (k : Int) * d.2.1) hd.2.2.1 hd.2.1
    unfold isInB stepC at hin
    unfold Near at hb1 hb2 hc ⊢
    unfold wayC
    dsimp only at hin ⊢
    rw [e1, e2]
    omega
theorem step_way (c d : Cel) (k : Int) : stepC c d k = (c.1 - (wayC d k).1, c.2.1 - (wayC d k).2.1, c.2.2 - (wayC d k).2.2) := rfl
/-- The steps of one cell are different cells. -/
theorem step_inj {c d : Cel} {i j : Nat} (h : stepC c d i = stepC c d j) : i = j := by
  have := congrArg (fun x : Cel => x.2.2) h
  unfold stepC at this
  dsimp only at this
  omega
end Go.Proofs
end

section
/- insert.undercuts: the volume of an obstacle's box, and what below gives. -/
namespace Go.Proofs
open Go.RowKit
set_option maxHeartbeats 8000000
set_option maxRecDepth 1000000
def volI (b : Cel × Cel) : Int := (b.2.1 - b.1.1 + 1) * (b.2.2.1 - b.1.2.1 + 1) * (b.2.2.2 - b.1.2.2 + 1)
theorem insVolume_ok (b : Cel × Cel) (w : World) (h1 : Near b.1 1000) (h2 : Near b.2 1000) (hw : b.1.1 ≤ b.2.1 ∧ b.1.2.1 ≤ b.2.2.1 ∧ b.1.2.2 ≤ b.2.2.2) :
    Calls Try.prog 57 #[boxV b] w fun e w' => e = .returned (.int .i64 (volI b)) ∧ Below w.heap.size w w' := by
  obtain ⟨⟨lx, ly, lz⟩, ⟨ux, uy, uz⟩⟩ := b
  have hm := fun W => insMinus_ok ux uy uz lx ly lz W (h2.mono (by omega)) (h1.mono (by omega))
  unfold boxV volI
  unfold Near at h1 h2
  dsimp only at hw h1 h2 ⊢
  obtain ⟨p, hp⟩ : ∃ p, p = ux - lx := ⟨_, rfl⟩
  obtain ⟨q, hq⟩ : ∃ q, q = uy - ly := ⟨_, rfl⟩
  obtain ⟨r, hr⟩ : ∃ r, r = uz - lz := ⟨_, rfl⟩
  rw [← hp, ← hq, ← hr] at hm ⊢
  have p0 : 0 ≤ p ∧ p ≤ 2000 := by omega
  have q0 : 0 ≤ q ∧ q ≤ 2000 := by omega
  have r0 : 0 ≤ r ∧ r ≤ 2000 := by omega
  have m1 : 0 ≤ (p + 1) * (q + 1) ∧ (p + 1) * (q + 1) ≤ 2001 * 2001 := ⟨Int.mul_nonneg (by omega) (by omega), Int.mul_le_mul (by omega) (by omega) (by omega) (by omega)⟩
  have m2 : 0 ≤ (p + 1) * (q + 1) * (r + 1) ∧ (p + 1) * (q + 1) * (r + 1) ≤ 2001 * 2001 * 2001 := ⟨Int.mul_nonneg m1.1 (by omega), Int.mul_le_mul m1.2 (by omega) (by omega) (by omega)⟩
  have w1 := wrapS (n := p + 1) (by omega)
  have w2 := wrapS (n := q + 1) (by omega)
  have w3 := wrapS (n := r + 1) (by omega)
  have w4 := wrapL (n := (p + 1) * (q + 1)) (by omega)
  have w5 := wrapL (n := (p + 1) * (q + 1) * (r + 1)) (by omega)
  clear hp hq hr h1 h2 hw p0 q0 r0 m1 m2
  go_enter Try.func57, Try.ntmps57
  go_wp2_with fail
  have hX : Below w.heap.size w (w.alloc (.cells #[.int .i64 lx, .int .i64 ly, .int .i64 lz, .int .i64 ux, .int .i64 uy, .int .i64 uz] 45)) := (Below.refl _ _).alloc (Nat.le_refl _) _
  refine (hm _).mono ?_
  rintro e w2 ⟨rfl, hY⟩
  have hX := hX.trans (hY.mono hX.size)
  clear hm
  go_wp2
  go_ret
  exact ⟨rfl, hX.alloc hX.size _⟩
def obsA (m : Nat) (b : Cel × Cel) : Array Value := #[.map (some m), .int .i64 b.1.1, .int .i64 b.1.2.1, .int .i64 b.1.2.2, .int .i64 b.2.1, .int .i64 b.2.2.1, .int .i64 b.2.2.2]
def celA (c : Cel) : Array Value := #[.int .i64 c.1, .int .i64 c.2.1, .int .i64 c.2.2]
theorem obsBelow_ok (m : Nat) (b : Cel × Cel) (c d : Cel) (w : World) :
    Calls Try.prog 58 #[obsV m b, .agg (celA c), .agg (celA d)] w fun e w' => e = .returned (.func (.func 68) #[] #[.pointer (some ⟨w.heap.size + 1, 0, none⟩), .pointer (some ⟨w.heap.size + 2, 0, none⟩), .pointer (some ⟨w.heap.size, 0, none⟩)]) ∧
      w' = ((w.alloc (.cells (obsA m b) 56)).alloc (.cells (celA c) 26)).alloc (.cells (celA d) 26) := by
  obtain ⟨x, y, z⟩ := c
  obtain ⟨dx, dy, dz⟩ := d
  unfold obsV obsA celA
  dsimp only
  go_enter Try.func58, Try.ntmps58
  go_wp2
  go_ret
  exact ⟨rfl, rfl⟩
theorem mapsKeys_ok (m : Nat) (w : World) :
    Calls Try.prog 60 #[.map (some m)] w fun e w' => e = .returned (.func (.func 69) #[] #[.pointer (some ⟨w.heap.size, 0, none⟩)]) ∧ w' = w.alloc (.cells #[.map (some m)] 54) := by
  go_enter Try.func60, Try.ntmps60
  go_wp2
  go_ret
  exact ⟨rfl, rfl⟩
end Go.Proofs
end

section
/- Steps of a held region by hand: an operation whose guard says no is passed over first. -/
namespace Go.Proofs
theorem held_no {P : Program} {ops : Array Oper} {Q : Exit → Act → World → Prop} {md : Region.Mode} {S : World → Prop} (i : Nat) (d : Option Tmp) {oi : Oper} {fuel : Nat} {listed : Array Bool} {a : Act} {w : World} (hi : ops[i]? = some oi) (hd : oi.dst = d)
    (hs : Region.noSelect ops = true) (hf : Region.free md ops listed i = true) (hr : (Region.ready md ops listed).contains i = true)
    (hQ : ∀ c a w, Q (.panic c) (a.put oi.dst undef) w → Q (.panic c) a w) (hw : Region.wanted oi (yielded ops a.tmps) = false) (hS : S w)
    (h : wpAnyH P md ops Q S fuel (listed.setIfInBounds i true) (a.put d undef) w) : wpAnyH P md ops Q S (fuel + 1) listed a w := by
  subst hd
  exact wpAnyH_take hi hs hf hr hQ (.inr ⟨hw, rfl⟩) hS h
theorem held_yes {P : Program} {ops : Array Oper} {Q : Exit → Act → World → Prop} {md : Region.Mode} {S : World → Prop} (i : Nat) (d : Option Tmp) (v : Value) {oi : Oper} {fuel : Nat} {listed : Array Bool} {a : Act} {w : World} (hi : ops[i]? = some oi) (hd : oi.dst = d)
    (hs : Region.noSelect ops = true) (hf : Region.free md ops listed i = true) (hr : (Region.ready md ops listed).contains i = true)
    (hQ : ∀ c a w, Q (.panic c) (a.put oi.dst v) w → Q (.panic c) a w) (hw : Region.wanted oi (yielded ops a.tmps) = true) (hy : ∀ w, S w → (execOp a.eval oi).run P w = .ok (.value v) w) (hS : S w)
    (h : wpAnyH P md ops Q S fuel (listed.setIfInBounds i true) (a.put d v) w) : wpAnyH P md ops Q S (fuel + 1) listed a w := by
  subst hd
  exact wpAnyH_take hi hs hf hr hQ (.inl ⟨hw, hy⟩) hS h
end Go.Proofs
end
