import Derived.Test.YtgmcdnabgojaeaaFewR
import Derived.Test.YtgmcdnabgojaeaaCollect
import Derived.Test.YtgmcdnabgojaeaaUnP
section
/- The reference's CheckBox, of a right box. -/
namespace Go.Proofs
open Go.RowKit
set_option maxHeartbeats 8000000
set_option maxRecDepth 1000000
def Wide (b : Cel × Cel) : Prop := b.1.1 ≤ b.2.1 ∧ b.1.2.1 ≤ b.2.2.1 ∧ b.1.2.2 ≤ b.2.2.2
end Go.Proofs
end

section
/- (Box).volume; pure facts of a box's cells. -/
namespace Go.Proofs
open Go.RowKit
set_option maxHeartbeats 8000000
set_option maxRecDepth 1000000
theorem vol_ok (b : Cel × Cel) (h1 : Near b.1 1000) (h2 : Near b.2 1000) (w : World) :
    Calls Try.prog 41 #[boxV b] w fun e w' => e = .returned (.int .i64 (sizeB b)) ∧ Below w.heap.size w w' := by
  obtain ⟨⟨lx, ly, lz⟩, ⟨ux, uy, uz⟩⟩ := b
  unfold Near at h1 h2
  unfold boxV sizeB
  dsimp only at h1 h2 ⊢
  have a1 := wrapL (n := ux - lx) (by omega)
  have a2 := wrapL (n := ux - lx + 1) (by omega)
  have b1 := wrapL (n := uy - ly) (by omega)
  have b2 := wrapL (n := uy - ly + 1) (by omega)
  have c1 := wrapL (n := uz - lz) (by omega)
  have c2 := wrapL (n := uz - lz + 1) (by omega)
  have hp : ∀ p q : Int, -3000 ≤ p → p ≤ 3000 → -3000 ≤ q → q ≤ 3000 → -9000000 ≤ p * q ∧ p * q ≤ 9000000 := fun p q h1 h2 h3 h4 => by
    have e1 : p * q ≤ 3000 * 3000 := by
      have := Int.mul_nonneg (a := 3000 - p) (b := 3000 + q) (by omega) (by omega)
      have := Int.mul_nonneg (a := 3000 + p) (b := 3000 - q) (by omega) (by omega)
      simp only [Int.sub_mul, Int.add_mul, Int.mul_sub, Int.mul_add] at *
      omega
    have e2 : -(3000 * 3000) ≤ p * q := by
      have := Int.mul_nonneg (a := 3000 - p) (b := 3000 - q) (by omega) (by omega)
      have := Int.mul_nonneg (a := 3000 + p) (b := 3000 + q) (by omega) (by omega)
      simp only [Int.sub_mul, Int.add_mul, Int.mul_sub, Int.mul_add] at *
      omega
    omega
  have hq : ∀ p q : Int, -9000000 ≤ p → p ≤ 9000000 → -3000 ≤ q → q ≤ 3000 → -30000000000 ≤ p * q ∧ p * q ≤ 30000000000 := fun p q h1 h2 h3 h4 => by
    have e1 : p * q ≤ 9000000 * 3000 := by
      have := Int.mul_nonneg (a := 9000000 - p) (b := 3000 + q) (by omega) (by omega)
      have := Int.mul_nonneg (a := 9000000 + p) (b := 3000 - q) (by omega) (by omega)
      simp only [Int.sub_mul, Int.add_mul, Int.mul_sub, Int.mul_add] at *
      omega
    have e2 : -(9000000 * 3000) ≤ p * q := by
      have := Int.mul_nonneg (a := 9000000 - p) (b := 3000 - q) (by omega) (by omega)
      have := Int.mul_nonneg (a := 9000000 + p) (b := 3000 + q) (by omega) (by omega)
      simp only [Int.sub_mul, Int.add_mul, Int.mul_sub, Int.mul_add] at *
      omega
    omega
  have p1 := hp (ux - lx + 1) (uy - ly + 1) (by omega) (by omega) (by omega) (by omega)
  have p2 := hq ((ux - lx + 1) * (uy - ly + 1)) (uz - lz + 1) p1.1 p1.2 (by omega) (by omega)
  have d1 := wrapL (n := (ux - lx + 1) * (uy - ly + 1)) (by omega)
  have d2 := wrapL (n := (ux - lx + 1) * (uy - ly + 1) * (uz - lz + 1)) (by omega)
  clear hp hq p1 p2 h1 h2
  go_enter Try.func41, Try.ntmps41
  go_wp2
  go_ret
  exact ⟨rfl, (Below.refl _ _).alloc (Nat.le_refl _) _⟩
theorem mem_upFrom : ∀ (n : Nat) (a x : Int), x ∈ upFrom a n ↔ a ≤ x ∧ x < a + n
  | 0, a, x => by simp [upFrom]
  | n + 1, a, x => by rw [upFrom, List.mem_cons, mem_upFrom n (a + 1) x]; omega
theorem len_upFrom : ∀ (n : Nat) (a : Int), (upFrom a n).length = n
  | 0, _ => rfl
  | n + 1, a => by rw [upFrom, List.length_cons, len_upFrom n (a + 1)]
theorem len_flatMap {α β : Type} (f : α → List β) (k : Nat) : ∀ l : List α, (∀ x ∈ l, (f x).length = k) → (l.flatMap f).length = l.length * k
  | [], _ => by simp
  | x :: l, h => by
    rw [List.flatMap_cons, List.length_append, h x (List.mem_cons_self ..), len_flatMap f k l (fun y hy => h y (List.mem_cons_of_mem _ hy)), List.length_cons, Nat.succ_mul]
    omega
/-- The cells of a box are those within it. -/
theorem mem_boxL (b : Cel × Cel) (c : Cel) : c ∈ boxL b ↔ (b.1.1 ≤ c.1 ∧ c.1 ≤ b.2.1) ∧ (b.1.2.1 ≤ c.2.1 ∧ c.2.1 ≤ b.2.2.1) ∧ (b.1.2.2 ≤ c.2.2 ∧ c.2.2 ≤ b.2.2.2) := by
  obtain ⟨x, y, z⟩ := c
  unfold boxL rowX rowY rowZ
  simp only [List.mem_flatMap, List.mem_map, mem_upFrom, Prod.mk.injEq]
  constructor
  · rintro ⟨x', hx, y', hy, z', hz, rfl, rfl, rfl⟩
    omega
  · rintro ⟨hx, hy, hz⟩
    exact ⟨x, by omega, y, by omega, z, by omega, rfl, rfl, rfl⟩
theorem len_boxL (b : Cel × Cel) (hw : Wide b) : ((boxL b).length : Int) = sizeB b := by
  unfold Wide at hw
  have h : (boxL b).length = (b.2.1 + 1 - b.1.1).toNat * ((b.2.2.1 + 1 - b.1.2.1).toNat * (b.2.2.2 + 1 - b.1.2.2).toNat) := by
    unfold boxL rowX
    rw [len_flatMap _ ((b.2.2.1 + 1 - b.1.2.1).toNat * (b.2.2.2 + 1 - b.1.2.2).toNat), len_upFrom]
    intro x _
    unfold rowY
    rw [len_flatMap _ (b.2.2.2 + 1 - b.1.2.2).toNat, len_upFrom]
    intro y _
    unfold rowZ
    rw [List.length_map, len_upFrom]
  rw [h]
  unfold sizeB
  rw [Int.natCast_mul, Int.natCast_mul, Int.toNat_of_nonneg (by omega), Int.toNat_of_nonneg (by omega), Int.toNat_of_nonneg (by omega), Int.mul_assoc]
  congr 1
  · omega
  · congr 1 <;> omega
theorem upFrom_asc : ∀ (n : Nat) (a : Int), (upFrom a n).Pairwise fun x y => x < y
  | 0, _ => List.Pairwise.nil
  | n + 1, a => by
    rw [upFrom, List.pairwise_cons]
    refine ⟨fun x hx => ?_, upFrom_asc n (a + 1)⟩
    have := (mem_upFrom n (a + 1) x).1 hx
    omega
theorem ltC_iff (x y : Cel) : ltC x y = true ↔ x.1 < y.1 ∨ x.1 = y.1 ∧ (x.2.1 < y.2.1 ∨ x.2.1 = y.2.1 ∧ x.2.2 < y.2.2) := by simp [ltC]
theorem pw_flatMap {α β : Type} {r : α → α → Prop} {s : β → β → Prop} (f : α → List β) : ∀ l : List α, l.Pairwise r → (∀ x ∈ l, (f x).Pairwise s) → (∀ x y, r x y → ∀ p ∈ f x, ∀ q ∈ f y, s p q) → (l.flatMap f).Pairwise s
  | [], _, _, _ => List.Pairwise.nil
  | x :: l, h, h1, h2 => by
    obtain ⟨ha, hb⟩ := List.pairwise_cons.1 h
    rw [List.flatMap_cons, List.pairwise_append]
    refine ⟨h1 x (List.mem_cons_self ..), pw_flatMap f l hb (fun y hy => h1 y (List.mem_cons_of_mem _ hy)) h2, fun p hp q hq => ?_⟩
    obtain ⟨y, hy, hq⟩ := List.mem_flatMap.1 hq
    exact h2 x y (ha y hy) p hp q hq
theorem up_boxL (b : Cel × Cel) : Up (boxL b) := by
  refine pw_flatMap (r := fun x y : Int => x < y) _ _ (upFrom_asc _ _) (fun x _ => ?_) (fun x y hxy p hp q hq => ?_)
  · refine pw_flatMap (r := fun x y : Int => x < y) _ _ (upFrom_asc _ _) (fun y _ => ?_) (fun y y' hxy p hp q hq => ?_)
    · unfold rowZ
      rw [List.pairwise_map]
      refine List.Pairwise.imp (R := fun x y : Int => x < y) ?_ (upFrom_asc _ _)
      intro p q h
      exact (ltC_iff (x, y, p) (x, y, q)).2 (.inr ⟨rfl, .inr ⟨rfl, h⟩⟩)
    · unfold rowZ at hp hq
      obtain ⟨_, _, rfl⟩ := List.mem_map.1 hp
      obtain ⟨_, _, rfl⟩ := List.mem_map.1 hq
      exact (ltC_iff _ _).2 (.inr ⟨rfl, .inl hxy⟩)
  · unfold rowY rowZ at hp hq
    obtain ⟨_, _, hp⟩ := List.mem_flatMap.1 hp
    obtain ⟨_, _, hq⟩ := List.mem_flatMap.1 hq
    obtain ⟨_, _, rfl⟩ := List.mem_map.1 hp
    obtain ⟨_, _, rfl⟩ := List.mem_map.1 hq
    exact (ltC_iff _ _).2 (.inl hxy)
end Go.Proofs
end
