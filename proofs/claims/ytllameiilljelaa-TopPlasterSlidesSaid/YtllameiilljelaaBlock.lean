import Derived.Test.YtllameiilljelaaMovedG
import Derived.Test.YtllameiilljelaaTurnZ
import Derived.Test.YtllameiilljelaaSliK
import Derived.Test.YtllameiilljelaaFewR
import Derived.Test.YtllameiilljelaaCollP
import Derived.Test.YtllameiilljelaaChkZ
import Derived.Test.YtllameiilljelaaBoundG
section
/- The example of TopPlasterSlides: what its sets are, reckoned. -/
namespace Go.Proofs
open Go.RowKit
set_option maxHeartbeats 8000000
set_option maxRecDepth 1000000
def plaB : List Cel := [(0, 0, 0), (1, 0, 2)]
def plaM : List Cel := [(-1, 0, 2), (0, 0, 0)]
def plaT : List Cel := [(-1, 0, -2), (0, 0, 0)]
def plaU : List Cel := [(-1, 0, 0), (-1, 0, 1)]
theorem pla_up : Up plaB ∧ Up plaM ∧ Up plaT ∧ Up plaU := by
  unfold Up plaB plaM plaT plaU
  refine ⟨?_, ?_, ?_, ?_⟩ <;> (simp; decide)
theorem pla_chk : chkI plaB = 0 ∧ chkI plaM = 0 ∧ chkI plaT = 0 ∧ chkI plaU = 0 := by
  obtain ⟨h1, h2, h3, h4⟩ := pla_up
  refine ⟨chkI_zero.2 ⟨by decide, ?_, h1⟩, chkI_zero.2 ⟨by decide, ?_, h2⟩, chkI_zero.2 ⟨by decide, ?_, h3⟩, chkI_zero.2 ⟨by decide, ?_, h4⟩⟩ <;> (unfold Near; decide)
theorem pla_turn : plaB.map (turnB 4 (0, 0, 0)) = [(0, 0, 0), (-1, 0, -2)] := by decide
theorem pla_mir : plaT.map (mirT 2 0) = [(-1, 0, 2), (0, 0, 0)] := by decide
theorem sort_is {l m : List Cel} (hl : l.Nodup) (hm : Up m) (h : ∀ c, c ∈ l ↔ c ∈ m) : sortC l = m := up_ext (ascUpS (asc_sortC hl)) hm fun c => mem_sortC.trans (h c)
theorem pla_turnS : sortC (plaB.map (turnB 4 (0, 0, 0))) = plaT := by
  rw [pla_turn]
  exact sort_is (by decide) pla_up.2.2.1 fun c => by unfold plaT; simp [or_comm]
theorem pla_mirS : sortC (plaT.map (mirT 2 0)) = plaM := by
  rw [pla_mir]
  exact sort_is (by decide) pla_up.2.1 fun c => Iff.rfl
theorem pla_outT : outI (plaB.map (turnB 4 (0, 0, 0))) = 0 := by
  rw [pla_turn]
  exact outI_nearU (by unfold Near; decide)
theorem pla_outM : outI (plaT.map (mirT 2 0)) = 0 := by
  rw [pla_mir]
  exact outI_nearU (by unfold Near; decide)
def plaK (c : Cel) : Nat := if c = (-1, 0, 2) then 3 else 1
theorem pla_base : baseB plaM = ((-1, 0, 0), (0, 0, 2)) := by decide
theorem pla_steps : ∀ c ∈ plaM, Steps (baseB plaM) c (0, 0, 1) (plaK c) := by
  rw [pla_base]
  intro c hc
  unfold plaM at hc
  simp only [List.mem_cons, List.not_mem_nil, or_false] at hc
  rcases hc with rfl | rfl
  · refine ⟨fun j hj => ?_, ?_⟩
    · have hj : j < 3 := hj
      have : j = 0 ∨ j = 1 ∨ j = 2 := by omega
      rcases this with rfl | rfl | rfl <;> (unfold isInB stepC; decide)
    · unfold isInB stepC; decide
  · refine ⟨fun j hj => ?_, ?_⟩
    · have hj : j < 1 := hj
      obtain rfl : j = 0 := by omega
      unfold isInB stepC; decide
    · unfold isInB stepC; decide
theorem pla_und (c : Cel) : undM plaM (0, 0, 1) plaK plaM.length c ↔ c ∈ plaU := by
  have e1 : stepL (-1, 0, 2) (0, 0, 1) (plaK (-1, 0, 2)) = [(-1, 0, 2), (-1, 0, 1), (-1, 0, 0)] := by decide
  have e2 : stepL (0, 0, 0) (0, 0, 1) (plaK (0, 0, 0)) = [(0, 0, 0)] := by decide
  unfold undM
  rw [List.take_length]
  unfold plaM plaU
  simp only [List.mem_cons, List.not_mem_nil, or_false, not_or]
  constructor
  · rintro ⟨⟨h1, h2⟩, e, rfl | rfl, h⟩
    · rw [e1] at h
      simp only [List.mem_cons, List.not_mem_nil, or_false] at h
      rcases h with h | h | h
      · exact absurd h h1
      · exact .inr h
      · exact .inl h
    · rw [e2] at h
      simp only [List.mem_cons, List.not_mem_nil, or_false] at h
      exact absurd h h2
  · rintro (rfl | rfl)
    · exact ⟨by decide, (-1, 0, 2), .inl rfl, by rw [e1]; simp⟩
    · exact ⟨by decide, (-1, 0, 2), .inl rfl, by rw [e1]; simp⟩
/-- Two cells in a row. -/
theorem sl_two {W : World} {B : Nat} {a b : Cel} (h : W.heap[B]? = some (.cells #[.int .i64 a.1, .int .i64 a.2.1, .int .i64 a.2.2, .int .i64 b.1, .int .i64 b.2.1, .int .i64 b.2.2] 26 (0, 0))) : Sl W (.slice (some ⟨B, 0, none⟩) 2 2) [a, b] := by
  have zl := fun j => cell_of_row W B j _ _ _ h
  have z0 := zl 0
  have z1 := zl 1
  have z2 := zl 2
  have z3 := zl 3
  have z4 := zl 4
  have z5 := zl 5
  simp at z0 z1 z2 z3 z4 z5
  refine Sl.row (l := [a, b]) (cap := 2) (fun i c hc => ?_) (Array.getElem?_eq_some_iff.1 h).1
  match i, hc with
  | 0, hc => simp at hc; subst hc; exact ⟨z0, z1, z2⟩
  | 1, hc => simp at hc; subst hc; exact ⟨z3, z4, z5⟩
theorem plaCell_ok (x y z : Int) (w : World) :
    Calls Try.prog 14 #[.int .i64 x, .int .i64 y, .int .i64 z] w fun e w' => e = .returned (.agg #[.int .i64 x, .int .i64 y, .int .i64 z]) ∧ Below w.heap.size w w' := by
  go_enter Try.func14, Try.ntmps14
  go_wp2
  have hrow : (w.alloc (.cells #[.int .i64 x, .int .i64 y, .int .i64 z] 26)).heap[w.heap.size]? = some (.cells #[.int .i64 x, .int .i64 y, .int .i64 z] 26 (0, 0)) := heap_alloc_new _ _
  have yl := fun j => cell_of_row _ w.heap.size j _ _ _ hrow
  exact bodyPost_ret (v := .agg #[.int .i64 x, .int .i64 y, .int .i64 z]) (by simp [results, Try.results14, go_sem, yl]) rfl ⟨rfl, below_alloc w _⟩
end Go.Proofs
end

section
/- The reference's CheckBox, of a right box. -/
namespace Go.Proofs
open Go.RowKit
set_option maxHeartbeats 8000000
set_option maxRecDepth 1000000
def Wide (b : Cel × Cel) : Prop := b.1.1 ≤ b.2.1 ∧ b.1.2.1 ≤ b.2.2.1 ∧ b.1.2.2 ≤ b.2.2.2
end Go.Proofs
end

section
/- (Box).volume; pure facts of a box's cells. -/
namespace Go.Proofs
open Go.RowKit
set_option maxHeartbeats 8000000
set_option maxRecDepth 1000000
theorem vol_ok (b : Cel × Cel) (h1 : Near b.1 1000) (h2 : Near b.2 1000) (w : World) :
    Calls Try.prog 45 #[boxV b] w fun e w' => e = .returned (.int .i64 (sizeB b)) ∧ Below w.heap.size w w' := by
  obtain ⟨⟨lx, ly, lz⟩, ⟨ux, uy, uz⟩⟩ := b
  unfold Near at h1 h2
  unfold boxV sizeB
  dsimp only at h1 h2 ⊢
  have a1 := wrapL (n := ux - lx) (by omega)
  have a2 := wrapL (n := ux - lx + 1) (by omega)
  have b1 := wrapL (n := uy - ly) (by omega)
  have b2 := wrapL (n := uy - ly + 1) (by omega)
  have c1 := wrapL (n := uz - lz) (by omega)
  have c2 := wrapL (n := uz - lz + 1) (by omega)
  have hp : ∀ p q : Int, -3000 ≤ p → p ≤ 3000 → -3000 ≤ q → q ≤ 3000 → -9000000 ≤ p * q ∧ p * q ≤ 9000000 := fun p q h1 h2 h3 h4 => by
    have e1 : p * q ≤ 3000 * 3000 := by
      have := Int.mul_nonneg (a := 3000 - p) (b := 3000 + q) (by omega) (by omega)
      have := Int.mul_nonneg (a := 3000 + p) (b := 3000 - q) (by omega) (by omega)
      simp only [Int.sub_mul, Int.add_mul, Int.mul_sub, Int.mul_add] at *
      omega
    have e2 : -(3000 * 3000) ≤ p * q := by
      have := Int.mul_nonneg (a := 3000 - p) (b := 3000 - q) (by omega) (by omega)
      have := Int.mul_nonneg (a := 3000 + p) (b := 3000 + q) (by omega) (by omega)
      simp only [Int.sub_mul, Int.add_mul, Int.mul_sub, Int.mul_add] at *
      omega
    omega
  have hq : ∀ p q : Int, -9000000 ≤ p → p ≤ 9000000 → -3000 ≤ q → q ≤ 3000 → -30000000000 ≤ p * q ∧ p * q ≤ 30000000000 := fun p q h1 h2 h3 h4 => by
    have e1 : p * q ≤ 9000000 * 3000 := by
      have := Int.mul_nonneg (a := 9000000 - p) (b := 3000 + q) (by omega) (by omega)
      have := Int.mul_nonneg (a := 9000000 + p) (b := 3000 - q) (by omega) (by omega)
      simp only [Int.sub_mul, Int.add_mul, Int.mul_sub, Int.mul_add] at *
      omega
    have e2 : -(9000000 * 3000) ≤ p * q := by
      have := Int.mul_nonneg (a := 9000000 - p) (b := 3000 - q) (by omega) (by omega)
      have := Int.mul_nonneg (a := 9000000 + p) (b := 3000 + q) (by omega) (by omega)
      simp only [Int.sub_mul, Int.add_mul, Int.mul_sub, Int.mul_add] at *
      omega
    omega
  have p1 := hp (ux - lx + 1) (uy - ly + 1) (by omega) (by omega) (by omega) (by omega)
  have p2 := hq ((ux - lx + 1) * (uy - ly + 1)) (uz - lz + 1) p1.1 p1.2 (by omega) (by omega)
  have d1 := wrapL (n := (ux - lx + 1) * (uy - ly + 1)) (by omega)
  have d2 := wrapL (n := (ux - lx + 1) * (uy - ly + 1) * (uz - lz + 1)) (by omega)
  clear hp hq p1 p2 h1 h2
  go_enter Try.func45, Try.ntmps45
  go_wp2
  go_ret
  exact ⟨rfl, (Below.refl _ _).alloc (Nat.le_refl _) _⟩
theorem mem_upFrom : ∀ (n : Nat) (a x : Int), x ∈ upFrom a n ↔ a ≤ x ∧ x < a + n
  | 0, a, x => by simp [upFrom]
  | n + 1, a, x => by rw [upFrom, List.mem_cons, mem_upFrom n (a + 1) x]; omega
theorem len_upFrom : ∀ (n : Nat) (a : Int), (upFrom a n).length = n
  | 0, _ => rfl
  | n + 1, a => by rw [upFrom, List.length_cons, len_upFrom n (a + 1)]
theorem len_flatMap {α β : Type} (f : α → List β) (k : Nat) : ∀ l : List α, (∀ x ∈ l, (f x).length = k) → (l.flatMap f).length = l.length * k
  | [], _ => by simp
  | x :: l, h => by
    rw [List.flatMap_cons, List.length_append, h x (List.mem_cons_self ..), len_flatMap f k l (fun y hy => h y (List.mem_cons_of_mem _ hy)), List.length_cons, Nat.succ_mul]
    omega
/-- The cells of a box are those within it. -/
theorem mem_boxL (b : Cel × Cel) (c : Cel) : c ∈ boxL b ↔ (b.1.1 ≤ c.1 ∧ c.1 ≤ b.2.1) ∧ (b.1.2.1 ≤ c.2.1 ∧ c.2.1 ≤ b.2.2.1) ∧ (b.1.2.2 ≤ c.2.2 ∧ c.2.2 ≤ b.2.2.2) := by
  obtain ⟨x, y, z⟩ := c
  unfold boxL rowX rowY rowZ
  simp only [List.mem_flatMap, List.mem_map, mem_upFrom, Prod.mk.injEq]
  constructor
  · rintro ⟨x', hx, y', hy, z', hz, rfl, rfl, rfl⟩
    omega
  · rintro ⟨hx, hy, hz⟩
    exact ⟨x, by omega, y, by omega, z, by omega, rfl, rfl, rfl⟩
theorem len_boxL (b : Cel × Cel) (hw : Wide b) : ((boxL b).length : Int) = sizeB b := by
  unfold Wide at hw
  have h : (boxL b).length = (b.2.1 + 1 - b.1.1).toNat * ((b.2.2.1 + 1 - b.1.2.1).toNat * (b.2.2.2 + 1 - b.1.2.2).toNat) := by
    unfold boxL rowX
    rw [len_flatMap _ ((b.2.2.1 + 1 - b.1.2.1).toNat * (b.2.2.2 + 1 - b.1.2.2).toNat), len_upFrom]
    intro x _
    unfold rowY
    rw [len_flatMap _ (b.2.2.2 + 1 - b.1.2.2).toNat, len_upFrom]
    intro y _
    unfold rowZ
    rw [List.length_map, len_upFrom]
  rw [h]
  unfold sizeB
  rw [Int.natCast_mul, Int.natCast_mul, Int.toNat_of_nonneg (by omega), Int.toNat_of_nonneg (by omega), Int.toNat_of_nonneg (by omega), Int.mul_assoc]
  congr 1
  · omega
  · congr 1 <;> omega
theorem upFrom_asc : ∀ (n : Nat) (a : Int), (upFrom a n).Pairwise fun x y => x < y
  | 0, _ => List.Pairwise.nil
  | n + 1, a => by
    rw [upFrom, List.pairwise_cons]
    refine ⟨fun x hx => ?_, upFrom_asc n (a + 1)⟩
    have := (mem_upFrom n (a + 1) x).1 hx
    omega
theorem ltC_iff (x y : Cel) : ltC x y = true ↔ x.1 < y.1 ∨ x.1 = y.1 ∧ (x.2.1 < y.2.1 ∨ x.2.1 = y.2.1 ∧ x.2.2 < y.2.2) := by simp [ltC]
theorem pw_flatMap {α β : Type} {r : α → α → Prop} {s : β → β → Prop} (f : α → List β) : ∀ l : List α, l.Pairwise r → (∀ x ∈ l, (f x).Pairwise s) → (∀ x y, r x y → ∀ p ∈ f x, ∀ q ∈ f y, s p q) → (l.flatMap f).Pairwise s
  | [], _, _, _ => List.Pairwise.nil
  | x :: l, h, h1, h2 => by
    obtain ⟨ha, hb⟩ := List.pairwise_cons.1 h
    rw [List.flatMap_cons, List.pairwise_append]
    refine ⟨h1 x (List.mem_cons_self ..), pw_flatMap f l hb (fun y hy => h1 y (List.mem_cons_of_mem _ hy)) h2, fun p hp q hq => ?_⟩
    obtain ⟨y, hy, hq⟩ := List.mem_flatMap.1 hq
    exact h2 x y (ha y hy) p hp q hq
theorem up_boxL (b : Cel × Cel) : Up (boxL b) := by
  refine pw_flatMap (r := fun x y : Int => x < y) _ _ (upFrom_asc _ _) (fun x _ => ?_) (fun x y hxy p hp q hq => ?_)
  · refine pw_flatMap (r := fun x y : Int => x < y) _ _ (upFrom_asc _ _) (fun y _ => ?_) (fun y y' hxy p hp q hq => ?_)
    · unfold rowZ
      rw [List.pairwise_map]
      refine List.Pairwise.imp (R := fun x y : Int => x < y) ?_ (upFrom_asc _ _)
      intro p q h
      exact (ltC_iff (x, y, p) (x, y, q)).2 (.inr ⟨rfl, .inr ⟨rfl, h⟩⟩)
    · unfold rowZ at hp hq
      obtain ⟨_, _, rfl⟩ := List.mem_map.1 hp
      obtain ⟨_, _, rfl⟩ := List.mem_map.1 hq
      exact (ltC_iff _ _).2 (.inr ⟨rfl, .inl hxy⟩)
  · unfold rowY rowZ at hp hq
    obtain ⟨_, _, hp⟩ := List.mem_flatMap.1 hp
    obtain ⟨_, _, hq⟩ := List.mem_flatMap.1 hq
    obtain ⟨_, _, rfl⟩ := List.mem_map.1 hp
    obtain ⟨_, _, rfl⟩ := List.mem_map.1 hq
    exact (ltC_iff _ _).2 (.inl hxy)
end Go.Proofs
end

section
/- grid.Block, of a box with cells. -/
namespace Go.Proofs
open Go.RowKit
set_option maxHeartbeats 8000000
set_option maxRecDepth 1000000
theorem block_ok (b : Cel × Cel) (h1 : Near b.1 1000) (h2 : Near b.2 1000) (hw : Wide b) (hs : sizeB b ≤ 4096) (w : World) :
    Calls Try.prog 19 #[boxV b] w fun e w' => ∃ v, e = .returned (.tuple #[v, .int .i64 0]) ∧ Own w' w.heap.size v (boxL b) ∧ Below w.heap.size w w' := by
  have hlen : (boxL b).length ≤ 1000000 := by have := len_boxL b hw; omega
  have b1 := badC_near.2 h1
  have b2 := badC_near.2 h2
  have hvol := vol_ok b h1 h2
  have hcel := cells_in b
  have hcol : ∀ (W : World) (Bn : Nat), Bn < W.heap.size → W.heap[Bn]? = some (.cells (boxCells b) 45 (0, 0)) → Calls Try.prog 46 #[.func (.func 62) #[] #[.pointer (some ⟨Bn, 0, none⟩)]] W fun e W' => ∃ v, e = .returned v ∧ Own W' W.heap.size v (boxL b) ∧ Below W.heap.size W W' := fun W Bn hlt hW =>
    collect_ok 62 #[.pointer (some ⟨Bn, 0, none⟩)] (enters_of Try.func62 (by kernel_rfl) rfl) (boxL b) hlen W
      (fun w0 hw0 => cells_stops Fence.wide 2 trivial rfl (by omega) Bn W.heap.size b h1 h2 hlt w0 hw0.size ((hw0.block Bn hlt).trans hW))
  unfold Wide at hw
  obtain ⟨⟨lx, ly, lz⟩, ⟨ux, uy, uz⟩⟩ := b
  dsimp only at b1 b2 hw
  have cc : ∀ x y z W, badC (x, y, z) = false → Calls Try.prog 38 #[.agg #[.int .i64 x, .int .i64 y, .int .i64 z]] W fun e w' => e = .returned (.int .i64 0) ∧ Below W.heap.size W w' := fun x y z W hb => by
    have := checkCellG x y z W
    rw [hb] at this
    exact this
  obtain ⟨w1, w2, w3⟩ := hw
  have n1 : ¬ lx > ux := by omega
  have n2 : ¬ ly > uy := by omega
  have n3 : ¬ lz > uz := by omega
  generalize sizeB ((lx, ly, lz), (ux, uy, uz)) = S at hs hvol
  generalize boxL ((lx, ly, lz), (ux, uy, uz)) = L at hcol hlen ⊢
  unfold boxV at hvol hcel ⊢
  unfold boxCells at hcel hcol
  dsimp only at hvol hcel hcol ⊢
  have hS : ¬ S > 4096 := by omega
  have hB1 : Below w.heap.size w (w.alloc (.cells #[.int .i64 lx, .int .i64 ly, .int .i64 lz, .int .i64 ux, .int .i64 uy, .int .i64 uz] 45)) := (Below.refl _ _).alloc (Nat.le_refl _) _
  obtain ⟨W, hW⟩ : ∃ W, W = w.alloc (.cells #[.int .i64 lx, .int .i64 ly, .int .i64 lz, .int .i64 ux, .int .i64 uy, .int .i64 uz] 45) := ⟨_, rfl⟩
  have d0 : W.cell? ⟨w.heap.size, 0, none⟩ = some (.int .i64 lx) := by subst hW; go_simp
  have d1 : W.cell? ⟨w.heap.size, 1, none⟩ = some (.int .i64 ly) := by subst hW; go_simp
  have d2 : W.cell? ⟨w.heap.size, 2, none⟩ = some (.int .i64 lz) := by subst hW; go_simp
  have d3 : W.cell? ⟨w.heap.size, 3, none⟩ = some (.int .i64 ux) := by subst hW; go_simp
  have d4 : W.cell? ⟨w.heap.size, 4, none⟩ = some (.int .i64 uy) := by subst hW; go_simp
  have d5 : W.cell? ⟨w.heap.size, 5, none⟩ = some (.int .i64 uz) := by subst hW; go_simp
  have hlt : w.heap.size < W.heap.size := by subst hW; simp
  have hk : ∀ W', Below W.heap.size W W' → W'.cell? ⟨w.heap.size, 0, none⟩ = some (.int .i64 lx) ∧ W'.cell? ⟨w.heap.size, 1, none⟩ = some (.int .i64 ly) ∧ W'.cell? ⟨w.heap.size, 2, none⟩ = some (.int .i64 lz) ∧ W'.cell? ⟨w.heap.size, 3, none⟩ = some (.int .i64 ux) ∧ W'.cell? ⟨w.heap.size, 4, none⟩ = some (.int .i64 uy) ∧ W'.cell? ⟨w.heap.size, 5, none⟩ = some (.int .i64 uz) := fun W' h =>
    ⟨(h.cell (p := ⟨w.heap.size, 0, none⟩) hlt).trans d0, (h.cell (p := ⟨w.heap.size, 1, none⟩) hlt).trans d1, (h.cell (p := ⟨w.heap.size, 2, none⟩) hlt).trans d2, (h.cell (p := ⟨w.heap.size, 3, none⟩) hlt).trans d3, (h.cell (p := ⟨w.heap.size, 4, none⟩) hlt).trans d4, (h.cell (p := ⟨w.heap.size, 5, none⟩) hlt).trans d5⟩
  rw [← hW] at hB1
  clear h1 h2 hs hlen w1 w2 w3
  go_enter Try.func19, Try.ntmps19
  go_wp2
  rw [← hW]
  clear hW
  have hX : Below W.heap.size W W.drew := (Below.refl _ _).drew
  go_region_held3 (fun w' => w'.cell? ⟨w.heap.size, 0, none⟩ = some (.int .i64 lx) ∧ w'.cell? ⟨w.heap.size, 1, none⟩ = some (.int .i64 ly) ∧ w'.cell? ⟨w.heap.size, 2, none⟩ = some (.int .i64 lz) ∧ w'.cell? ⟨w.heap.size, 3, none⟩ = some (.int .i64 ux) ∧ w'.cell? ⟨w.heap.size, 4, none⟩ = some (.int .i64 uy) ∧ w'.cell? ⟨w.heap.size, 5, none⟩ = some (.int .i64 uz)) (first | exact hkk | exact ⟨d0, d1, d2, d3, d4, d5⟩ | go_keep) (first
    | (go_at_call 38; refine (cc _ _ _ _ (by first | exact b1 | exact b2)).mono ?_; rintro e w4 ⟨rfl, hB4⟩; have hX := hX.trans (hB4.mono hX.size); have hkk := hk _ hX)
    | (go_at_call 28; refine (first2_ok 0 0 _ _ _ ?_ ?_).mono ?_; (go_simp); (go_simp); rintro e w5 ⟨rfl, hw5⟩; subst hw5))
  rename_i hHeld
  clear hHeld
  have hX5 := hX.alloc hX.size (.cells #[.int .i64 0, .int .i64 0] 30)
  have hor : orI 0 0 0 = 0 := by decide
  rw [hor]
  obtain ⟨W5, hW5⟩ : ∃ W5, W5 = w4.alloc (.cells #[.int .i64 0, .int .i64 0] 30) := ⟨_, rfl⟩
  rw [← hW5] at hX5 ⊢
  clear hkk hX hB4 hW5 d0 d1 d2 d3 d4 d5 hor
  obtain ⟨d0, d1, d2, d3, d4, d5⟩ := hk W5 hX5
  have hB5 := hB1.trans (hX5.mono hB1.size)
  have hlt5 := Nat.lt_of_lt_of_le hlt hX5.size
  go_wp2_with (go_at_call 45; refine (hvol _).mono ?_; rintro e w6 ⟨rfl, hB6⟩; have hX6 := hX5.trans (hB6.mono hX5.size); obtain ⟨e0, e1, e2, e3, e4, e5⟩ := hk w6 hX6)
  have hB06 := hB5.trans (hB6.mono hB5.size)
  clear d0 d1 d2 d3 d4 d5 hk hvol hX5 hX6 hB5 hB6
  have hcel6 := hcel w6
  have hcol6 := hcol (w6.alloc (.cells #[.int .i64 lx, .int .i64 ly, .int .i64 lz, .int .i64 ux, .int .i64 uy, .int .i64 uz] 45)) w6.heap.size (by simp) (World.alloc_heap_new w6 _)
  have hB7 := hB06.alloc hB06.size (.cells #[.int .i64 lx, .int .i64 ly, .int .i64 lz, .int .i64 ux, .int .i64 uy, .int .i64 uz] 45)
  clear hcel hcol
  go_wp2_with (first
    | (go_at_call 47; refine hcel6.mono ?_; rintro e w7 ⟨rfl, rfl⟩)
    | (go_at_call 46; refine hcol6.mono ?_; rintro e w8 ⟨v, rfl, hown, hB8⟩))
  go_ret2
  exact ⟨v, rfl, hown.lower hB7.size, hB7.trans (hB8.mono hB7.size)⟩
end Go.Proofs
end
