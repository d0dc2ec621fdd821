import Derived.Test.YtllameiilljelaaFewR
import Derived.Test.YtllameiilljelaaCheckV
import Derived.Deep.RegionHeld3
section
/- A part of what ShiftR had: shiftC. -/
namespace Go.Proofs
open Go.Shelf Go.RowKit Go.Lib Go.Sort
set_option maxHeartbeats 8000000
set_option maxRecDepth 1000000
def shiftC (b c : Cel) : Cel := (c.1 + b.1, c.2.1 + b.2.1, c.2.2 + b.2.2)
end Go.Proofs
end

section
/- Slides: pure facts on ways, boxes and first hits. -/
namespace Go.Proofs
open Go.RowKit
set_option maxHeartbeats 8000000
set_option maxRecDepth 1000000
/-- The shift after k steps along a direction. -/
def wayC (d : Cel) (k : Int) : Cel := (k * d.1 / d.2.2, k * d.2.1 / d.2.2, k)
/-- The cells that a shifted part and a base have in common, in the part's order. -/
def hitL (part base : List Cel) (s : Cel) : List Cel := (part.map (shiftC s)).filter fun c => decide (c ∈ base)
theorem hitL_nil {part base : List Cel} {s : Cel} : hitL part base s = [] ↔ ∀ c ∈ part, shiftC s c ∉ base := by
  unfold hitL
  rw [List.filter_eq_nil_iff]
  constructor
  · intro h c hc hb
    exact h _ (List.mem_map.2 ⟨c, hc, rfl⟩) (decide_eq_true hb)
  · intro h x hx
    obtain ⟨c, hc, rfl⟩ := List.mem_map.1 hx
    simp [h c hc]
theorem hitL_head {part base : List Cel} {s : Cel} {i : Nat} {c : Cel} (hc : part[i]? = some c) (hb : shiftC s c ∈ base) (hno : ∀ j d, j < i → part[j]? = some d → shiftC s d ∉ base) : (hitL part base s).head? = some (shiftC s c) := by
  unfold hitL
  obtain ⟨hi, he⟩ := List.getElem?_eq_some_iff.1 hc
  have h1 : part = part.take i ++ c :: part.drop (i + 1) := by
    rw [← he, List.getElem_cons_drop, List.take_append_drop]
  rw [h1, List.map_append, List.filter_append]
  have h2 : ((part.take i).map (shiftC s)).filter (fun c => decide (c ∈ base)) = [] := by
    rw [List.filter_eq_nil_iff]
    intro x hx
    obtain ⟨d, hd, rfl⟩ := List.mem_map.1 hx
    obtain ⟨j, hj⟩ := List.mem_iff_getElem?.1 hd
    have hji : j < i := by
      have := (List.getElem?_eq_some_iff.1 hj).1
      rw [List.length_take] at this
      omega
    rw [List.getElem?_take_of_lt hji] at hj
    simp [hno j d hji hj]
  rw [h2, List.map_cons, List.nil_append, List.filter_cons_of_pos (by simpa using hb)]
  rfl
/-- A box has all cells of a list. -/
def InBox (l : List Cel) (b : Cel × Cel) : Prop := ∀ c ∈ l, (b.1.1 ≤ c.1 ∧ c.1 ≤ b.2.1) ∧ (b.1.2.1 ≤ c.2.1 ∧ c.2.1 ≤ b.2.2.1) ∧ (b.1.2.2 ≤ c.2.2 ∧ c.2.2 ≤ b.2.2.2)
/-- The shifts with which two boxes overlap. -/
def nearBox (bb bp : Cel × Cel) : Cel × Cel := ((bb.1.1 - bp.2.1, bb.1.2.1 - bp.2.2.1, bb.1.2.2 - bp.2.2.2), (bb.2.1 - bp.1.1, bb.2.2.1 - bp.1.2.1, bb.2.2.2 - bp.1.2.2))
def isInB (b : Cel × Cel) (s : Cel) : Prop := (b.1.1 ≤ s.1 ∧ s.1 ≤ b.2.1) ∧ (b.1.2.1 ≤ s.2.1 ∧ s.2.1 ≤ b.2.2.1) ∧ (b.1.2.2 ≤ s.2.2 ∧ s.2.2 ≤ b.2.2.2)
theorem far_none {part base : List Cel} {bb bp : Cel × Cel} (hb : InBox base bb) (hp : InBox part bp) {s : Cel} (h : ¬ isInB (nearBox bb bp) s) : hitL part base s = [] :=
  hitL_nil.2 fun c hc hcb => h (by
    have h1 := hp c hc
    have h2 := hb _ hcb
    unfold shiftC at h2
    unfold isInB nearBox
    dsimp only at h2 ⊢
    omega)
/-- What a search along a way tells. -/
def StopS (part base : List Cel) (d : Cel) (k : Int) (x : Cel) (hits : Bool) : Prop :=
  (hits = true ∧ 0 ≤ k ∧ (hitL part base (wayC d k)).head? = some x ∧ ∀ j, 0 ≤ j → j < k → hitL part base (wayC d j) = []) ∨
  (hits = false ∧ k = 0 ∧ x = (0, 0, 0) ∧ ∀ j, 0 ≤ j → hitL part base (wayC d j) = [])
theorem bnd_in' : ∀ (l : List Cel) (B : Cel × Cel) (c : Cel), (c ∈ l ∨ ((B.1.1 ≤ c.1 ∧ c.1 ≤ B.2.1) ∧ (B.1.2.1 ≤ c.2.1 ∧ c.2.1 ≤ B.2.2.1) ∧ (B.1.2.2 ≤ c.2.2 ∧ c.2.2 ≤ B.2.2.2))) →
    ((l.foldl bndS B).1.1 ≤ c.1 ∧ c.1 ≤ (l.foldl bndS B).2.1) ∧ ((l.foldl bndS B).1.2.1 ≤ c.2.1 ∧ c.2.1 ≤ (l.foldl bndS B).2.2.1) ∧ ((l.foldl bndS B).1.2.2 ≤ c.2.2 ∧ c.2.2 ≤ (l.foldl bndS B).2.2.2)
  | [], _, c, h => by
    rcases h with h | h
    · cases h
    · exact h
  | x :: l, B, c, h => by
    refine bnd_in' l (bndS B x) c ?_
    rcases h with h | h
    · rcases List.mem_cons.1 h with rfl | h
      · right
        unfold bndS
        dsimp only
        omega
      · exact .inl h
    · right
      unfold bndS
      dsimp only
      omega
theorem box_in {l : List Cel} {h : Cel} (hh : l[0]? = some h) {m : Int} (hn : ∀ c ∈ l, Near c m) : Near (bndK h l l.length).1 m ∧ Near (bndK h l l.length).2 m ∧ InBox l (bndK h l l.length) := by
  cases l with
  | nil => cases hh
  | cons x u =>
    obtain rfl : x = h := by simpa using hh
    have h1 : bndK x (x :: u) (x :: u).length = (x :: u).foldl bndS (x, x) := by unfold bndK; rw [List.take_length]
    have hx := hn x (List.mem_cons_self ..)
    have h2 := bnd_near (b := m) (x :: u) (x, x) ⟨hx, hx⟩ hn
    rw [h1]
    exact ⟨h2.1, h2.2, fun c hc => bnd_in' (x :: u) (x, x) c (.inl hc)⟩
/-- Go's quotient, rounded down, is Lean's. -/
theorem floor_eq {a b : Int} (hb : 0 < b) : (if Int.tmod a b < 0 then Int.tdiv a b - 1 else Int.tdiv a b) = a / b := by
  have h1 := Int.mul_tdiv_add_tmod a b
  have k1 := Int.tmod_lt_of_pos a hb
  have k2 := Int.lt_tmod_of_pos a hb
  split
  · refine ((Int.ediv_eq_iff_of_pos hb).2 ⟨?_, ?_⟩).symm
    · rw [Int.sub_mul, Int.mul_comm (a.tdiv b) b]
      omega
    · rw [Int.sub_mul, Int.mul_comm (a.tdiv b) b]
      omega
  · refine ((Int.ediv_eq_iff_of_pos hb).2 ⟨?_, ?_⟩).symm
    · rw [Int.mul_comm (a.tdiv b) b]
      omega
    · rw [Int.mul_comm (a.tdiv b) b]
      omega
end Go.Proofs
end

section
/- insert: small functions: first, within, floor, way, plus, times, minus, isIn. -/
namespace Go.Proofs
open Go.RowKit
set_option maxHeartbeats 8000000
set_option maxRecDepth 1000000
theorem insWithin_ok (n lo hi : Int) (w : World) : Calls Try.prog 26 #[.int .i64 n, .int .i64 lo, .int .i64 hi] w fun e w' => e = .returned (.int .i64 (withinI n lo hi)) ∧ w' = w := by
  unfold withinI
  go_enter Try.func26, Try.ntmps26
  go_wp2
  all_goals go_ret
  all_goals (refine ⟨?_, rfl⟩; simp_all <;> omega)
theorem insFirst3 (a b c : Int) (blk cap : Nat) (w : World) (h0 : w.cell? ⟨blk, 0, none⟩ = some (.int .i64 a)) (h1 : w.cell? ⟨blk, 1, none⟩ = some (.int .i64 b)) (h2 : w.cell? ⟨blk, 2, none⟩ = some (.int .i64 c)) :
    Calls Try.prog 21 #[.slice (some ⟨blk, 0, none⟩) 3 cap] w fun e w' => e = .returned (.int .i64 (orI a b c)) ∧ w' = w := by
  go_enter Try.func21, Try.ntmps21
  go_wp2
  refine wp_loop_rounds 4 ?_
  rw [rounds_succ]
  go_wp2
  all_goals (try (rw [rounds_succ]; go_wp2))
  all_goals (try (rw [rounds_succ]; go_wp2))
  all_goals (try (rw [rounds_succ]; go_wp2))
  all_goals go_ret
  all_goals (refine ⟨?_, rfl⟩; unfold orI; simp_all)
theorem insFirst2 (a b : Int) (blk cap : Nat) (w : World) (h0 : w.cell? ⟨blk, 0, none⟩ = some (.int .i64 a)) (h1 : w.cell? ⟨blk, 1, none⟩ = some (.int .i64 b)) :
    Calls Try.prog 21 #[.slice (some ⟨blk, 0, none⟩) 2 cap] w fun e w' => e = .returned (.int .i64 (orI a b 0)) ∧ w' = w := by
  go_enter Try.func21, Try.ntmps21
  go_wp2
  refine wp_loop_rounds 3 ?_
  rw [rounds_succ]
  go_wp2
  all_goals (try (rw [rounds_succ]; go_wp2))
  all_goals (try (rw [rounds_succ]; go_wp2))
  all_goals go_ret
  all_goals (refine ⟨?_, rfl⟩; unfold orI; simp_all)
theorem floor_bd {a b : Int} (hb : 1 ≤ b ∧ b ≤ 8) (ha : -100000 ≤ a ∧ a ≤ 100000) : -100000 ≤ a / b ∧ a / b ≤ 100000 := by
  have h : b = 1 ∨ b = 2 ∨ b = 3 ∨ b = 4 ∨ b = 5 ∨ b = 6 ∨ b = 7 ∨ b = 8 := by omega
  rcases h with rfl | rfl | rfl | rfl | rfl | rfl | rfl | rfl <;> omega
theorem floor_ok (a b : Int) (hb : 1 ≤ b ∧ b ≤ 8) (ha : -100000 ≤ a ∧ a ≤ 100000) (w : World) :
    Calls Try.prog 52 #[.int .i64 a, .int .i64 b] w fun e w' => e = .returned (.int .i64 (a / b)) ∧ w' = w := by
  have hf := floor_eq (a := a) (b := b) (by omega)
  have hbd := floor_bd hb ha
  have b0 : ¬ b = 0 := by omega
  have b1 : (b == 0) = false := by rw [beq_eq_false_iff_ne]; exact b0
  have b2 : ¬ b = -1 := by omega
  by_cases h : Int.tmod a b < 0
  · rw [if_pos h] at hf
    have w1 := wrapS (n := Int.tdiv a b) (by omega)
    have w2 : IntKind.i64.wrap (Int.tdiv a b - 1) = a / b := by rw [hf]; exact wrapS (by omega)
    have w3 : IntKind.i64.wrap (Int.tmod a b) = Int.tmod a b := wrapS (by have h1 := Int.lt_tmod_of_pos a (b := b) (by omega); omega)
    clear hf hbd hb ha
    go_enter Try.func52, Try.ntmps52
    go_wp2
    go_ret
    exact ⟨rfl, rfl⟩
  · rw [if_neg h] at hf
    have w1 : IntKind.i64.wrap (Int.tdiv a b) = a / b := by rw [hf]; exact wrapS (by omega)
    have w3 : IntKind.i64.wrap (Int.tmod a b) = Int.tmod a b := wrapS (by have h1 := Int.tmod_lt_of_pos a (b := b) (by omega); omega)
    clear hf hbd hb ha
    go_enter Try.func52, Try.ntmps52
    go_wp2
    go_ret
    exact ⟨rfl, rfl⟩
end Go.Proofs
end

section
/- insert: plus, times, minus, way, isIn, CheckDirection, Way. -/
namespace Go.Proofs
open Go.RowKit
set_option maxHeartbeats 8000000
set_option maxRecDepth 1000000
theorem insPlus_ok (x y z bx by_ bz : Int) (w : World) (k1 : -9000000 ≤ x + bx ∧ x + bx ≤ 9000000) (k2 : -9000000 ≤ y + by_ ∧ y + by_ ≤ 9000000) (k3 : -9000000 ≤ z + bz ∧ z + bz ≤ 9000000) :
    Calls Try.prog 64 #[.agg #[.int .i64 x, .int .i64 y, .int .i64 z], .agg #[.int .i64 bx, .int .i64 by_, .int .i64 bz]] w fun e w' => e = .returned (.agg #[.int .i64 (x + bx), .int .i64 (y + by_), .int .i64 (z + bz)]) ∧ Below w.heap.size w w' := by
  have w1 := wrapS k1
  have w2 := wrapS k2
  have w3 := wrapS k3
  clear k1 k2 k3
  have hB : Below w.heap.size w ((w.alloc (.cells #[.int .i64 x, .int .i64 y, .int .i64 z] 26)).alloc (.cells #[.int .i64 bx, .int .i64 by_, .int .i64 bz] 26)) := ((Below.refl _ _).alloc (Nat.le_refl _) _).alloc (by simp) _
  go_enter Try.func64, Try.ntmps64
  go_wp2
  refine bodyPost_ret (results_cell_row rfl _ _ _ 26 #[.int .i64 (x + bx), .int .i64 (y + by_), .int .i64 (z + bz)] (0, 0) _ rfl ?_ Try.underlying26 rfl (by kernel_rfl)) rfl ?_
  · have := heap_alloc_new ((w.alloc (.cells #[.int .i64 x, .int .i64 y, .int .i64 z] 26)).alloc (.cells #[.int .i64 bx, .int .i64 by_, .int .i64 bz] 26)) (.cells #[.int .i64 (x + bx), .int .i64 (y + by_), .int .i64 (z + bz)] 26)
    have e : ((w.alloc (.cells #[.int .i64 x, .int .i64 y, .int .i64 z] 26)).alloc (.cells #[.int .i64 bx, .int .i64 by_, .int .i64 bz] 26)).heap.size = w.heap.size + 1 + 1 := by simp
    rw [e] at this
    exact this
  · exact ⟨rfl, hB.alloc (by simp; omega) _⟩
theorem three_stored {W : World} {B : Nat} {c0 c1 c2 d0 d1 d2 : Value} {T : TypeId} (h : W.heap[B]? = some (.cells #[c0, c1, c2] T (0, 0))) :
    (((W.setCell ⟨B, 0, none⟩ d0).setCell ⟨B, 1, none⟩ d1).setCell ⟨B, 2, none⟩ d2).heap[B]? = some (.cells #[d0, d1, d2] T (0, 0)) := by
  have hz := heap_setCell_same _ B 2 _ _ d2 (heap_setCell_same _ B 1 _ _ d1 (heap_setCell_same _ B 0 _ _ d0 h))
  simpa using hz
theorem three_cells {V : World} {B : Nat} {c0 c1 c2 : Value} {T : TypeId} (h : V.heap[B]? = some (.cells #[c0, c1, c2] T (0, 0))) :
    (V.cell? ⟨B, 0, none⟩ = some c0 ∧ V.cell? ⟨B, 1, none⟩ = some c1 ∧ V.cell? ⟨B, 2, none⟩ = some c2) ∧ V.frozen? ⟨B, 0, none⟩ = false ∧ V.frozen? ⟨B, 1, none⟩ = false ∧ V.frozen? ⟨B, 2, none⟩ = false := by
  have zl := fun j => cell_of_row V B j _ _ _ h
  have fz := fun j => frozen_of_row V B j _ _ h
  have z0 := zl 0
  have z1 := zl 1
  have z2 := zl 2
  simp at z0 z1 z2
  exact ⟨⟨z0, z1, z2⟩, fz 0, fz 1, fz 2⟩
theorem insTimes_ok (x y z : Int) (w : World) (h : Near (x, y, z) 9000) :
    Calls Try.prog 65 #[.int .i64 (-1), .agg #[.int .i64 x, .int .i64 y, .int .i64 z]] w fun e w' => e = .returned (.agg #[.int .i64 (-x), .int .i64 (-y), .int .i64 (-z)]) ∧ Below w.heap.size w w' := by
  unfold Near at h
  dsimp only at h
  have w1 : wrap64 (-x) = -x := by unfold wrap64; omega
  have w2 : wrap64 (-y) = -y := by unfold wrap64; omega
  have w3 : wrap64 (-z) = -z := by unfold wrap64; omega
  clear h
  have hB : Below w.heap.size w (w.alloc (.cells #[.int .i64 x, .int .i64 y, .int .i64 z] 26)) := (Below.refl _ _).alloc (Nat.le_refl _) _
  go_enter Try.func65, Try.ntmps65
  go_wp2
  refine bodyPost_ret (results_cell_row rfl _ _ _ 26 #[.int .i64 (-x), .int .i64 (-y), .int .i64 (-z)] (0, 0) _ rfl ?_ Try.underlying26 rfl (by kernel_rfl)) rfl ?_
  · have := heap_alloc_new (w.alloc (.cells #[.int .i64 x, .int .i64 y, .int .i64 z] 26)) (.cells #[.int .i64 (-x), .int .i64 (-y), .int .i64 (-z)] 26)
    have e : (w.alloc (.cells #[.int .i64 x, .int .i64 y, .int .i64 z] 26)).heap.size = w.heap.size + 1 := by simp
    rw [e] at this
    exact this
  · exact ⟨rfl, hB.alloc (by simp) _⟩
theorem insMinus_ok (x y z bx by_ bz : Int) (w : World) (h1 : Near (x, y, z) 3000) (h2 : Near (bx, by_, bz) 3000) :
    Calls Try.prog 49 #[.agg #[.int .i64 x, .int .i64 y, .int .i64 z], .agg #[.int .i64 bx, .int .i64 by_, .int .i64 bz]] w fun e w' => e = .returned (.agg #[.int .i64 (x - bx), .int .i64 (y - by_), .int .i64 (z - bz)]) ∧ Below w.heap.size w w' := by
  have ht := fun W => insTimes_ok bx by_ bz W (h2.mono (by omega))
  unfold Near at h1 h2
  dsimp only at h1 h2
  have hp := fun W => insPlus_ok x y z (-bx) (-by_) (-bz) W (by omega) (by omega) (by omega)
  rw [show x + -bx = x - bx by omega, show y + -by_ = y - by_ by omega, show z + -bz = z - bz by omega] at hp
  clear h1 h2
  obtain ⟨W0, hW⟩ : ∃ W0, W0 = ((w.alloc (.cells #[.int .i64 x, .int .i64 y, .int .i64 z] 26)).alloc (.cells #[.int .i64 bx, .int .i64 by_, .int .i64 bz] 26)).alloc (.cells #[.int .i64 0, .int .i64 0, .int .i64 0] 26) := ⟨_, rfl⟩
  have hB0 : Below w.heap.size w W0 := by subst hW; exact (((Below.refl _ _).alloc (Nat.le_refl _) _).alloc (by simp) _).alloc (by simp; omega) _
  have hsz : W0.heap.size = w.heap.size + 1 + 1 + 1 := by subst hW; simp
  have c0 : W0.cell? ⟨w.heap.size, 0, none⟩ = some (.int .i64 x) := by subst hW; go_simp
  have c1 : W0.cell? ⟨w.heap.size, 1, none⟩ = some (.int .i64 y) := by subst hW; go_simp
  have c2 : W0.cell? ⟨w.heap.size, 2, none⟩ = some (.int .i64 z) := by subst hW; go_simp
  have c3 : W0.cell? ⟨w.heap.size + 1, 0, none⟩ = some (.int .i64 bx) := by subst hW; go_simp
  have c4 : W0.cell? ⟨w.heap.size + 1, 1, none⟩ = some (.int .i64 by_) := by subst hW; go_simp
  have c5 : W0.cell? ⟨w.heap.size + 1, 2, none⟩ = some (.int .i64 bz) := by subst hW; go_simp
  have hr0 : W0.heap[w.heap.size + 1 + 1]? = some (.cells #[.int .i64 0, .int .i64 0, .int .i64 0] 26 (0, 0)) := by
    have := heap_alloc_new ((w.alloc (.cells #[.int .i64 x, .int .i64 y, .int .i64 z] 26)).alloc (.cells #[.int .i64 bx, .int .i64 by_, .int .i64 bz] 26)) (.cells #[.int .i64 0, .int .i64 0, .int .i64 0] 26)
    rw [← hW] at this
    simpa using this
  have kk : ∀ V, Below W0.heap.size W0 V → V.cell? ⟨w.heap.size, 0, none⟩ = some (.int .i64 x) ∧ V.cell? ⟨w.heap.size, 1, none⟩ = some (.int .i64 y) ∧ V.cell? ⟨w.heap.size, 2, none⟩ = some (.int .i64 z) ∧ V.cell? ⟨w.heap.size + 1, 0, none⟩ = some (.int .i64 bx) ∧ V.cell? ⟨w.heap.size + 1, 1, none⟩ = some (.int .i64 by_) ∧ V.cell? ⟨w.heap.size + 1, 2, none⟩ = some (.int .i64 bz) := fun V h =>
    ⟨(h.cell (p := ⟨w.heap.size, 0, none⟩) (by show w.heap.size < _; omega)).trans c0, (h.cell (p := ⟨w.heap.size, 1, none⟩) (by show w.heap.size < _; omega)).trans c1, (h.cell (p := ⟨w.heap.size, 2, none⟩) (by show w.heap.size < _; omega)).trans c2, (h.cell (p := ⟨w.heap.size + 1, 0, none⟩) (by show w.heap.size + 1 < _; omega)).trans c3, (h.cell (p := ⟨w.heap.size + 1, 1, none⟩) (by show w.heap.size + 1 < _; omega)).trans c4, (h.cell (p := ⟨w.heap.size + 1, 2, none⟩) (by show w.heap.size + 1 < _; omega)).trans c5⟩
  have hR : ∀ V, Below W0.heap.size W0 V → V.heap[w.heap.size + 1 + 1]? = some (.cells #[.int .i64 0, .int .i64 0, .int .i64 0] 26 (0, 0)) := fun V h => (h.block _ (by omega)).trans hr0
  have hX : Below W0.heap.size W0 W0.drew := (Below.refl _ _).drew
  have hky := kk _ hX
  go_enter Try.func49, Try.ntmps49
  go_wp2_with fail
  rw [← hW]
  clear hW c0 c1 c2 c3 c4 c5 hr0
  have ne2 : w.heap.size + 1 + 1 ≠ w.heap.size := by omega
  go_region_held3 (fun w' => w'.cell? ⟨w.heap.size, 0, none⟩ = some (.int .i64 x) ∧ w'.cell? ⟨w.heap.size, 1, none⟩ = some (.int .i64 y) ∧ w'.cell? ⟨w.heap.size, 2, none⟩ = some (.int .i64 z) ∧ w'.cell? ⟨w.heap.size + 1, 0, none⟩ = some (.int .i64 bx) ∧ w'.cell? ⟨w.heap.size + 1, 1, none⟩ = some (.int .i64 by_) ∧ w'.cell? ⟨w.heap.size + 1, 2, none⟩ = some (.int .i64 bz)) (first | exact hky | go_keep)
    (first
      | (go_at_call 65; refine (ht _).mono ?_; rintro e w4 ⟨rfl, hB4⟩; have hX := hX.trans (hB4.mono hX.size); have hky := kk _ hX)
      | (go_at_call 64; refine (hp _).mono ?_; rintro e w5 ⟨rfl, hB5⟩; have hX := hX.trans (hB5.mono hX.size); have hky := kk _ hX; have hrow := hR _ hX; obtain ⟨⟨s0, s1, s2⟩, g0, g1, g2⟩ := three_cells hrow))
  rename_i hHeld
  clear hHeld
  have hF := three_stored (d0 := .int .i64 (x - bx)) (d1 := .int .i64 (y - by_)) (d2 := .int .i64 (z - bz)) hrow
  have hle : w.heap.size ≤ w.heap.size + 1 + 1 := by omega
  have hBF := (((hB0.trans (hX.mono hB0.size)).setCell (p := ⟨w.heap.size + 1 + 1, 0, none⟩) hle (.int .i64 (x - bx))).setCell (p := ⟨w.heap.size + 1 + 1, 1, none⟩) hle (.int .i64 (y - by_))).setCell (p := ⟨w.heap.size + 1 + 1, 2, none⟩) hle (.int .i64 (z - bz))
  go_wp2
  exact bodyPost_ret (results_cell_row rfl _ _ _ 26 #[.int .i64 (x - bx), .int .i64 (y - by_), .int .i64 (z - bz)] (0, 0) _ rfl hF Try.underlying26 rfl (by kernel_rfl)) rfl ⟨rfl, hBF⟩
theorem way_ok (x y z k : Int) (hx : -8 ≤ x ∧ x ≤ 8) (hy : -8 ≤ y ∧ y ≤ 8) (hz : 1 ≤ z ∧ z ≤ 8) (hk : -3000 ≤ k ∧ k ≤ 3000) (w : World) :
    Calls Try.prog 27 #[.agg #[.int .i64 x, .int .i64 y, .int .i64 z], .int .i64 k] w fun e w' => e = .returned (.agg #[.int .i64 (k * x / z), .int .i64 (k * y / z), .int .i64 k]) ∧ Below w.heap.size w w' := by
  have bd : ∀ a : Int, -8 ≤ a ∧ a ≤ 8 → -24000 ≤ k * a ∧ k * a ≤ 24000 := fun a ha => by
    have h : a = -8 ∨ a = -7 ∨ a = -6 ∨ a = -5 ∨ a = -4 ∨ a = -3 ∨ a = -2 ∨ a = -1 ∨ a = 0 ∨ a = 1 ∨ a = 2 ∨ a = 3 ∨ a = 4 ∨ a = 5 ∨ a = 6 ∨ a = 7 ∨ a = 8 := by omega
    rcases h with rfl | rfl | rfl | rfl | rfl | rfl | rfl | rfl | rfl | rfl | rfl | rfl | rfl | rfl | rfl | rfl | rfl <;> omega
  have b1 := bd x hx
  have b2 := bd y hy
  have w1 := wrapS (n := k * x) (by omega)
  have w2 := wrapS (n := k * y) (by omega)
  have f1 := fun W => floor_ok (k * x) z hz (by omega) W
  have f2 := fun W => floor_ok (k * y) z hz (by omega) W
  clear bd b1 b2 hx hy hz hk
  obtain ⟨W0, hW⟩ : ∃ W0, W0 = (w.alloc (.cells #[.int .i64 x, .int .i64 y, .int .i64 z] 26)).alloc (.cells #[.int .i64 0, .int .i64 0, .int .i64 0] 26) := ⟨_, rfl⟩
  have hB0 : Below w.heap.size w W0 := by subst hW; exact ((Below.refl _ _).alloc (Nat.le_refl _) _).alloc (by simp) _
  have c0 : W0.cell? ⟨w.heap.size, 0, none⟩ = some (.int .i64 x) := by subst hW; go_simp
  have c1 : W0.cell? ⟨w.heap.size, 1, none⟩ = some (.int .i64 y) := by subst hW; go_simp
  have c2 : W0.cell? ⟨w.heap.size, 2, none⟩ = some (.int .i64 z) := by subst hW; go_simp
  have hr0 : W0.heap[w.heap.size + 1]? = some (.cells #[.int .i64 0, .int .i64 0, .int .i64 0] 26 (0, 0)) := by
    have := heap_alloc_new (w.alloc (.cells #[.int .i64 x, .int .i64 y, .int .i64 z] 26)) (.cells #[.int .i64 0, .int .i64 0, .int .i64 0] 26)
    rw [← hW] at this
    simpa using this
  have hrow : W0.drew.heap[w.heap.size + 1]? = some (.cells #[.int .i64 0, .int .i64 0, .int .i64 0] 26 (0, 0)) := hr0
  obtain ⟨⟨s0, s1, s2⟩, g0, g1, g2⟩ := three_cells hr0
  have hky : W0.drew.cell? ⟨w.heap.size, 0, none⟩ = some (.int .i64 x) ∧ W0.drew.cell? ⟨w.heap.size, 1, none⟩ = some (.int .i64 y) ∧ W0.drew.cell? ⟨w.heap.size, 2, none⟩ = some (.int .i64 z) := ⟨c0, c1, c2⟩
  have hF := three_stored (d0 := .int .i64 (k * x / z)) (d1 := .int .i64 (k * y / z)) (d2 := .int .i64 k) hrow
  have hle : w.heap.size ≤ w.heap.size + 1 := by omega
  have hBF := ((hB0.drew.setCell (p := ⟨w.heap.size + 1, 0, none⟩) hle (.int .i64 (k * x / z))).setCell (p := ⟨w.heap.size + 1, 1, none⟩) hle (.int .i64 (k * y / z))).setCell (p := ⟨w.heap.size + 1, 2, none⟩) hle (.int .i64 k)
  go_enter Try.func27, Try.ntmps27
  go_wp2_with fail
  rw [← hW]
  clear hW hr0
  go_region_held3 (fun w' => w'.cell? ⟨w.heap.size, 0, none⟩ = some (.int .i64 x) ∧ w'.cell? ⟨w.heap.size, 1, none⟩ = some (.int .i64 y) ∧ w'.cell? ⟨w.heap.size, 2, none⟩ = some (.int .i64 z)) (first | exact hky | go_keep)
    (first | (go_at_call 52; (first | with_reducible refine (f1 _).mono ?_ | with_reducible refine (f2 _).mono ?_); rintro e w4 ⟨rfl, rfl⟩))
  rename_i hHeld
  clear hHeld
  go_wp2
  exact bodyPost_ret (results_cell_row rfl _ _ _ 26 #[.int .i64 (k * x / z), .int .i64 (k * y / z), .int .i64 k] (0, 0) _ rfl hF Try.underlying26 rfl (by kernel_rfl)) rfl ⟨rfl, hBF⟩
end Go.Proofs
end
