import Derived.Test.YtgmcdnabgojaeaaNb
import Derived.Test.YtgmcdnabgojaeaaGoodT
import Derived.Test.YtgmcdnabgojaeaaSearch
section
/- A part of what GrowR had: growN, mem_step, near_grow, near_step. -/
namespace Go.Proofs
open Go.RowKit
set_option maxHeartbeats 8000000
set_option maxRecDepth 1000000
/-- A set grown by some steps, as a list with repetitions. -/
def growN : Nat → List Cel → List Cel
  | 0, l => l
  | n + 1, l => (growN n l).flatMap fun c => c :: nearL c
theorem mem_step {L : List Cel} {c : Cel} : (c ∈ L.flatMap fun c => c :: nearL c) ↔ c ∈ L ∨ ∃ d ∈ L, c ∈ nearL d := by
  rw [List.mem_flatMap]
  constructor
  · rintro ⟨d, hd, h⟩
    rcases List.mem_cons.1 h with rfl | h
    · exact .inl hd
    · exact .inr ⟨d, hd, h⟩
  · rintro (h | ⟨d, hd, h⟩)
    · exact ⟨c, h, List.mem_cons_self ..⟩
    · exact ⟨d, hd, List.mem_cons_of_mem _ h⟩
theorem near_step {c d : Cel} {b : Int} (hc : Near c b) (hd : d ∈ nearL c) : Near d (b + 1) := by
  obtain ⟨x, y, z⟩ := c
  unfold nearL at hd
  unfold Near at hc ⊢
  simp only [List.mem_cons, List.mem_nil_iff, or_false] at hd
  rcases hd with rfl | rfl | rfl | rfl | rfl | rfl <;> (dsimp only at hc ⊢; omega)
theorem near_grow {l : List Cel} {b : Int} (h : ∀ c ∈ l, Near c b) : ∀ n : Nat, ∀ c ∈ growN n l, Near c (b + n)
  | 0, c, hc => by
    have := h c hc
    rwa [show b + ((0 : Nat) : Int) = b by omega]
  | n + 1, c, hc => by
    rcases mem_step.1 hc with hc | ⟨d, hd, hc⟩
    · exact (near_grow h n c hc).mono (by omega)
    · have := near_step (near_grow h n d hd) hc
      rwa [show b + ((n + 1 : Nat) : Int) = b + n + 1 by omega]
end Go.Proofs
end

section
/- A part of what GrK had: dist_near, grow_dist, grow_small, offs, offs_len, offs_mem. -/
namespace Go.Proofs
open Go.RowKit
set_option maxHeartbeats 8000000
set_option maxRecDepth 1000000
/-- The cells that are at most three steps from the middle. -/
def offs : List Cel := ((List.range 343).map fun t => (((t / 49 : Nat) : Int) - 3, ((t / 7 % 7 : Nat) : Int) - 3, ((t % 7 : Nat) : Int) - 3)).filter fun o => decide (max o.1 (-o.1) + max o.2.1 (-o.2.1) + max o.2.2 (-o.2.2) ≤ 3)
theorem offs_len : offs.length = 63 := by decide +kernel
theorem offs_mem {x y z : Int} (h : max x (-x) + max y (-y) + max z (-z) ≤ 3) : (x, y, z) ∈ offs := by
  obtain ⟨a, ha⟩ : ∃ a : Nat, x = (a : Int) - 3 := ⟨(x + 3).toNat, by omega⟩
  obtain ⟨b, hb⟩ : ∃ b : Nat, y = (b : Int) - 3 := ⟨(y + 3).toNat, by omega⟩
  obtain ⟨c, hc⟩ : ∃ c : Nat, z = (c : Int) - 3 := ⟨(z + 3).toNat, by omega⟩
  subst ha hb hc
  have ha : a ≤ 6 := by omega
  have hb : b ≤ 6 := by omega
  have hc : c ≤ 6 := by omega
  refine List.mem_filter.2 ⟨List.mem_map.2 ⟨a * 49 + b * 7 + c, List.mem_range.2 (by omega), ?_⟩, decide_eq_true h⟩
  have e1 : (a * 49 + b * 7 + c) / 49 = a := by omega
  have e2 : (a * 49 + b * 7 + c) / 7 % 7 = b := by omega
  have e3 : (a * 49 + b * 7 + c) % 7 = c := by omega
  rw [e1, e2, e3]
theorem dist_near {p c d : Cel} {n : Int} (h : distI p c ≤ n) (hd : d ∈ nearL c) : distI p d ≤ n + 1 := by
  obtain ⟨x, y, z⟩ := c
  unfold nearL at hd
  unfold distI at h ⊢
  simp only [List.mem_cons, List.mem_nil_iff, or_false] at hd
  rcases hd with rfl | rfl | rfl | rfl | rfl | rfl <;> (dsimp only at h ⊢; omega)
theorem grow_dist {l : List Cel} : ∀ (n : Nat) (c : Cel), c ∈ growN n l → ∃ p ∈ l, distI p c ≤ n
  | 0, c, hc => ⟨c, hc, by unfold distI; omega⟩
  | n + 1, c, hc => by
    rcases mem_step.1 hc with hc | ⟨d, hd, hc⟩
    · obtain ⟨p, hp, h⟩ := grow_dist n c hc
      exact ⟨p, hp, by omega⟩
    · obtain ⟨p, hp, h⟩ := grow_dist n d hd
      exact ⟨p, hp, by have := dist_near h hc; omega⟩
theorem grow_small {l : List Cel} (hl : l.length ≤ 40) {i : Nat} (hi : i ≤ 3) {S : List Cel} (hnd : S.Nodup) (hS : ∀ c ∈ S, c ∈ growN i l) : S.length ≤ 4000 := by
  have hsub : ∀ c ∈ S, c ∈ l.flatMap fun p => offs.map fun o => (p.1 + o.1, p.2.1 + o.2.1, p.2.2 + o.2.2) := fun c hc => by
    obtain ⟨p, hp, h⟩ := grow_dist i c (hS c hc)
    refine List.mem_flatMap.2 ⟨p, hp, List.mem_map.2 ⟨(c.1 - p.1, c.2.1 - p.2.1, c.2.2 - p.2.2), offs_mem ?_, ?_⟩⟩
    · unfold distI at h
      omega
    · obtain ⟨c1, c2, c3⟩ := c
      simp only [Prod.mk.injEq]
      omega
  have h1 := nodup_len hnd hsub
  have h2 : ∀ m : List Cel, (m.flatMap fun p => offs.map fun o => (p.1 + o.1, p.2.1 + o.2.1, p.2.2 + o.2.2)).length = m.length * 63 := fun m => by
    induction m with
    | nil => rfl
    | cons c m ih => rw [List.flatMap_cons, List.length_append, ih, List.length_map, offs_len]; simp; omega
  rw [h2] at h1
  omega
end Go.Proofs
end
