/- GridNear: the equations of grown and shrunk sets that the law asks. -/
import Derived.Test.YtgmcdnabgojaeaaGreatDoorNearK
namespace Go.Proofs
open Go.RowKit
set_option maxHeartbeats 4000000
theorem grow_congr {l m : List Cel} (h : ∀ c, c ∈ l ↔ c ∈ m) {n : Nat} {c : Cel} : c ∈ growN n l ↔ c ∈ growN n m := by
  rw [grow_iff, grow_iff]
  exact ⟨fun ⟨p, a, b⟩ => ⟨p, (h p).1 a, b⟩, fun ⟨p, a, b⟩ => ⟨p, (h p).2 a, b⟩⟩
theorem near_twice {l a b all : List Cel} {n m : Nat} (ha : ∀ c, c ∈ a ↔ c ∈ growN n l) (hb : ∀ c, c ∈ b ↔ c ∈ growN m a) (hall : ∀ c, c ∈ all ↔ c ∈ growN (n + m) l) (ub : Up b) (ul : Up all) : b = all :=
  up_ext ub ul fun c => by rw [hb, hall, grow_congr ha, grow_add]
theorem near_has {l a : List Cel} {n : Nat} {c : Cel} {far : Int} (ha : ∀ c, c ∈ a ↔ c ∈ growN n l) (hf : Least l [c] far) : decide (c ∈ a) = decide (far ≤ n) := by
  obtain ⟨⟨x, hx, y, hy, e⟩, h2⟩ := hf
  rw [List.mem_singleton] at hy
  subst hy
  have : y ∈ a ↔ far ≤ n := by
    rw [ha, grow_iff]
    exact ⟨fun ⟨p, hp, h⟩ => Int.le_trans (h2 p hp _ (List.mem_singleton.2 rfl)) h, fun h => ⟨x, hx, by omega⟩⟩
  simp only [this]
theorem filter_none {l : List Cel} {p : Cel → Bool} (h : ∀ c ∈ l, p c = false) : l.filter p = [] := List.filter_eq_nil_iff.2 fun c hc => by rw [h c hc]; decide
theorem near_back {l a : List Cel} {n : Nat} (ha : ∀ c, c ∈ a ↔ c ∈ growN n l) : (l.filter fun c => !decide (c ∈ shrN n a)) = [] :=
  filter_none fun c hc => by rw [decide_eq_true (shr_grow ha c hc)]; rfl
theorem near_again {l g : List Cel} {n : Nat} (hg : ∀ c, c ∈ g ↔ c ∈ growN n (shrN n l)) : (g.filter fun c => !decide (c ∈ l)) = [] :=
  filter_none fun c hc => by rw [decide_eq_true (grow_shr c ((hg c).1 hc))]; rfl
theorem near_both {l out : List Cel} (ul : Up l) (uo : Up out) (ho : ∀ c, c ∈ out ↔ c ∈ (l.filter fun c => !insB l c) ∨ c ∈ shrN 1 l) : out = l :=
  up_ext uo ul fun c => by
    rw [ho]
    show _ ∨ c ∈ l.filter (insB l) ↔ _
    rw [List.mem_filter, List.mem_filter]
    cases insB l c <;> simp
theorem near_cut {l : List Cel} : ((l.filter fun c => !insB l c).filter fun c => decide (c ∈ shrN 1 l)) = [] :=
  filter_none fun c hc => decide_eq_false fun h => by
    have h1 := (List.mem_filter.1 hc).2
    have h2 : insB l c = true := (List.mem_filter.1 (show c ∈ l.filter (insB l) from h)).2
    rw [h2] at h1
    exact absurd h1 (by decide)
/-- Near cells stay near when they are grown by a few steps. -/
theorem near_in {l : List Cel} (h : ∀ c ∈ l, Near c 200) {n : Nat} (hn : n ≤ 64) : ∀ c ∈ growN n l, Near c 1000 := fun c hc => by
  have := near_grow h n c hc
  unfold Near at this ⊢
  omega
end Go.Proofs
