/- The reference's Sorted, for any list. -/
import Derived.Test.YtpickbchpnbffaaGreatInsP
namespace Go.Proofs
open Go.RowKit
set_option maxHeartbeats 8000000
set_option maxRecDepth 1000000
theorem take_mem {l : List Cel} {k : Nat} {c : Cel} (hc : l[k]? = some c) (x : Cel) : x ∈ l.take (k + 1) ↔ x = c ∨ x ∈ l.take k := by
  obtain ⟨h1, h2⟩ := List.getElem?_eq_some_iff.1 hc
  rw [List.take_succ_eq_append_getElem h1, h2, List.mem_append, List.mem_singleton]
  exact Or.comm
theorem own_cells {w : World} {B n cap : Nat} {A : Option Addr} {out : List Cel} (h : Own w B (.slice A n cap) out) {i : Nat} {c : Cel} (hi : out[i]? = some c) :
    ∃ g, A = some ⟨g, 0, none⟩ ∧ B ≤ g ∧ g < w.heap.size ∧ n = out.length ∧ w.cell? ⟨g, i * 3, none⟩ = some (.int .i64 c.1) ∧ w.cell? ⟨g, i * 3 + 1, none⟩ = some (.int .i64 c.2.1) ∧ w.cell? ⟨g, i * 3 + 2, none⟩ = some (.int .i64 c.2.2) := by
  rcases h.form with ⟨_, h2⟩ | ⟨g, cap', h1, h2, h3, h4⟩
  · subst h2
    simp at hi
  · injection h1 with h5 h6 h7
    obtain ⟨r0, r1, r2⟩ := h4 i c hi
    simp only [Nat.zero_add] at r0 r1 r2
    exact ⟨g, h5, h2, h3, h6, r0, r1, r2⟩
theorem own_app {w : World} {B : Nat} {v : Value} {out : List Cel} {c : Cel} (h : w.ownsRow B 34 3 v (out.length + 1) (flatC out ++ encC c)) :
    ∃ g cap, v = .slice (some ⟨g, 0, none⟩) (out.length + 1) cap ∧ B ≤ g ∧ g < w.heap.size ∧ Own w B (.slice (some ⟨g, 0, none⟩) (out.length + 1) cap) (out.take out.length ++ c :: out.drop out.length) := by
  have e : out.take out.length ++ c :: out.drop out.length = out ++ [c] := by simp
  rw [e]
  have ho : Own w B v (out ++ [c]) := by
    unfold Own
    rw [flatC_snoc, List.length_append]
    exact h
  rcases ho.form with ⟨_, h2⟩ | ⟨g, cap, rfl, h2, h3, _⟩
  · simp at h2
  · have e2 : (out ++ [c]).length = out.length + 1 := by simp
    rw [e2] at ho ⊢
    exact ⟨g, cap, rfl, h2, h3, ho⟩
theorem own_old {w : World} {B g n cap : Nat} {out : List Cel} (h : Own w B (.slice (some ⟨g, 0, none⟩) n cap) out) {i : Nat} (hi : i < out.length) :
    (∃ u, w.cell? ⟨g, i * 3, none⟩ = some u) ∧ (∃ u, w.cell? ⟨g, i * 3 + 1, none⟩ = some u) ∧ (∃ u, w.cell? ⟨g, i * 3 + 2, none⟩ = some u) := by
  obtain ⟨g', e, _, _, _, h0, h1, h2⟩ := own_cells h (List.getElem?_eq_getElem hi)
  injection e with e
  injection e with e
  subst e
  exact ⟨⟨_, h0⟩, ⟨_, h1⟩, ⟨_, h2⟩⟩
theorem own_fz {w : World} {B g n cap : Nat} {out : List Cel} (h : Own w B (.slice (some ⟨g, 0, none⟩) n cap) out) (i : Nat) : w.frozen? ⟨g, i, none⟩ = false := by
  rcases h.2 with ⟨h1, _⟩ | ⟨g', cap', cur, h1, _, hg, _⟩
  · cases h1
  · injection h1 with h5
    injection h5 with h5
    injection h5 with h5
    subst h5
    exact frozen_of_row w g i cur _ hg
end Go.Proofs
