import Derived.Test.YtmgnidodkipohaaPure
namespace Go.Proofs
open Go.RowKit Go.AM
set_option maxRecDepth 1000000
set_option maxHeartbeats 4000000
theorem nodup_map {f : Cel → Cel} (hf : ∀ p q, f p = f q → p = q) {l : List Cel} (h : l.Nodup) : (l.map f).Nodup :=
  List.Pairwise.map f (fun a b hab e => hab (hf a b e)) h
theorem nodup_sortC {l : List Cel} (h : l.Nodup) : (sortC l).Nodup := (List.mergeSort_perm _ _).nodup_iff.2 h
theorem shiftC_inj (b : Cel) (p q : Cel) (h : shiftC b p = shiftC b q) : p = q := by
  obtain ⟨x, y, z⟩ := p
  obtain ⟨x', y', z'⟩ := q
  simp only [shiftC, Prod.mk.injEq] at h ⊢
  omega
theorem mirrorC_inj (j : Nat) (p q : Cel) (h : mirrorC j p = mirrorC j q) : p = q := by
  obtain ⟨x, y, z⟩ := p
  obtain ⟨x', y', z'⟩ := q
  unfold mirrorC at h
  split at h <;> simp only [Prod.mk.injEq] at h ⊢ <;> omega
theorem turnB_inj {k : Nat} (hk : k < 24) (o p q : Cel) (h : turnB k o p = turnB k o q) : p = q := by
  obtain ⟨x, y, z⟩ := p
  obtain ⟨x', y', z'⟩ := q
  obtain ⟨a, b, c⟩ := o
  obtain rfl | rfl | rfl | rfl | rfl | rfl | rfl | rfl | rfl | rfl | rfl | rfl | rfl | rfl | rfl | rfl | rfl | rfl | rfl | rfl | rfl | rfl | rfl | rfl : k = 0 ∨ k = 1 ∨ k = 2 ∨ k = 3 ∨ k = 4 ∨ k = 5 ∨ k = 6 ∨ k = 7 ∨ k = 8 ∨ k = 9 ∨ k = 10 ∨ k = 11 ∨ k = 12 ∨ k = 13 ∨ k = 14 ∨ k = 15 ∨ k = 16 ∨ k = 17 ∨ k = 18 ∨ k = 19 ∨ k = 20 ∨ k = 21 ∨ k = 22 ∨ k = 23 := by omega
  all_goals simp [turnB, turnA, turnT, turnC, pickI] at h ⊢
  all_goals omega
theorem turnA_lt {k : Nat} (hk : k < 24) : (turnA k).1 < 6 ∧ (turnA k).2.1 < 6 ∧ (turnA k).2.2 < 6 := by
  have : ∀ k, k < 24 → (turnA k).1 < 6 ∧ (turnA k).2.1 < 6 ∧ (turnA k).2.2 < 6 := by decide
  exact this k hk
def negC (o : Cel) : Cel := (0 - o.1, 0 - o.2.1, 0 - o.2.2)
theorem turn_about (k : Nat) (o p : Cel) : shiftC o (turnB k zeroC (shiftC (negC o) p)) = turnB k o p := by
  unfold turnB turnC shiftC negC zeroC
  dsimp only
  rw [show p.1 + (0 - o.1) - 0 = p.1 - o.1 by omega, show p.2.1 + (0 - o.2.1) - 0 = p.2.1 - o.2.1 by omega, show p.2.2 + (0 - o.2.2) - 0 = p.2.2 - o.2.2 by omega]
  simp only [Prod.mk.injEq]
  omega
/-- A turn about another cell is one about the first cell, and a shift. -/
theorem far_again (k : Nat) (o : Cel) (l : List Cel) : sortC (l.map (turnB k o)) = sortC ((sortC ((sortC (l.map (shiftC (negC o)))).map (turnB k zeroC))).map (shiftC o)) := by
  have p1 : (sortC (l.map (shiftC (negC o)))).Perm (l.map (shiftC (negC o))) := List.mergeSort_perm _ _
  have p2 : (sortC ((sortC (l.map (shiftC (negC o)))).map (turnB k zeroC))).Perm ((l.map (shiftC (negC o))).map (turnB k zeroC)) := (List.mergeSort_perm _ _).trans (p1.map _)
  have e : ((l.map (shiftC (negC o))).map (turnB k zeroC)).map (shiftC o) = l.map (turnB k o) := by
    rw [List.map_map, List.map_map]
    exact List.map_congr_left fun p _ => turn_about k o p
  have p3 := p2.map (shiftC o)
  rw [e] at p3
  exact sortC_perm p3.symm
end Go.Proofs
