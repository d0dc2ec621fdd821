/- A sort by insertion keeps the order of equal elements; no world. -/
import Derived.Sort.LotA
namespace Go.Proofs
open Go.Sort
set_option maxHeartbeats 4000000
section
variable {α : Type} [Inhabited α] {val : α → Nat} {lt lt' : α → α → Bool}
theorem ins_eq (h : ∀ x y, val y < val x → lt x y = lt' x y) : ∀ (j : Nat) (d : Array α), j < d.size → (∀ p, p < j → val d[p]! < val d[j]!) → insInner lt 0 j d = insInner lt' 0 j d
  | 0, _, _, _ => rfl
  | j + 1, d, hj, hv => by
    have h1 := h d[j + 1]! d[j]! (hv j (Nat.lt_succ_self j))
    unfold insInner
    rw [h1]
    split
    · refine ins_eq h j _ (by rw [swp_size]; omega) fun p hp => ?_
      rw [swp_get d hj (by omega), swp_get d hj (by omega), if_neg (by omega), if_neg (by omega), if_pos rfl]
      exact hv p (by omega)
    · rfl
theorem ins_keep (Q : α → Prop) : ∀ (j : Nat) (d : Array α), j < d.size → (∀ p, p ≤ j → Q d[p]!) → (∀ p, p ≤ j → Q (insInner lt 0 j d)[p]!) ∧ (∀ p, j < p → (insInner lt 0 j d)[p]! = d[p]!) ∧ (insInner lt 0 j d).size = d.size
  | 0, d, _, hq => ⟨hq, fun _ _ => rfl, rfl⟩
  | j + 1, d, hj, hq => by
    unfold insInner
    split
    · have hq2 : ∀ p, p ≤ j → Q (swp d (j + 1) j)[p]! := fun p hp => by
        rw [swp_get d hj (by omega)]
        split
        · exact hq _ (Nat.le_refl _)
        · rw [if_neg (by omega)]
          exact hq p (by omega)
      obtain ⟨a1, a2, a3⟩ := ins_keep Q j (swp d (j + 1) j) (by rw [swp_size]; omega) hq2
      refine ⟨fun p hp => ?_, fun p hp => ?_, by rw [a3, swp_size]⟩
      · rcases Nat.lt_or_eq_of_le hp with h | rfl
        · exact a1 p (by omega)
        · rw [a2 _ (by omega), swp_get d hj (by omega), if_neg (by omega), if_pos rfl]
          exact hq j (by omega)
      · rw [a2 _ (by omega), swp_get d hj (by omega), if_neg (by omega), if_neg (by omega)]
    · exact ⟨hq, fun _ _ => rfl, rfl⟩
theorem outer_eq (h : ∀ x y, val y < val x → lt x y = lt' x y) (b : Nat) : ∀ (n i : Nat) (d : Array α), b - i ≤ n → b ≤ d.size → (∀ p, p < i → val d[p]! < i) → (∀ p, i ≤ p → p < d.size → val d[p]! = p) → insOuter lt 0 b i d = insOuter lt' 0 b i d
  | 0, i, d, hn, _, _, _ => by
    unfold insOuter
    rw [if_neg (by omega), if_neg (by omega)]
  | n + 1, i, d, hn, hb, h1, h2 => by
    unfold insOuter
    split
    · rename_i hi
      have hvi := h2 i (Nat.le_refl _) (by omega)
      have e := ins_eq h i d (by omega) (fun p hp => by rw [hvi]; exact h1 p hp)
      obtain ⟨a1, a2, a3⟩ := ins_keep (lt := lt') (fun x => val x < i + 1) i d (by omega) (fun p hp => by
        rcases Nat.lt_or_eq_of_le hp with h5 | rfl
        · exact Nat.lt_succ_of_lt (h1 p h5)
        · rw [hvi]; exact Nat.lt_succ_self _)
      rw [e]
      refine outer_eq h b n (i + 1) _ (by omega) (by rw [a3]; exact hb) (fun p hp => a1 p (by omega)) (fun p hp hps => ?_)
      rw [a2 p (by omega)]
      exact h2 p (by omega) (by rw [a3] at hps; exact hps)
    · rfl
theorem sort_eq (h : ∀ x y, val y < val x → lt x y = lt' x y) (d : Array α) (h2 : ∀ p, p < d.size → val d[p]! = p) : insertionSort lt d 0 d.size = insertionSort lt' d 0 d.size := by
  unfold insertionSort
  by_cases h0 : d.size = 0
  · unfold insOuter
    rw [if_neg (by omega), if_neg (by omega)]
  · refine outer_eq h d.size d.size 1 d (by omega) (Nat.le_refl _) (fun p hp => ?_) (fun p _ hps => h2 p hps)
    have : p = 0 := by omega
    subst this
    rw [h2 0 (by omega)]
    exact Nat.lt_succ_self 0
end
end Go.Proofs
