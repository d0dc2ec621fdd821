import Derived.Test.YtmgnidodkipohaaGood
namespace Go.Proofs
open Go.RowKit Go.AM
set_option maxRecDepth 1000000
theorem eqC_iff (a b : Cel) : eqC a b = true ↔ a = b := by
  obtain ⟨a1, a2, a3⟩ := a
  obtain ⟨b1, b2, b3⟩ := b
  unfold eqC
  simp only [eqI_eq, Bool.and_eq_true, beq_iff_eq, Prod.mk.injEq, and_assoc]
theorem eqLC_iff : ∀ l m : List Cel, eqLC l m = true ↔ l = m
  | [], [] => by simp [eqLC]
  | [], _ :: _ => by simp [eqLC]
  | _ :: _, [] => by simp [eqLC]
  | a :: l, b :: m => by
    simp only [eqLC, Bool.and_eq_true, eqC_iff, eqLC_iff l m, List.cons.injEq]
theorem twN_lt {a b : Nat} (ha : a < 24) (hb : b < 24) : twN a b < 24 := by
  have h := List.all_eq_true.1 (List.all_eq_true.1 twice_lt a (List.mem_range.2 ha)) b (List.mem_range.2 hb)
  exact Nat.le_of_ble_eq_true h
def sT (i : Nat) : List Cel := sortC (axesL.map (turnB i zeroC))
def sMir (j : Nat) : List Cel := sortC (axesL.map (mirrorC j))
def cntOf (f : Nat → Bool) (j : Nat) : Nat := ((List.range j).filter f).length
theorem cntOf_succ (f : Nat → Bool) (j : Nat) : cntOf f (j + 1) = cntOf f j + (if f j then 1 else 0) := by
  unfold cntOf
  rw [List.range_succ, List.filter_append, List.length_append]
  congr 1
  cases h : f j <;> simp [h]
theorem cntOf_le (f : Nat → Bool) (j : Nat) : cntOf f j ≤ j := by
  have := List.length_filter_le f (List.range j)
  rwa [List.length_range] at this
theorem sT_len (i : Nat) : (sT i).length = 4 := by
  unfold sT
  rw [sortC_len, List.length_map]
  rfl
theorem sMir_len (j : Nat) : (sMir j).length = 4 := by
  unfold sMir
  rw [sortC_len, List.length_map]
  rfl
theorem sT_here {i : Nat} (h : i < 24) : sT i = hereI i := isortC_eq (List.all_eq_true.1 here_asc i (List.mem_range.2 h))
theorem sMir_mir {j : Nat} (h : j < 3) : sMir j = mirI j axesL := isortC_eq (List.all_eq_true.1 mir_asc j (List.mem_range.2 h))
theorem sT_ne_mir {i j : Nat} (hi : i < 24) (hj : j < 3) : sT i ≠ sMir j := fun e => by
  have h := List.all_eq_true.1 (List.all_eq_true.1 mir_not j (List.mem_range.2 hj)) i (List.mem_range.2 hi)
  rw [sT_here hi, sMir_mir hj] at e
  rw [(eqLC_iff _ _).2 e] at h
  cases h
theorem cnt_same {k : Nat} (hk : k < 24) : cntOf (fun i => decide (sT i = sT k)) 24 = 1 := by
  have h := Nat.eq_of_beq_eq_true (List.all_eq_true.1 here_same k (List.mem_range.2 hk))
  unfold cntOf
  rw [← h]
  congr 1
  apply List.filter_congr
  intro i hi
  rw [sT_here (List.mem_range.1 hi), sT_here hk]
  cases e : eqLC (hereI i) (hereI k) with
  | true => exact decide_eq_true ((eqLC_iff _ _).1 e)
  | false => exact decide_eq_false fun e2 => by rw [(eqLC_iff _ _).2 e2] at e; cases e
theorem cnt_undone {k : Nat} (hk : k < 24) : cntOf (fun i => Nat.beq (twN k i) 0) 24 = 1 :=
  Nat.eq_of_beq_eq_true (List.all_eq_true.1 twice_undone k (List.mem_range.2 hk))
theorem two_half' {k j : Nat} (hk : k < 24) (hj : j < 3) : sortC ((sortC ((sT k).map (mirrorC ((j+1)%3)))).map (mirrorC ((j+2)%3))) = sortC ((sT k).map (turnB (halfN j) zeroC)) := by
  have h := List.all_eq_true.1 (List.all_eq_true.1 two_half k (List.mem_range.2 hk)) j (List.mem_range.2 hj)
  simp only [Bool.and_eq_true] at h
  obtain ⟨⟨⟨h1, h2⟩, h3⟩, h4⟩ := h
  rw [sT_here hk]
  have e1 : sortC ((hereI k).map (mirrorC ((j+1)%3))) = mirI ((j+1)%3) (hereI k) := isortC_eq h1
  have e2 : sortC ((mirI ((j+1)%3) (hereI k)).map (mirrorC ((j+2)%3))) = mirI ((j+2)%3) (mirI ((j+1)%3) (hereI k)) := isortC_eq h2
  have e3 : sortC ((hereI k).map (turnB (halfN j) zeroC)) = isortC ((hereI k).map (turnB (halfN j) zeroC)) := isortC_eq h3
  rw [e1, e2, e3]
  exact (eqLC_iff _ _).1 h4
theorem zeroC_near : Near zeroC 0 := by unfold Near zeroC; decide
theorem sT_good {k : Nat} (hk : k < 24) : Good (sT k) 3 :=
  (Good.sort (nodup_map (turnB_inj hk zeroC) axes_good.nd) (near_map fun c hc => turnB_near (axes_good.near c hc) zeroC_near)).mono (by decide)
theorem aboutC_near {m n : Nat} (hm : m < 24) (hn : n < 24) : Near ((m : Int), -(n : Int), 5) 23 := by
  unfold Near
  dsimp only
  omega
theorem negC_near {o : Cel} {b : Int} (h : Near o b) : Near (negC o) b := by
  unfold Near negC at *
  dsimp only
  omega
theorem rem_cases (n : Nat) : (n % 3 = 0 ∧ (n + 1) % 3 = 1 ∧ (n + 2) % 3 = 2) ∨ (n % 3 = 1 ∧ (n + 1) % 3 = 2 ∧ (n + 2) % 3 = 0) ∨ (n % 3 = 2 ∧ (n + 1) % 3 = 0 ∧ (n + 2) % 3 = 1) := by omega
end Go.Proofs
