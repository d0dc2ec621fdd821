/- Shares of a number for weights: pure facts. -/
import Derived.Test.YtmmedmjjbdopjaaGreatDoorRow
namespace Go.Proofs
/-- The integer part of a share, and what is left of it. -/
def shQ (ws : List Int) (T : Int) (i : Nat) : Int := T * ws.getD i 0 / ws.sum
def shR (ws : List Int) (T : Int) (i : Nat) : Int := T * ws.getD i 0 % ws.sum
theorem getD_mem {ws : List Int} {i : Nat} (h : i < ws.length) : ws.getD i 0 ∈ ws := by
  rw [List.getD_eq_getElem?_getD, List.getElem?_eq_getElem h]
  exact List.getElem_mem h
theorem sum_range_getD : ∀ ws : List Int, ((List.range ws.length).map fun i => ws.getD i 0).sum = ws.sum
  | [] => rfl
  | w :: ws => by
    rw [List.length_cons, List.range_succ_eq_map, List.map_cons, List.map_map, List.sum_cons, List.sum_cons]
    have := sum_range_getD ws
    congr 1
theorem sum_map_add {α : Type} (f g : α → Int) : ∀ l : List α, (l.map fun x => f x + g x).sum = (l.map f).sum + (l.map g).sum
  | [] => rfl
  | x :: l => by
    simp only [List.map_cons, List.sum_cons, sum_map_add f g l]
    omega
theorem sum_map_mul {α : Type} (f : α → Int) (c : Int) : ∀ l : List α, (l.map fun x => c * f x).sum = c * (l.map f).sum
  | [] => by simp
  | x :: l => by
    simp only [List.map_cons, List.sum_cons, sum_map_mul f c l, Int.mul_add]
theorem sum_map_le {α : Type} (f : α → Int) (m : Int) : ∀ l : List α, (∀ x ∈ l, f x ≤ m) → (l.map f).sum ≤ l.length * m
  | [], _ => by simp
  | x :: l, h => by
    have h1 := h x (by simp)
    have h2 := sum_map_le f m l fun y hy => h y (by simp [hy])
    simp only [List.map_cons, List.sum_cons, List.length_cons]
    rw [Int.natCast_add, Int.add_mul]
    omega
theorem sum_map_nonneg {α : Type} (f : α → Int) : ∀ l : List α, (∀ x ∈ l, 0 ≤ f x) → 0 ≤ (l.map f).sum
  | [], _ => by simp
  | x :: l, h => by
    have h1 := h x (by simp)
    have h2 := sum_map_nonneg f l fun y hy => h y (by simp [hy])
    simp only [List.map_cons, List.sum_cons]
    omega
theorem sum_map_zero {α : Type} (f : α → Int) : ∀ l : List α, (∀ x ∈ l, f x = 0) → (l.map f).sum = 0
  | [], _ => by simp
  | x :: l, h => by
    have h1 := h x (by simp)
    have h2 := sum_map_zero f l fun y hy => h y (by simp [hy])
    simp only [List.map_cons, List.sum_cons]
    omega
theorem perm_sum {α : Type} (f : α → Int) {l m : List α} (h : l.Perm m) : (l.map f).sum = (m.map f).sum := by
  induction h with
  | nil => rfl
  | cons x _ ih => simp only [List.map_cons, List.sum_cons, ih]
  | swap x y l => simp only [List.map_cons, List.sum_cons]; omega
  | trans _ _ h1 h2 => exact h1.trans h2
/-- How much is left when each has its integer part. -/
def shL (ws : List Int) (T : Int) : Int := T - ((List.range ws.length).map (shQ ws T)).sum
theorem sh_parts (ws : List Int) (T : Int) (i : Nat) : ws.sum * shQ ws T i + shR ws T i = T * ws.getD i 0 := by
  unfold shQ shR
  exact Int.mul_ediv_add_emod _ _
theorem sh_rests {ws : List Int} {T : Int} : ((List.range ws.length).map (shR ws T)).sum = ws.sum * shL ws T := by
  have h1 : ((List.range ws.length).map fun i => ws.sum * shQ ws T i + shR ws T i).sum = ((List.range ws.length).map fun i => T * ws.getD i 0).sum := by
    congr 1
    exact List.map_congr_left fun i _ => sh_parts ws T i
  rw [sum_map_add, sum_map_mul, sum_map_mul, sum_range_getD] at h1
  unfold shL
  rw [Int.mul_sub]
  have := Int.mul_comm T ws.sum
  omega
theorem shR_bd {ws : List Int} {T : Int} (hS : 0 < ws.sum) (i : Nat) : 0 ≤ shR ws T i ∧ shR ws T i < ws.sum :=
  ⟨Int.emod_nonneg _ (by omega), Int.emod_lt_of_pos _ hS⟩
theorem shL_bd {ws : List Int} {T : Int} (hS : 0 < ws.sum) : 0 ≤ shL ws T ∧ shL ws T ≤ ws.length := by
  have h1 : 0 ≤ ((List.range ws.length).map (shR ws T)).sum := sum_map_nonneg _ _ fun i _ => (shR_bd hS i).1
  have h2 := sum_map_le (shR ws T) ws.sum (List.range ws.length) fun i _ => Int.le_of_lt (shR_bd hS i).2
  rw [sh_rests] at h1 h2
  rw [List.length_range, Int.mul_comm] at h2
  exact ⟨Int.nonneg_of_mul_nonneg_right h1 hS, Int.le_of_mul_le_mul_right h2 hS⟩
/-- The shares, where those that stand first in an order get one more. -/
def shareAt (ws : List Int) (T : Int) (p : List Nat) (j : Nat) (i : Nat) : Int := shQ ws T i + if i ∈ p.take j then 1 else 0
/-- What shares have to be. -/
structure Shared (ws : List Int) (T : Int) (f : Nat → Int) : Prop where
  bd : ∀ i, i < ws.length → 0 ≤ f i ∧ f i ≤ T ∧ T * ws.getD i 0 - ws.sum < f i * ws.sum ∧ f i * ws.sum < T * ws.getD i 0 + ws.sum
  mono : ∀ i k, i < ws.length → k < ws.length → ws.getD k 0 < ws.getD i 0 → f k ≤ f i
  sum : ((List.range ws.length).map f).sum = T
theorem mem_le_sum : ∀ {ws : List Int}, (∀ w ∈ ws, 0 ≤ w) → ∀ w ∈ ws, w ≤ ws.sum
  | v :: ws, h, w, hw => by
    have hv := h v (by simp)
    have h0 : 0 ≤ ws.sum := by
      have := sum_map_nonneg (fun x : Int => x) ws fun x hx => h x (by simp [hx])
      simpa using this
    rw [List.sum_cons]
    rcases List.mem_cons.1 hw with rfl | hw
    · omega
    · have := mem_le_sum (ws := ws) (fun x hx => h x (by simp [hx])) w hw
      omega
/-- One of the first has something left. -/
theorem first_rest {ws : List Int} {T : Int} (hS : 0 < ws.sum) {p : List Nat} (hp : p.Perm (List.range ws.length)) (hd : ∀ (a b i k : Nat), a < b → p[a]? = some i → p[b]? = some k → shR ws T k ≤ shR ws T i) {i : Nat} (hi : i ∈ p.take (shL ws T).toNat) : 0 < shR ws T i := by
  refine Classical.byContradiction fun hn => ?_
  have h0 : shR ws T i = 0 := by have := (shR_bd (T := T) hS i).1; omega
  obtain ⟨j, hj⟩ := List.mem_iff_getElem?.1 hi
  rw [List.getElem?_take] at hj
  have hjL : j < (shL ws T).toNat := by
    refine Classical.byContradiction fun h => ?_
    rw [if_neg h] at hj
    cases hj
  rw [if_pos hjL] at hj
  have hdrop : ∀ x ∈ p.drop j, shR ws T x = 0 := fun x hx => by
    obtain ⟨b, hb⟩ := List.mem_iff_getElem?.1 hx
    rw [List.getElem?_drop] at hb
    match b, hb with
    | 0, hb =>
      rw [Nat.add_zero, hj] at hb
      cases hb
      exact h0
    | b + 1, hb =>
      have := hd j (j + (b + 1)) i x (by omega) hj hb
      have := (shR_bd (T := T) hS x).1
      omega
  have hsum : (p.map (shR ws T)).sum = ((p.take j).map (shR ws T)).sum := by
    have : p.map (shR ws T) = (p.take j).map (shR ws T) ++ (p.drop j).map (shR ws T) := by rw [← List.map_append, List.take_append_drop]
    rw [this, List.sum_append, sum_map_zero _ _ hdrop]
    omega
  have hle := sum_map_le (shR ws T) (ws.sum - 1) (p.take j) fun x _ => by have := (shR_bd (T := T) hS x).2; omega
  rw [← hsum, perm_sum _ hp, sh_rests] at hle
  have hlen : ((p.take j).length : Int) ≤ j := by rw [List.length_take]; omega
  have h1 : ((p.take j).length : Int) * (ws.sum - 1) ≤ j * (ws.sum - 1) := Int.mul_le_mul_of_nonneg_right hlen (by omega)
  have h2 : (j : Int) * (ws.sum - 1) ≤ (shL ws T - 1) * (ws.sum - 1) := Int.mul_le_mul_of_nonneg_right (by omega) (by omega)
  have h3 : ws.sum * shL ws T ≤ (shL ws T - 1) * (ws.sum - 1) := by omega
  have h4 : (shL ws T - 1) * (ws.sum - 1) = ws.sum * shL ws T - shL ws T - ws.sum + 1 := by
    rw [Int.sub_mul, Int.mul_sub, Int.mul_comm (shL ws T) ws.sum]
    omega
  omega
theorem nodup_of_perm_range {p : List Nat} {n : Nat} (hp : p.Perm (List.range n)) : p.Nodup := hp.nodup_iff.2 List.nodup_range
theorem count_take {p : List Nat} {n : Nat} (hp : p.Perm (List.range n)) (j : Nat) (hj : j ≤ n) : ((List.range n).map fun i => if i ∈ p.take j then (1 : Int) else 0).sum = j := by
  rw [← perm_sum (fun i => if i ∈ p.take j then (1 : Int) else 0) hp]
  have hlen : p.length = n := by rw [hp.length_eq, List.length_range]
  have hnd := nodup_of_perm_range hp
  have e : p.map (fun i => if i ∈ p.take j then (1 : Int) else 0) = (p.take j).map (fun _ => (1 : Int)) ++ (p.drop j).map (fun _ => (0 : Int)) := by
    conv => lhs; arg 2; rw [← List.take_append_drop j p]
    rw [List.map_append]
    congr 1
    · exact List.map_congr_left fun i hi => by rw [if_pos (by simpa using hi)]
    · refine List.map_congr_left fun i hi => if_neg fun h => ?_
      have h2 : i ∈ p.take j := by simpa using h
      have hnd' : (p.take j ++ p.drop j).Nodup := by rw [List.take_append_drop]; exact hnd
      exact (List.nodup_append.1 hnd').2.2 i h2 i hi rfl
  rw [e, List.sum_append, sum_map_zero _ _ (fun _ _ => rfl)]
  have : ∀ l : List Nat, (l.map fun _ => (1 : Int)).sum = l.length := fun l => by
    induction l with
    | nil => rfl
    | cons x l ih => simp only [List.map_cons, List.sum_cons, List.length_cons, ih]; omega
  rw [this, List.length_take]
  omega
theorem shared_ok {ws : List Int} {T : Int} (hT : 0 ≤ T) (hw : ∀ w ∈ ws, 0 ≤ w) (hS : 0 < ws.sum) {p : List Nat} (hp : p.Perm (List.range ws.length)) (hd : ∀ (a b i k : Nat), a < b → p[a]? = some i → p[b]? = some k → shR ws T k ≤ shR ws T i) :
    Shared ws T (shareAt ws T p (shL ws T).toNat) := by
  have hL := shL_bd (T := T) hS
  have hb : ∀ i, i < ws.length → T * ws.getD i 0 - ws.sum < shareAt ws T p (shL ws T).toNat i * ws.sum ∧ shareAt ws T p (shL ws T).toNat i * ws.sum < T * ws.getD i 0 + ws.sum ∧ 0 ≤ shareAt ws T p (shL ws T).toNat i := fun i hi => by
    have h1 := sh_parts ws T i
    have h2 := shR_bd (T := T) hS i
    have h3 : 0 ≤ shQ ws T i := Int.ediv_nonneg (Int.mul_nonneg hT (hw _ (getD_mem hi))) (by omega)
    have e : shareAt ws T p (shL ws T).toNat i * ws.sum = ws.sum * shQ ws T i + (if i ∈ p.take (shL ws T).toNat then ws.sum else 0) := by
      unfold shareAt
      rw [Int.add_mul, Int.mul_comm]
      split <;> omega
    refine ⟨?_, ?_, ?_⟩
    · rw [e]; split <;> omega
    · rw [e]
      split
      · rename_i hi'
        have := first_rest hS hp hd hi'
        omega
      · omega
    · unfold shareAt
      split <;> omega
  refine ⟨fun i hi => ⟨(hb i hi).2.2, ?_, (hb i hi).1, (hb i hi).2.1⟩, fun i k hi hk hlt => ?_, ?_⟩
  · have h1 := (hb i hi).2.1
    have h2 := mem_le_sum hw _ (getD_mem hi)
    have h3 : T * ws.getD i 0 ≤ T * ws.sum := Int.mul_le_mul_of_nonneg_left h2 hT
    have h4 : shareAt ws T p (shL ws T).toNat i * ws.sum < (T + 1) * ws.sum := by rw [Int.add_mul]; omega
    have := Int.lt_of_mul_lt_mul_right h4 (by omega)
    omega
  · have a1 := sh_parts ws T i
    have a2 := shR_bd (T := T) hS i
    have b1 := sh_parts ws T k
    have b2 := shR_bd (T := T) hS k
    by_cases hT0 : T = 0
    · subst hT0
      have q : ∀ i, shareAt ws 0 p (shL ws 0).toNat i = 0 := fun i => by
        have hq : ∀ i, shQ ws 0 i = 0 := fun i => by unfold shQ; simp
        have hl : shL ws 0 = 0 := by
          unfold shL
          rw [sum_map_zero _ _ fun i _ => hq i]
          rfl
        unfold shareAt
        rw [hq, hl]
        simp
      rw [q, q]
      exact Int.le_refl _
    · have hlt' : T * ws.getD k 0 < T * ws.getD i 0 := Int.mul_lt_mul_of_pos_left hlt (by omega)
      have hq : shQ ws T k ≤ shQ ws T i := Int.ediv_le_ediv hS (Int.le_of_lt hlt')
      unfold shareAt
      by_cases hk' : k ∈ p.take (shL ws T).toNat
      · rw [if_pos hk']
        rcases Int.lt_or_eq_of_le hq with h | h
        · split <;> omega
        · have hi' : i ∈ p.take (shL ws T).toNat := by
            have hr : shR ws T k < shR ws T i := by rw [← h] at a1; omega
            obtain ⟨b, hb'⟩ := List.mem_iff_getElem?.1 hk'
            rw [List.getElem?_take] at hb'
            have hbL : b < (shL ws T).toNat := by
              refine Classical.byContradiction fun h => ?_
              rw [if_neg h] at hb'
              cases hb'
            rw [if_pos hbL] at hb'
            obtain ⟨a, ha⟩ := List.mem_iff_getElem?.1 (hp.mem_iff.2 (List.mem_range.2 hi))
            have hab : a < b := by
              refine Classical.byContradiction fun hn => ?_
              rcases Nat.lt_or_eq_of_le (Nat.le_of_not_lt hn) with h' | rfl
              · have := hd b a k i h' hb' ha
                omega
              · rw [ha] at hb'
                cases hb'
                omega
            refine List.mem_iff_getElem?.2 ⟨a, ?_⟩
            rw [List.getElem?_take, if_pos (by omega)]
            exact ha
          rw [if_pos hi']
          omega
      · rw [if_neg hk']
        split <;> omega
  · unfold shareAt
    rw [sum_map_add, count_take hp _ (by omega)]
    unfold shL at hL ⊢
    omega
end Go.Proofs
