/- Loads: how many there are at least, as many loads as items, each item into the first load with room; no world. -/
import Derived.Test.YtdiddniddohhgaaGreatDoorPakP
namespace Go.Proofs
set_option maxHeartbeats 4000000
set_option maxRecDepth 100000
theorem stepL_ok {cap : Int} {s s' : List LoadT} {x : ItemT} {n : Int} (h : stepL cap (0, s) x n = (0, s')) : 0 ≤ n ∧ n ≤ s.length ∧ (loadAt (growL s x n) n).1 = x.2.1 ∧ (loadAt (growL s x n) n).2 + x.2.2 ≤ cap ∧ s' = (growL s x n).set n.toNat (x.2.1, (loadAt (growL s x n) n).2 + x.2.2) := by
  unfold stepL at h
  rw [if_neg (by simp)] at h
  dsimp only at h
  split at h
  · injection h with h _; cases h
  · rename_i h1
    split at h
    · injection h with h _; cases h
    · rename_i h2
      split at h
      · injection h with h _; cases h
      · rename_i h3
        injection h with _ h
        exact ⟨by omega, by omega, by simpa using h2, by omega, h.symm⟩
theorem stepL_mk {cap : Int} {s : List LoadT} {x : ItemT} {n : Int} (h0 : 0 ≤ n) (h1 : n ≤ s.length) (h2 : (loadAt (growL s x n) n).1 = x.2.1) (h3 : (loadAt (growL s x n) n).2 + x.2.2 ≤ cap) : stepL cap (0, s) x n = (0, (growL s x n).set n.toNat (x.2.1, (loadAt (growL s x n) n).2 + x.2.2)) := by
  unfold stepL
  rw [if_neg (by simp)]
  dsimp only
  rw [if_neg (by omega), if_neg (by simpa using h2), if_neg (by omega)]
theorem growL_at {s : List LoadT} {x : ItemT} {n : Int} (h0 : 0 ≤ n) (h1 : n ≤ s.length) : (growL s x n)[n.toNat]? = some (loadAt (growL s x n) n) ∧ ((n = s.length ∧ growL s x n = s ++ [(x.2.1, 0)]) ∨ (n < s.length ∧ growL s x n = s)) := by
  have key : (n = s.length ∧ growL s x n = s ++ [(x.2.1, 0)]) ∨ (n < s.length ∧ growL s x n = s) := by
    unfold growL
    by_cases h : n = s.length
    · exact .inl ⟨h, if_pos h⟩
    · exact .inr ⟨by omega, if_neg h⟩
  refine ⟨?_, key⟩
  have hl : n.toNat < (growL s x n).length := by
    rcases key with ⟨h, e⟩ | ⟨h, e⟩
    · rw [e, List.length_append, List.length_singleton]; omega
    · rw [e]; omega
  unfold loadAt
  rw [List.getElem?_eq_getElem hl]
  rfl
def sumL (P : ByteArray) : List LoadT → Int
  | [] => 0
  | o :: s => (if o.1 = P then o.2 else 0) + sumL P s
def cntL (P : ByteArray) : List LoadT → Nat
  | [] => 0
  | o :: s => (if o.1 = P then 1 else 0) + cntL P s
def sumI (P : ByteArray) : List ItemT → Int
  | [] => 0
  | x :: l => (if x.2.1 = P then x.2.2 else 0) + sumI P l
theorem sumL_app (P : ByteArray) : ∀ (s : List LoadT) (o : LoadT), sumL P (s ++ [o]) = sumL P s + (if o.1 = P then o.2 else 0)
  | [], o => by simp [sumL]
  | a :: s, o => by
    show (if a.1 = P then a.2 else 0) + sumL P (s ++ [o]) = _
    rw [sumL_app P s o]
    simp only [sumL]
    omega
theorem sumI_app (P : ByteArray) : ∀ (s : List ItemT) (o : ItemT), sumI P (s ++ [o]) = sumI P s + (if o.2.1 = P then o.2.2 else 0)
  | [], o => by simp [sumI]
  | a :: s, o => by
    show (if a.2.1 = P then a.2.2 else 0) + sumI P (s ++ [o]) = _
    rw [sumI_app P s o]
    simp only [sumI]
    omega
theorem sumL_set (P Q : ByteArray) (v : Int) : ∀ (s : List LoadT) (j : Nat) (o : LoadT), s[j]? = some o → o.1 = Q → sumL P (s.set j (Q, v)) = sumL P s + (if Q = P then v - o.2 else 0)
  | [], _, _, h, _ => by simp at h
  | a :: s, 0, o, h, hq => by
    obtain rfl : a = o := by simpa using h
    subst hq
    show (if a.1 = P then v else 0) + sumL P s = (if a.1 = P then a.2 else 0) + sumL P s + _
    split <;> omega
  | a :: s, j + 1, o, h, hq => by
    show (if a.1 = P then a.2 else 0) + sumL P (s.set j (Q, v)) = (if a.1 = P then a.2 else 0) + sumL P s + _
    rw [sumL_set P Q v s j o (by simpa using h) hq]
    omega
theorem sumL_step {cap : Int} {s s' : List LoadT} {x : ItemT} {n : Int} (h : stepL cap (0, s) x n = (0, s')) (P : ByteArray) : sumL P s' = sumL P s + (if x.2.1 = P then x.2.2 else 0) := by
  obtain ⟨h0, h1, h2, h3, rfl⟩ := stepL_ok h
  obtain ⟨g1, g2⟩ := growL_at (x := x) h0 h1
  rw [sumL_set P _ _ _ _ _ g1 h2]
  have e : sumL P (growL s x n) = sumL P s := by
    rcases g2 with ⟨-, e⟩ | ⟨-, e⟩
    · rw [e, sumL_app]
      split <;> simp
    · rw [e]
  rw [e]
  split <;> omega
/-- What is true of the loads that some numbers make. -/
structure PkI (cap : Int) (l : List ItemT) (ns : List Int) (k : Nat) (s : List LoadT) : Prop where
  few : s.length ≤ k
  lt : ∀ (i : Nat) (n : Int), i < k → ns[i]? = some n → 0 ≤ n ∧ n < s.length
  occ : ∀ j : Nat, j < s.length → ∃ i : Nat, i < k ∧ ns[i]? = some (j : Int)
  sz : ∀ o ∈ s, o.2 ≤ cap
  sum : ∀ P, sumL P s = sumI P (l.take k)
theorem pk_inv {cap : Int} {l : List ItemT} {ns : List Int} (hc : 0 ≤ cap) (hl : ns.length ≤ l.length) : ∀ (k : Nat), k ≤ ns.length → ∀ s, packK cap l ns k = (0, s) → PkI cap l ns k s
  | 0, _, s, h => by
    unfold packK at h
    injection h with _ h
    subst h
    exact ⟨Nat.le_refl _, fun i n hi => absurd hi (Nat.not_lt_zero i), fun j hj => absurd hj (Nat.not_lt_zero j), fun o ho => by simp at ho, fun P => rfl⟩
  | k + 1, hk, s, h => by
    obtain ⟨x, hx⟩ : ∃ x, l[k]? = some x := ⟨_, List.getElem?_eq_getElem (by omega)⟩
    obtain ⟨n, hn⟩ : ∃ n, ns[k]? = some n := ⟨_, List.getElem?_eq_getElem (by omega)⟩
    rw [packK_succ hx hn] at h
    obtain ⟨⟨e, t⟩, ht⟩ : ∃ t, packK cap l ns k = t := ⟨_, rfl⟩
    rw [ht] at h
    by_cases he : e = 0
    · subst he
      have ih := pk_inv hc hl k (by omega) t ht
      have hsum := sumL_step h
      obtain ⟨h0, h1, h2, h3, rfl⟩ := stepL_ok h
      obtain ⟨g1, g2⟩ := growL_at (x := x) h0 h1
      have hlen : ((growL t x n).set n.toNat (x.2.1, (loadAt (growL t x n) n).2 + x.2.2)).length = (growL t x n).length := List.length_set
      have hf := ih.few
      have hg : t.length ≤ (growL t x n).length ∧ (growL t x n).length ≤ t.length + 1 ∧ n.toNat < (growL t x n).length ∧ ((growL t x n).length = t.length + 1 → n = t.length) := by
        rcases g2 with ⟨h, e⟩ | ⟨h, e⟩
        · rw [e, List.length_append, List.length_singleton]; omega
        · rw [e]; omega
      refine ⟨by rw [hlen]; omega, fun i m hi hm => ?_, fun j hj => ?_, fun o ho => ?_, fun P => ?_⟩
      · rw [hlen]
        rcases Nat.lt_or_eq_of_le (Nat.le_of_lt_succ hi) with h4 | rfl
        · have := ih.lt i m h4 hm
          omega
        · obtain rfl := Option.some.inj (hn.symm.trans hm)
          omega
      · rw [hlen] at hj
        by_cases hjt : j < t.length
        · obtain ⟨i, hi, hi2⟩ := ih.occ j hjt
          exact ⟨i, by omega, hi2⟩
        · have := hg.2.2.2 (by omega)
          refine ⟨k, by omega, ?_⟩
          rw [hn, this, show t.length = j by omega]
      · rcases List.mem_or_eq_of_mem_set ho with h4 | h4
        · rcases g2 with ⟨h, e⟩ | ⟨h, e⟩
          · rw [e] at h4
            rcases List.mem_append.1 h4 with h5 | h5
            · exact ih.sz o h5
            · obtain rfl : o = (x.2.1, 0) := by simpa using h5
              exact hc
          · rw [e] at h4
            exact ih.sz o h4
        · rw [h4]
          exact h3
      · rw [hsum P, ih.sum P, List.take_add_one, hx]
        show _ = sumI P (l.take k ++ [x])
        rw [sumI_app]
    · exfalso
      unfold stepL at h
      rw [if_pos he] at h
      injection h with h _
      exact he h
/-- Rounded up. -/
def ceilD (a c : Int) : Int := (a + c - 1) / c
theorem sumL_le {cap : Int} (P : ByteArray) : ∀ (s : List LoadT), (∀ o ∈ s, o.2 ≤ cap) → sumL P s ≤ cap * cntL P s
  | [], _ => by simp [sumL, cntL]
  | o :: s, h => by
    have ih := sumL_le P s fun o ho => h o (by simp [ho])
    have ho := h o (by simp)
    show (if o.1 = P then o.2 else 0) + sumL P s ≤ cap * (((if o.1 = P then 1 else 0) + cntL P s : Nat) : Int)
    split
    · rw [Int.natCast_add, Int.mul_add]
      simp only [Int.natCast_one, Int.mul_one]
      omega
    · rw [Nat.zero_add]
      omega
theorem ceil_le {cap : Int} (hc : 0 < cap) {P : ByteArray} {s : List LoadT} (h : ∀ o ∈ s, o.2 ≤ cap) : ceilD (sumL P s) cap ≤ cntL P s := by
  have h1 := sumL_le P s h
  unfold ceilD
  refine Int.le_of_lt_add_one (Int.ediv_lt_of_lt_mul hc ?_)
  rw [Int.add_mul, Int.one_mul, Int.mul_comm (cntL P s : Int) cap]
  omega
theorem ceil_nn {a c : Int} (ha : 0 ≤ a) (hc : 0 < c) : 0 ≤ ceilD a c := by
  unfold ceilD
  exact Int.ediv_nonneg (by omega) (by omega)
def sumN : List Nat → Nat
  | [] => 0
  | n :: l => n + sumN l
theorem cnt_keys : ∀ (s : List LoadT) (ks : List ByteArray), ks.Nodup → sumN (ks.map fun P => cntL P s) ≤ s.length
  | [], ks, _ => by
    have : ∀ ks : List ByteArray, sumN (ks.map fun P => cntL P []) = 0 := fun ks => by
      induction ks with
      | nil => rfl
      | cons k ks ih => show 0 + _ = 0; rw [ih]
    rw [this]
    exact Nat.zero_le _
  | o :: s, ks, hn => by
    have ih := cnt_keys s ks hn
    have key : ∀ ks : List ByteArray, ks.Nodup → sumN (ks.map fun P => cntL P (o :: s)) ≤ sumN (ks.map fun P => cntL P s) + 1 ∧ (o.1 ∉ ks → sumN (ks.map fun P => cntL P (o :: s)) = sumN (ks.map fun P => cntL P s)) := fun ks => by
      induction ks with
      | nil => intro _; exact ⟨Nat.zero_le _, fun _ => rfl⟩
      | cons k ks ih =>
        intro hn
        rw [List.nodup_cons] at hn
        obtain ⟨h1, h2⟩ := ih hn.2
        have e : cntL k (o :: s) = (if o.1 = k then 1 else 0) + cntL k s := rfl
        refine ⟨?_, fun h => ?_⟩
        · show cntL k (o :: s) + sumN _ ≤ cntL k s + sumN _ + 1
          rw [e]
          split
          · rename_i hk
            rw [h2 (by rw [hk]; exact hn.1)]
            omega
          · omega
        · show cntL k (o :: s) + sumN _ = cntL k s + sumN _
          rw [e, if_neg (fun hk => h (by rw [hk]; exact List.mem_cons_self)), h2 fun hk => h (List.mem_cons_of_mem _ hk)]
          omega
    have := (key ks hn).1
    rw [List.length_cons]
    omega
/-- The bound from the sums of programs. -/
def bndF (cap : Int) : List (ByteArray × Int) → Int
  | [] => 0
  | p :: l => ceilD p.2 cap + bndF cap l
theorem bndF_le {cap : Int} (hc : 0 < cap) {s : List LoadT} (h : ∀ o ∈ s, o.2 ≤ cap) : ∀ (m : List (ByteArray × Int)), (∀ p ∈ m, p.2 = sumL p.1 s) → bndF cap m ≤ sumN ((m.map (·.1)).map fun P => cntL P s)
  | [], _ => Int.le_refl _
  | p :: m, hm => by
    have ih := bndF_le hc h m fun p hp => hm p (by simp [hp])
    have h1 := ceil_le hc (P := p.1) h
    rw [← hm p (by simp)] at h1
    show ceilD p.2 cap + bndF cap m ≤ ((cntL p.1 s + sumN _ : Nat) : Int)
    omega
/-- No list of loads has fewer than the bound. -/
theorem few_le {cap : Int} (hc : 0 < cap) {l : List ItemT} {y : List Int} {s : List LoadT} (hl : y.length = l.length) (hy : packP cap l y = (0, s)) {m : List (ByteArray × Int)} (hm : ∀ p ∈ m, p.2 = sumI p.1 l) (hn : (m.map (·.1)).Nodup) : bndF cap m ≤ s.length := by
  have hi := pk_inv (by omega) (by omega) y.length (Nat.le_refl _) s hy
  have h1 := bndF_le hc hi.sz m fun p hp => by rw [hm p hp, hi.sum p.1, hl, List.take_length]
  have h2 := cnt_keys s (m.map (·.1)) hn
  omega
/-- A list without an error has as many loads as its greatest number says. -/
theorem full_iff {cap : Int} (hc : 0 ≤ cap) {l : List ItemT} {y : List Int} {s : List LoadT} (hl : y.length = l.length) (hy : packP cap l y = (0, s)) (M : Nat) : Full cap l M y ↔ s.length ≤ M := by
  have hi := pk_inv hc (by omega) y.length (Nat.le_refl _) s hy
  constructor
  · intro h
    by_cases h0 : s.length = 0
    · omega
    · obtain ⟨i, -, hi2⟩ := hi.occ (s.length - 1) (by omega)
      have := (h.lt _ (List.mem_of_getElem? hi2)).2
      omega
  · intro h
    refine ⟨hl, by unfold Vd; rw [hy], fun x hx => ?_⟩
    obtain ⟨i, hi2⟩ := List.mem_iff_getElem?.1 hx
    have := hi.lt i x (List.getElem?_eq_some_iff.1 hi2).1 hi2
    omega
theorem full_cnt {cap : Int} {l : List ItemT} {M : Nat} {y : List Int} (h : Full cap l M y) : ∃ s, packP cap l y = (0, s) := by
  have h1 := h.ok
  unfold Vd at h1
  obtain ⟨⟨e, s⟩, hs⟩ : ∃ t, packP cap l y = t := ⟨_, rfl⟩
  rw [hs] at h1
  obtain rfl : e = 0 := h1
  exact ⟨s, hs⟩
/-- Each item by itself. -/
theorem own_loads {cap : Int} {l : List ItemT} (h : ∀ x ∈ l, x.2.2 ≤ cap) : ∀ k, k ≤ l.length → packK cap l ((List.range l.length).map fun (i : Nat) => (i : Int)) k = (0, (l.take k).map fun x => (x.2.1, x.2.2))
  | 0, _ => by simp [packK]
  | k + 1, hk => by
    obtain ⟨x, hx⟩ : ∃ x, l[k]? = some x := ⟨_, List.getElem?_eq_getElem (by omega)⟩
    have hn : ((List.range l.length).map fun (i : Nat) => (i : Int))[k]? = some (k : Int) := by
      rw [List.getElem?_map, List.getElem?_range (by omega)]
      rfl
    rw [packK_succ hx hn, own_loads h k (by omega)]
    obtain ⟨t, ht⟩ : ∃ t, t = (l.take k).map fun x : ItemT => ((x.2.1, x.2.2) : LoadT) := ⟨_, rfl⟩
    have htl : t.length = k := by rw [ht, List.length_map, List.length_take]; omega
    rw [← ht]
    have e : growL t x k = t ++ [(x.2.1, 0)] := by unfold growL; rw [if_pos (by omega)]
    have e2 : loadAt (growL t x k) k = (x.2.1, 0) := by
      unfold loadAt
      rw [e, Int.toNat_natCast, List.getElem?_append_right (by omega), htl, Nat.sub_self]
      rfl
    have hxs := h x (List.mem_of_getElem? hx)
    rw [stepL_mk (by omega) (by omega) (by rw [e2]) (by rw [e2]; show (0 : Int) + x.2.2 ≤ cap; omega), e2, e, List.take_add_one, hx]
    show ((0 : Int), (t ++ [(x.2.1, 0)]).set (k : Int).toNat (x.2.1, 0 + x.2.2)) = (0, (l.take k ++ [x]).map _)
    rw [List.map_append, ← ht, Int.toNat_natCast, List.set_append_right _ _ (by omega), htl, Nat.sub_self, Int.zero_add]
    rfl
theorem own_full {cap : Int} {l : List ItemT} (h : ∀ x ∈ l, x.2.2 ≤ cap) : Full cap l l.length ((List.range l.length).map fun (i : Nat) => (i : Int)) := by
  refine ⟨by simp, ?_, fun x hx => ?_⟩
  · unfold Vd packP
    rw [List.length_map, List.length_range, own_loads h _ (Nat.le_refl _)]
  · obtain ⟨i, hi, rfl⟩ := List.mem_map.1 hx
    have := List.mem_range.1 hi
    omega
/-- The first load with room, among the first k. -/
abbrev fitB (cap : Int) (x : ItemT) (o : LoadT) : Prop := o.1 = x.2.1 ∧ x.2.2 ≤ cap - o.2
def fitK (cap : Int) (s : List LoadT) (x : ItemT) : Nat → Nat
  | 0 => s.length
  | k + 1 => if fitK cap s x k = s.length ∧ fitB cap x ((s[k]?).getD (⟨#[]⟩, 0)) then k else fitK cap s x k
theorem fitK_succ {cap : Int} {s : List LoadT} {x : ItemT} {k : Nat} {o : LoadT} (h : s[k]? = some o) : (fitK cap s x k = s.length ∧ fitB cap x o ∧ fitK cap s x (k + 1) = k) ∨ (¬ (fitK cap s x k = s.length ∧ fitB cap x o) ∧ fitK cap s x (k + 1) = fitK cap s x k) := by
  have e : fitK cap s x (k + 1) = if fitK cap s x k = s.length ∧ fitB cap x ((s[k]?).getD (⟨#[]⟩, 0)) then k else fitK cap s x k := rfl
  rw [h] at e
  by_cases hc : fitK cap s x k = s.length ∧ fitB cap x o
  · exact .inl ⟨hc.1, hc.2, by rw [e]; exact if_pos hc⟩
  · exact .inr ⟨hc, by rw [e]; exact if_neg hc⟩
theorem fitK_in (cap : Int) (s : List LoadT) (x : ItemT) : ∀ k, k ≤ s.length → fitK cap s x k = s.length ∨ ∃ o, fitK cap s x k < s.length ∧ s[fitK cap s x k]? = some o ∧ fitB cap x o
  | 0, _ => .inl rfl
  | k + 1, hk => by
    obtain ⟨o, ho⟩ : ∃ o, s[k]? = some o := ⟨_, List.getElem?_eq_getElem (by omega)⟩
    rcases fitK_succ (cap := cap) (x := x) ho with ⟨-, h2, h3⟩ | ⟨-, h3⟩
    · rw [h3]
      exact .inr ⟨o, by omega, ho, h2⟩
    · rw [h3]
      exact fitK_in cap s x k (by omega)
/-- What each item does to the loads when it goes into the first one with room. -/
theorem fit_step {cap : Int} {s : List LoadT} {x : ItemT} (hx : x.2.2 ≤ cap) : stepL cap (0, s) x (fitK cap s x s.length : Int) = (0, (growL s x (fitK cap s x s.length : Int)).set (fitK cap s x s.length) (x.2.1, (loadAt (growL s x (fitK cap s x s.length : Int)) (fitK cap s x s.length : Int)).2 + x.2.2)) := by
  obtain ⟨n, hn⟩ : ∃ n, n = fitK cap s x s.length := ⟨_, rfl⟩
  have h := fitK_in cap s x s.length (Nat.le_refl _)
  rw [← hn] at h ⊢
  have key : (loadAt (growL s x n) n).1 = x.2.1 ∧ (loadAt (growL s x n) n).2 + x.2.2 ≤ cap ∧ n ≤ s.length := by
    rcases h with h | ⟨o, h1, h2, h3⟩
    · have e : growL s x n = s ++ [(x.2.1, 0)] := by unfold growL; rw [if_pos (by omega)]
      have e2 : loadAt (growL s x n) n = (x.2.1, 0) := by
        unfold loadAt
        rw [e, Int.toNat_natCast, List.getElem?_append_right (by omega), h, Nat.sub_self]
        rfl
      rw [e2]
      exact ⟨rfl, by show (0 : Int) + x.2.2 ≤ cap; omega, by omega⟩
    · have e : growL s x n = s := by unfold growL; rw [if_neg (by omega)]
      have e2 : loadAt (growL s x n) n = o := by
        unfold loadAt
        rw [e, Int.toNat_natCast, h2]
        rfl
      rw [e2]
      exact ⟨h3.1, by have := h3.2; omega, by omega⟩
  have h4 := stepL_mk (cap := cap) (s := s) (x := x) (n := (n : Int)) (by omega) (by omega) key.1 key.2.1
  rw [Int.toNat_natCast] at h4
  exact h4
theorem pack_more {cap cap' : Int} (h : cap ≤ cap') {l : List ItemT} {ns : List Int} : ∀ (k : Nat) (s : List LoadT), packK cap l ns k = (0, s) → packK cap' l ns k = (0, s)
  | 0, s, hs => hs
  | k + 1, s, hs => by
    unfold packK at hs ⊢
    split at hs
    · rename_i x n hx hn
      obtain ⟨⟨e, t⟩, ht⟩ : ∃ t, packK cap l ns k = t := ⟨_, rfl⟩
      rw [ht] at hs
      by_cases he : e = 0
      · subst he
        obtain ⟨h0, h1, h2, h3, rfl⟩ := stepL_ok hs
        rw [pack_more h k t ht]
        exact stepL_mk h0 h1 h2 (by omega)
      · exfalso
        unfold stepL at hs
        rw [if_pos he] at hs
        injection hs with hs _
        exact he hs
    · exact pack_more h k s hs
/-- The best list of loads: as few loads as may be, and the first list with so many. -/
structure BestL (cap : Int) (l : List ItemT) (M : Nat) (b : List Int) : Prop where
  full : Full cap l M b
  few : ∀ (M' : Nat) (y : List Int), Full cap l M' y → M ≤ M'
  first : NoB cap l M b 0
theorem BestL.cnt {cap : Int} (hc : 0 ≤ cap) {l : List ItemT} {M : Nat} {b : List Int} (h : BestL cap l M b) : ∃ s, packP cap l b = (0, s) ∧ s.length = M := by
  obtain ⟨s, hs⟩ := full_cnt h.full
  have h1 := (full_iff hc h.full.len hs M).1 h.full
  have h2 := h.few _ _ ((full_iff hc h.full.len hs s.length).2 (Nat.le_refl _))
  exact ⟨s, hs, by omega⟩
theorem BestL.le {cap : Int} (hc : 0 ≤ cap) {l : List ItemT} {M : Nat} {b : List Int} (h : BestL cap l M b) {y : List Int} {s : List LoadT} (hl : y.length = l.length) (hy : packP cap l y = (0, s)) : M ≤ s.length :=
  h.few _ _ ((full_iff hc hl hy s.length).2 (Nat.le_refl _))
end Go.Proofs
