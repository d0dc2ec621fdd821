/- Loads: what numbers make of some items, and the search for the first list; no world. -/
import Derived.Test.YtdiddniddohhgaaGreatDoorJobP
namespace Go.Proofs
set_option maxHeartbeats 4000000
set_option maxRecDepth 100000
abbrev ItemT := ByteArray × ByteArray × Int
abbrev LoadT := ByteArray × Int
/-- The loads that a number finds: a new one stands behind the others. -/
def growL (s : List LoadT) (x : ItemT) (n : Int) : List LoadT := if n = s.length then s ++ [(x.2.1, 0)] else s
def loadAt (s : List LoadT) (n : Int) : LoadT := (s[n.toNat]?).getD (⟨#[]⟩, 0)
/-- What an item and its number make of some loads, or the error. -/
noncomputable def stepL (cap : Int) (s : Int × List LoadT) (x : ItemT) (n : Int) : Int × List LoadT :=
  if s.1 ≠ 0 then s else if n < 0 ∨ (s.2.length : Int) < n then (11, []) else if (loadAt (growL s.2 x n) n).1 ≠ x.2.1 then (13, [])
  else if cap < (loadAt (growL s.2 x n) n).2 + x.2.2 then (4, []) else (0, (growL s.2 x n).set n.toNat (x.2.1, (loadAt (growL s.2 x n) n).2 + x.2.2))
noncomputable def packK (cap : Int) (l : List ItemT) (ns : List Int) : Nat → Int × List LoadT
  | 0 => (0, [])
  | k + 1 => match l[k]?, ns[k]? with
    | some x, some n => stepL cap (packK cap l ns k) x n
    | _, _ => packK cap l ns k
noncomputable def packP (cap : Int) (l : List ItemT) (ns : List Int) : Int × List LoadT := packK cap l ns ns.length
theorem packK_succ {cap : Int} {l : List ItemT} {ns : List Int} {k : Nat} {x : ItemT} {n : Int} (hx : l[k]? = some x) (hn : ns[k]? = some n) : packK cap l ns (k + 1) = stepL cap (packK cap l ns k) x n := by
  conv => lhs; unfold packK
  rw [hx, hn]
theorem packK_keep (cap : Int) (l : List ItemT) (ns : List Int) : ∀ (k : Nat), (packK cap l ns k).1 ≠ 0 → packK cap l ns (k + 1) = packK cap l ns k := fun k h => by
  conv => lhs; unfold packK
  split
  · unfold stepL
    rw [if_pos h]
  · rfl
theorem packK_bad {cap : Int} {l : List ItemT} {ns : List Int} {k : Nat} (h : (packK cap l ns k).1 ≠ 0) : ∀ m, k ≤ m → packK cap l ns m = packK cap l ns k
  | 0, hm => by rw [Nat.le_zero.1 hm]
  | m + 1, hm => by
    rcases Nat.lt_or_eq_of_le hm with h2 | rfl
    · have ih := packK_bad h m (by omega)
      rw [packK_keep _ _ _ _ (by rw [ih]; exact h), ih]
    · rfl
theorem packK_take (cap : Int) (l : List ItemT) (ns ms : List Int) : ∀ (k : Nat), (∀ i, i < k → ns[i]? = ms[i]?) → packK cap l ns k = packK cap l ms k
  | 0, _ => rfl
  | k + 1, h => by
    unfold packK
    rw [h k (by omega), packK_take cap l ns ms k fun i hi => h i (by omega)]
/-- A list whose numbers have no error. -/
def Vd (cap : Int) (l : List ItemT) (p : List Int) : Prop := (packP cap l p).1 = 0
theorem vd_nil (cap : Int) (l : List ItemT) : Vd cap l [] := rfl
theorem vd_take {cap : Int} {l : List ItemT} {y : List Int} (h : Vd cap l y) (k : Nat) (hk : k ≤ y.length) : Vd cap l (y.take k) := by
  unfold Vd packP at h ⊢
  have hl : (y.take k).length = k := by rw [List.length_take]; omega
  rw [hl, packK_take cap l (y.take k) y k fun i hi => by rw [List.getElem?_take, if_pos hi]]
  by_cases h0 : (packK cap l y k).1 = 0
  · exact h0
  · have := packK_bad h0 y.length hk
    rw [this] at h
    exact absurd h h0
theorem pack_snoc {cap : Int} {l : List ItemT} {p : List Int} {x : ItemT} {n : Int} (hx : l[p.length]? = some x) : packP cap l (p ++ [n]) = stepL cap (packP cap l p) x n := by
  unfold packP
  rw [List.length_append, List.length_singleton, packK_succ hx (n := n) (by rw [List.getElem?_append_right (Nat.le_refl _), Nat.sub_self]; rfl)]
  rw [packK_take cap l (p ++ [n]) p p.length fun i hi => by rw [List.getElem?_append_left hi]]
/-- A load list for all items with at most so many loads. -/
structure Full (cap : Int) (l : List ItemT) (M : Nat) (y : List Int) : Prop where
  len : y.length = l.length
  ok : Vd cap l y
  lt : ∀ x ∈ y, 0 ≤ x ∧ x < M
/-- A list comes before all that begin with some numbers and go on with no less than one more. -/
def Bef (y p : List Int) (n : Int) : Prop := (∃ i, i < p.length ∧ y.take i = p.take i ∧ at0 y i < at0 p i) ∨ (y.take p.length = p ∧ at0 y p.length < n)
def NoB (cap : Int) (l : List ItemT) (M : Nat) (p : List Int) (n : Int) : Prop := ∀ y, Full cap l M y → ¬ Bef y p n
theorem at0_app_l {p : List Int} {a : Int} {i : Nat} (h : i < p.length) : at0 (p ++ [a]) i = at0 p i := by
  unfold at0
  rw [List.getElem?_append_left h]
theorem at0_app_r (p : List Int) (a : Int) : at0 (p ++ [a]) p.length = a := by
  unfold at0
  rw [List.getElem?_append_right (Nat.le_refl _), Nat.sub_self]
  rfl
theorem at0_in {l : List Int} {i : Nat} (h : i < l.length) : at0 l i ∈ l := by
  unfold at0
  rw [List.getElem?_eq_getElem h]
  exact List.getElem_mem h
theorem take_app {p : List Int} {a : Int} {i : Nat} (h : i ≤ p.length) : (p ++ [a]).take i = p.take i := by
  rw [List.take_append_of_le_length h]
theorem take_one {y : List Int} {k : Nat} (h : k < y.length) : y.take (k + 1) = y.take k ++ [at0 y k] := by
  rw [List.take_add_one, List.getElem?_eq_getElem h]
  unfold at0
  rw [List.getElem?_eq_getElem h]
  rfl
theorem bef_ext {y p : List Int} {k : Int} (hy : ∀ x ∈ y, 0 ≤ x) (h : Bef y (p ++ [k]) 0) : Bef y p k := by
  rcases h with ⟨i, h1, h2, h3⟩ | ⟨h1, h2⟩
  · rw [List.length_append, List.length_singleton] at h1
    rw [take_app (by omega)] at h2
    rcases Nat.lt_or_eq_of_le (Nat.le_of_lt_succ h1) with h4 | rfl
    · rw [at0_app_l h4] at h3
      exact .inl ⟨i, h4, h2, h3⟩
    · rw [at0_app_r] at h3
      rw [List.take_length] at h2
      exact .inr ⟨h2, h3⟩
  · exfalso
    rw [List.length_append, List.length_singleton] at h2
    unfold at0 at h2
    cases e : y[p.length + 1]? with
    | none => rw [e] at h2; simp at h2
    | some x => rw [e] at h2; have := hy x (List.mem_of_getElem? e); simp at h2; omega
theorem bef_back {y p : List Int} {a : Int} {M : Nat} (hy : ∀ x ∈ y, 0 ≤ x ∧ x < M) (hl : p.length + 1 < y.length) (h : Bef y p (a + 1)) : Bef y (p ++ [a]) M := by
  rcases h with ⟨i, h1, h2, h3⟩ | ⟨h1, h2⟩
  · exact .inl ⟨i, by rw [List.length_append]; omega, by rw [take_app (by omega)]; exact h2, by rw [at0_app_l h1]; exact h3⟩
  · by_cases he : at0 y p.length = a
    · refine .inr ⟨?_, ?_⟩
      · rw [List.length_append, List.length_singleton, take_one (by omega), h1, he]
      · rw [List.length_append, List.length_singleton]
        exact (hy _ (at0_in hl)).2
    · refine .inl ⟨p.length, by rw [List.length_append, List.length_singleton]; omega, ?_, ?_⟩
      · rw [take_app (Nat.le_refl _), List.take_length]
        exact h1
      · rw [at0_app_r]
        omega
theorem nob_ext {cap : Int} {l : List ItemT} {M : Nat} {p : List Int} {k : Int} (h : NoB cap l M p k) : NoB cap l M (p ++ [k]) 0 := fun y hy hb =>
  h y hy (bef_ext (fun x hx => (hy.lt x hx).1) hb)
theorem nob_back {cap : Int} {l : List ItemT} {M : Nat} {p : List Int} {a : Int} (hl : p.length + 1 < l.length) (h : NoB cap l M (p ++ [a]) M) : NoB cap l M p (a + 1) := fun y hy hb =>
  h y hy (bef_back hy.lt (by rw [hy.len]; exact hl) hb)
theorem nob_skip {cap : Int} {l : List ItemT} {M : Nat} {p : List Int} {k : Int} (hl : p.length < l.length) (hb : ¬ Vd cap l (p ++ [k])) (h : NoB cap l M p k) : NoB cap l M p (k + 1) := fun y hy hbe => by
  rcases hbe with h1 | ⟨h1, h2⟩
  · exact h y hy (.inl h1)
  · by_cases he : at0 y p.length = k
    · have hyl := hy.len
      refine hb ?_
      have := vd_take hy.ok (p.length + 1) (by omega)
      rw [take_one (by omega), h1, he] at this
      exact this
    · exact h y hy (.inr ⟨h1, by omega⟩)
theorem nob_start (cap : Int) (l : List ItemT) (M : Nat) : NoB cap l M [] 0 := fun y hy hb => by
  rcases hb with ⟨i, h, -⟩ | ⟨-, h⟩
  · exact absurd h (Nat.not_lt_zero i)
  · unfold at0 at h
    cases e : y[([] : List Int).length]? with
    | none => rw [e] at h; simp at h
    | some x => rw [e] at h; have := (hy.lt x (List.mem_of_getElem? e)).1; simp at h; omega
theorem nob_none {cap : Int} {l : List ItemT} {M : Nat} (hl : 0 < l.length) (h : NoB cap l M [] M) : ∀ y, ¬ Full cap l M y := fun y hy =>
  h y hy (.inr ⟨rfl, (hy.lt _ (at0_in (by rw [hy.len]; exact hl))).2⟩)
/-- The place of a search among all: its numbers as digits. -/
def digits (B : Nat) (n : Nat) : List Int → Int → Nat
  | [], k => k.toNat * B ^ n
  | a :: p, k => a.toNat * B ^ n + digits B (n - 1) p k
theorem digits_lt {B : Nat} (hB : 0 < B) : ∀ (p : List Int) (n : Nat) (k : Int), p.length ≤ n → (∀ x ∈ p, 0 ≤ x ∧ x < B) → 0 ≤ k → k < B → digits B n p k < B ^ (n + 1)
  | [], n, k, _, _, h0, h1 => by
    unfold digits
    have h2 : k.toNat + 1 ≤ B := by omega
    have h3 := Nat.mul_le_mul_right (B ^ n) h2
    rw [Nat.add_mul, Nat.one_mul] at h3
    have h4 : 0 < B ^ n := Nat.pow_pos hB
    rw [Nat.pow_succ, Nat.mul_comm (B ^ n) B]
    omega
  | a :: p, 0, k, hl, _, _, _ => by simp at hl
  | a :: p, n + 1, k, hl, h, h0, h1 => by
    unfold digits
    have ih := digits_lt hB p n k (by simpa using hl) (fun x hx => h x (by simp [hx])) h0 h1
    have ha := h a (by simp)
    have h2 : a.toNat + 1 ≤ B := by omega
    have h3 := Nat.mul_le_mul_right (B ^ (n + 1)) h2
    rw [Nat.add_mul, Nat.one_mul] at h3
    rw [Nat.pow_succ B (n + 1), Nat.mul_comm (B ^ (n + 1)) B]
    show a.toNat * B ^ (n + 1) + digits B n p k < B * B ^ (n + 1)
    omega
theorem digits_ext (B : Nat) : ∀ (p : List Int) (n : Nat) (k : Int), p.length ≤ n → digits B n (p ++ [k]) 0 = digits B n p k
  | [], n, k, _ => by simp [digits]
  | a :: p, 0, k, h => by simp at h
  | a :: p, n + 1, k, h => by
    show a.toNat * B ^ (n + 1) + digits B n (p ++ [k]) 0 = _
    rw [digits_ext B p n k (by simpa using h)]
    rfl
theorem digits_mono {B : Nat} : ∀ (p : List Int) (n : Nat) {k k' : Int}, 0 ≤ k → k ≤ k' → digits B n p k ≤ digits B n p k'
  | [], n, k, k', h0, h => by
    unfold digits
    exact Nat.mul_le_mul_right _ (by omega)
  | a :: p, n, k, k', h0, h => by
    unfold digits
    have := digits_mono (B := B) p (n - 1) h0 h
    omega
theorem digits_back {B : Nat} (hB : 0 < B) : ∀ (p : List Int) (n : Nat) {a k : Int}, p.length + 1 ≤ n → 0 ≤ a → 0 ≤ k → k < B → digits B n (p ++ [a]) k < digits B n p (a + 1)
  | [], 0, a, k, h, _, _, _ => by simp at h
  | [], n + 1, a, k, _, h0, h1, h2 => by
    show a.toNat * B ^ (n + 1) + k.toNat * B ^ n < (a + 1).toNat * B ^ (n + 1)
    have e : (a + 1).toNat = a.toNat + 1 := by omega
    have h3 : k.toNat + 1 ≤ B := by omega
    have h4 := Nat.mul_le_mul_right (B ^ n) h3
    rw [Nat.add_mul, Nat.one_mul] at h4
    have h5 : 0 < B ^ n := Nat.pow_pos hB
    rw [e, Nat.add_mul, Nat.one_mul, Nat.pow_succ, Nat.mul_comm (B ^ n) B]
    omega
  | b :: p, 0, a, k, h, _, _, _ => by simp at h
  | b :: p, n + 1, a, k, h, h0, h1, h2 => by
    show b.toNat * B ^ (n + 1) + digits B n (p ++ [a]) k < b.toNat * B ^ (n + 1) + digits B n p (a + 1)
    have := digits_back hB p n (a := a) (k := k) (by simpa using h) h0 h1 h2
    omega
/-- How much of a search is left. -/
def leftK (M n : Nat) (p : List Int) (k : Int) : Nat := ((M + 1) ^ (n + 1) - digits (M + 1) n p k) * (n + 2) + (n + 1 - p.length)
theorem left_of {a b c d D : Nat} (h : a < b ∨ (a = b ∧ c < d)) (hc : c < D) : a * D + c < b * D + d := by
  rcases h with h | ⟨rfl, h⟩
  · have h2 := Nat.mul_le_mul_right D (show a + 1 ≤ b from h)
    rw [Nat.add_mul, Nat.one_mul] at h2
    omega
  · omega
theorem left_ext {M n : Nat} {p : List Int} {k k' : Int} (hp : p.length < n) (hM : ∀ x ∈ p, 0 ≤ x ∧ x < M) (h0 : 0 ≤ k) (hk : k ≤ k') (hk' : k' < M) : leftK M n (p ++ [k']) 0 < leftK M n p k := by
  unfold leftK
  have h1 := digits_mono (B := M + 1) p n h0 hk
  have h2 := digits_lt (B := M + 1) (by omega) p n k' (by omega) (fun x hx => by have := hM x hx; omega) (by omega) (by omega)
  rw [digits_ext _ _ _ _ (by omega), List.length_append, List.length_singleton]
  refine left_of ?_ (by omega)
  rcases Nat.lt_or_eq_of_le h1 with h | h
  · exact .inl (by omega)
  · exact .inr ⟨by rw [h], by omega⟩
theorem left_back {M n : Nat} {p : List Int} {a k : Int} (hp : p.length + 1 < n) (hM : ∀ x ∈ p ++ [a], 0 ≤ x ∧ x < M) (h0 : 0 ≤ k) (hk : k ≤ M) : leftK M n p (a + 1) < leftK M n (p ++ [a]) k := by
  unfold leftK
  have ha := hM a (by simp)
  have h1 := digits_back (B := M + 1) (by omega) p n (a := a) (k := k) (by omega) ha.1 h0 (by omega)
  have h2 := digits_lt (B := M + 1) (by omega) p n (a + 1) (by omega) (fun x hx => by have := hM x (by simp [hx]); omega) (by omega) (by omega)
  rw [List.length_append, List.length_singleton]
  exact left_of (.inl (by omega)) (by omega)
end Go.Proofs
