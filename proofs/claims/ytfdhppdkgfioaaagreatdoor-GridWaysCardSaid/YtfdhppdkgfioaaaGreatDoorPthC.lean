import Derived.Test.YtfdhppdkgfioaaaGreatDoorPthS
import Derived.Test.YtfdhppdkgfioaaaGreatDoorPrtC
section
/- Parts: the cells that have been seen, as a list of booleans beside the set; what is taken after one more part; no world. -/
namespace Go.Proofs
set_option maxHeartbeats 4000000
set_option maxRecDepth 100000
section
variable {α : Type}
structure SeenR (l : List α) (b : List Bool) (M : α → Prop) : Prop where
  len : b.length = l.length
  at_ : ∀ (k : Nat) (c : α), l[k]? = some c → ∃ v, b[k]? = some v ∧ (v = true ↔ M c)
theorem SeenR.start (l : List α) : SeenR l (List.replicate l.length false) fun _ => False where
  len := by simp
  at_ := fun k c hc => ⟨false, by rw [List.getElem?_replicate, if_pos (List.getElem?_eq_some_iff.1 hc).1], by simp⟩
theorem SeenR.set {l : List α} {b : List Bool} {M M' : α → Prop} (h : SeenR l b M) (hnd : l.Nodup) {k : Nat} {d : α} (hd : l[k]? = some d) (hM : ∀ c, M' c ↔ M c ∨ c = d) : SeenR l (b.set k true) M' where
  len := by rw [List.length_set, h.len]
  at_ := fun i c hc => by
    by_cases hik : k = i
    · subst hik
      obtain rfl := Option.some.inj (hd.symm.trans hc)
      exact ⟨true, List.getElem?_set_self (by rw [h.len]; exact (List.getElem?_eq_some_iff.1 hd).1), by simp [hM]⟩
    · obtain ⟨v, hv, hvm⟩ := h.at_ i c hc
      refine ⟨v, by rw [List.getElem?_set_ne hik]; exact hv, ?_⟩
      rw [hvm, hM]
      constructor
      · exact .inl
      · rintro (h1 | rfl)
        · exact h1
        · exact absurd (nodup_at hnd hd hc) hik
theorem SeenR.congr {l : List α} {b : List Bool} {M M' : α → Prop} (h : SeenR l b M) (hM : ∀ c, M c ↔ M' c) : SeenR l b M' :=
  ⟨h.len, fun k c hc => by
    obtain ⟨v, hv, hvm⟩ := h.at_ k c hc
    exact ⟨v, hv, hvm.trans (hM c)⟩⟩
theorem SeenR.val {l : List α} {b : List Bool} {M : α → Prop} (h : SeenR l b M) {k : Nat} {c : α} {v : Bool} (hc : l[k]? = some c) (hv : b[k]? = some v) : v = true ↔ M c := by
  obtain ⟨v2, hv2, hm⟩ := h.at_ k c hc
  obtain rfl := Option.some.inj (hv.symm.trans hv2)
  exact hm
variable {R : α → α → Prop}
/-- What is taken once the part of a new cell is. -/
theorem taken_new {l : List α} {k : Nat} {c : α} (hc : l[k]? = some c) (hin : c ∉ (partK R l k).flatten) {p : List α} (hp : ∀ d, d ∈ p ↔ d ∈ partC R l c) (d : α) : d ∈ (partK R l (k + 1)).flatten ↔ d ∈ (partK R l k).flatten ∨ d ∈ p := by
  rw [partK_new hc hin, List.flatten_append, List.mem_append, hp d]
  simp
/-- Each cell is in one part, and each part is within the set. -/
theorem partK_all (hsym : ∀ a b, R a b → R b a) {l : List α} (d : α) : d ∈ (partK R l l.length).flatten ↔ d ∈ l := by
  obtain ⟨h1, -, h3⟩ := partK_taken hsym (l := l) l.length (Nat.le_refl _)
  refine ⟨h1 d, fun hd => ?_⟩
  obtain ⟨i, hi⟩ := List.mem_iff_getElem?.1 hd
  exact h3 i d (List.getElem?_eq_some_iff.1 hi).1 hi
/-- Each part is that of one of the cells. -/
theorem partK_is {l : List α} : ∀ k, ∀ p ∈ partK R l k, ∃ c ∈ l, p = partC R l c
  | 0, p, h => by simp [partK] at h
  | k + 1, p, h => by
    cases hc : l[k]? with
    | none =>
      have e : partK R l (k + 1) = partK R l k := by
        conv => lhs; unfold partK
        rw [hc]
        exact List.append_nil _
      rw [e] at h
      exact partK_is k p h
    | some c =>
      by_cases hin : c ∈ (partK R l k).flatten
      · rw [partK_in hc hin] at h
        exact partK_is k p h
      · rw [partK_new hc hin] at h
        rcases List.mem_append.1 h with h | h
        · exact partK_is k p h
        · exact ⟨c, List.mem_of_getElem? hc, by simpa using h⟩
theorem flatten_sum {β : Type} : ∀ L : List (List β), L.flatten.length = (L.map List.length).foldr (· + ·) 0
  | [] => rfl
  | a :: L => by
    show (a ++ L.flatten).length = a.length + (L.map List.length).foldr (· + ·) 0
    rw [List.length_append, flatten_sum L]
/-- All parts together have as many cells as the set. -/
theorem partK_nodup (hsym : ∀ a b, R a b → R b a) {l : List α} (hnd : l.Nodup) : ∀ k, k ≤ l.length → (partK R l k).flatten.Nodup
  | 0, _ => by simp [partK]
  | k + 1, hk => by
    have ih := partK_nodup hsym hnd k (by omega)
    obtain ⟨c, hc⟩ : ∃ c, l[k]? = some c := ⟨_, List.getElem?_eq_getElem (by omega)⟩
    have hcl : c ∈ l := List.mem_of_getElem? hc
    by_cases hin : c ∈ (partK R l k).flatten
    · rw [partK_in hc hin]
      exact ih
    · rw [partK_new hc hin, List.flatten_append]
      have e : ([partC R l c] : List (List α)).flatten = partC R l c := by simp
      rw [e, List.nodup_append]
      refine ⟨ih, partC_nodup hnd c, fun a ha b hb => ?_⟩
      rintro rfl
      obtain ⟨h1, h2, -⟩ := partK_taken hsym (l := l) k (by omega)
      -- a is taken, and one comes from c to a: so c is taken
      have hr := ((partC_mem hcl a).1 hb).symm hsym hcl
      have key : ∀ (n : Nat) (d : α), ReachN R (· ∈ l) a n d → d ∈ (partK R l k).flatten := fun n => by
        induction n with
        | zero =>
          intro d hd
          obtain rfl : d = a := hd
          exact ha
        | succ n ihn =>
          intro d hd
          obtain ⟨hs, f, hf, hrf⟩ := hd
          exact h2 f d (ihn f hf) hs hrf
      obtain ⟨n, hn⟩ := hr
      exact hin (key n c hn)
theorem partK_len (hsym : ∀ a b, R a b → R b a) {l : List α} (hnd : l.Nodup) : (partK R l l.length).flatten.length = l.length :=
  ((List.perm_ext_iff_of_nodup (partK_nodup hsym hnd _ (Nat.le_refl _)) hnd).2 fun d => partK_all hsym d).length_eq
/-- Two cells are in one part exactly where one comes from one to the other. -/
theorem part_both (hsym : ∀ a b, R a b → R b a) {l : List α} {c a b : α} (hc : c ∈ l) (ha : a ∈ partC R l c) : b ∈ partC R l c ↔ Reach R (· ∈ l) a b := by
  have h1 := (partC_mem hc a).1 ha
  rw [partC_mem hc b]
  exact ⟨fun h => (h1.symm hsym hc).trans h, fun h => h1.trans h⟩
end
end Go.Proofs
end

section
/- The steps of a set's cells to one of them, and the path, told without a search. -/
namespace Go.Proofs
open Go.RowKit
set_option maxHeartbeats 4000000
/-- A cell whose steps are known has, but for the end, a neighbour that is nearer. -/
theorem near_less {α : Type} {near : α → List α} {S : α → Prop} {to : α} {st : α → Option Nat} {D : Nat} (hsym : ∀ c d, d ∈ near c → c ∈ near d) (h : ∀ d k, k < D → IsDist near S to d k → st d = some k) (h2 : ∀ d k, st d = some k → IsDist near S to d k) {n : Nat} {c : α} (hn : n + 1 ≤ D) (hc : st c = some (n + 1)) : ∃ d ∈ near c, st d = some n := by
  obtain ⟨⟨hs, b, hb, hcb⟩, hmin⟩ := h2 c _ hc
  have hbd : IsDist near S to b n := ⟨hb, fun k hk => by
    have := hmin (k + 1) ⟨hs, b, hk, hcb⟩
    omega⟩
  exact ⟨b, hsym b c hcb, h b n (by omega) hbd⟩
/-- The steps from a cell of a set to one of its cells. -/
noncomputable def stC (l : List Cel) (to d : Cel) : Option Nat := by
  classical
  exact if h : ∃ n, IsDist nearL (· ∈ l) to d n then some h.choose else none
theorem stC_iff {l : List Cel} {to d : Cel} {n : Nat} : stC l to d = some n ↔ IsDist nearL (· ∈ l) to d n := by
  classical
  unfold stC
  split
  · rename_i h
    constructor
    · intro e
      rw [← Option.some.inj e]
      exact h.choose_spec
    · intro e
      rw [h.choose_spec.same e]
  · rename_i h
    constructor
    · intro e
      cases e
    · intro e
      exact absurd ⟨n, e⟩ h
theorem stC_none {l : List Cel} {to d : Cel} : stC l to d = none ↔ ¬ ∃ n, IsDist nearL (· ∈ l) to d n := by
  cases e : stC l to d with
  | none =>
    refine ⟨fun _ => ?_, fun _ => rfl⟩
    rintro ⟨n, hn⟩
    rw [stC_iff.2 hn] at e
    cases e
  | some n =>
    refine ⟨fun h => (by cases h), fun h => absurd ⟨n, stC_iff.1 e⟩ h⟩
theorem bfs_end {l q : List Cel} {st : Cel → Option Nat} {to : Cel} {i j : Nat} (h : BfsI nearL (· ∈ l) to q st i j) (hi : q.length ≤ i) : st = stC l to := by
  funext d
  have key : ∀ n, st d = some n ↔ stC l to d = some n := fun n => by rw [h.done_dist hi, stC_iff]
  cases e : st d with
  | none =>
    cases e2 : stC l to d with
    | none => rfl
    | some n => rw [(key n).2 e2] at e; cases e
  | some n => exact ((key n).1 e).symm
/-- What a search gives that ended, or stopped at the cell from which the path leads: the steps up to D are known. -/
structure Known (l : List Cel) (to : Cel) (st : Cel → Option Nat) (D : Nat) : Prop where
  low : ∀ d k, k < D → (st d = some k ↔ stC l to d = some k)
theorem Known.of_end {l q : List Cel} {st : Cel → Option Nat} {to : Cel} {i j : Nat} (h : BfsI nearL (· ∈ l) to q st i j) (hi : q.length ≤ i) (D : Nat) : Known l to st D := by
  rw [bfs_end h hi]
  exact ⟨fun _ _ _ => Iff.rfl⟩
theorem Known.of_stop {l q : List Cel} {st : Cel → Option Nat} {to c : Cel} {i j m : Nat} (h : BfsI nearL (· ∈ l) to q st i j) (hc : q[i]? = some c) (hm : st c = some m) : Known l to st (m + 1) :=
  ⟨fun d k hk => by
    rw [stC_iff]
    exact ⟨(h.upto_dist hc hm d).1 k, (h.upto_dist hc hm d).2 k (by omega)⟩⟩
theorem Known.of_self (l : List Cel) (to : Cel) (D : Nat) : Known l to (stC l to) D := ⟨fun _ _ _ => Iff.rfl⟩
/-- The path. -/
noncomputable def pathC (l : List Cel) (a b : Cel) : Option (List Cel) := (stC l b a).map fun n => pathF nearL (stC l b) n a
theorem pathC_known {l : List Cel} {to a : Cel} {st : Cel → Option Nat} {n : Nat} (h : Known l to st n) (ha : stC l to a = some n) : pathC l a to = some (pathF nearL st n a) := by
  unfold pathC
  rw [ha]
  exact congrArg some (pathF_same (D := n) (fun d k hk => (h.low d k hk).symm) n a (Nat.le_refl _))
theorem Known.find {l : List Cel} {to c : Cel} {st : Cel → Option Nat} {n D : Nat} (h : Known l to st D) (hn : n + 1 ≤ D) (hc : stC l to c = some (n + 1)) : ∃ d ∈ nearL c, st d = some n := by
  obtain ⟨d, hd, hs⟩ := near_less (st := stC l to) (D := n + 1) near_sym (fun d k _ h => stC_iff.2 h) (fun d k h => stC_iff.1 h) (Nat.le_refl _) hc
  exact ⟨d, hd, (h.low d n (by omega)).2 hs⟩
/-- A path: what GridWays asks of it. -/
theorem pathC_ok {l : List Cel} {a b : Cel} {n : Nat} (h : stC l b a = some n) : PathI nearL (stC l b) n a (pathF nearL (stC l b) n a) :=
  pathF_ok (D := n) near_sym (fun _ _ _ h => stC_iff.2 h) (fun _ _ h => stC_iff.1 h) n a (Nat.le_refl _) h
theorem stC_mem {l : List Cel} {a b : Cel} {n : Nat} (hb : b ∈ l) (h : stC l b a = some n) : a ∈ l := walk_mem (S := (· ∈ l)) hb (stC_iff.1 h).1
theorem stC_back {l : List Cel} {a b : Cel} {n : Nat} (ha : a ∈ l) (hb : b ∈ l) (h : stC l b a = some n) : stC l a b = some n :=
  stC_iff.2 (dist_back (S := (· ∈ l)) near_sym hb ha (stC_iff.1 h))
theorem stC_backs {l : List Cel} {a b : Cel} (ha : a ∈ l) (hb : b ∈ l) : stC l b a = stC l a b := by
  cases e : stC l b a with
  | some n => rw [stC_back ha hb e]
  | none =>
    cases e2 : stC l a b with
    | none => rfl
    | some n => rw [stC_back hb ha e2] at e; cases e
theorem nodup_of_once {α : Type} {p : List α} (h : ∀ (i k : Nat) (d : α), p[i]? = some d → p[k]? = some d → i = k) : p.Nodup := by
  rw [List.Nodup, List.pairwise_iff_getElem]
  intro i j hi hj hij e
  have := h i j p[j] (by rw [List.getElem?_eq_getElem hi, e]) (List.getElem?_eq_getElem hj)
  omega
theorem pathC_nodup {l : List Cel} {a b : Cel} {n : Nat} (h : stC l b a = some n) : (pathF nearL (stC l b) n a).Nodup :=
  nodup_of_once fun _ _ _ h1 h2 => (pathC_ok h).once h1 h2
theorem pathC_mem {l : List Cel} {a b : Cel} {n : Nat} (hb : b ∈ l) (h : stC l b a = some n) : ∀ d ∈ pathF nearL (stC l b) n a, d ∈ l := fun d hd => by
  obtain ⟨i, hi⟩ := List.mem_iff_getElem?.1 hd
  exact stC_mem hb ((pathC_ok h).level i d hi)
theorem pathC_len {l : List Cel} {a b : Cel} {n : Nat} (hb : b ∈ l) (h : stC l b a = some n) : n + 1 ≤ l.length := by
  have h1 := nodup_len (pathC_nodup h) (pathC_mem hb h)
  rw [(pathC_ok h).len] at h1
  exact h1
/-- Steps are known exactly between cells of one part. -/
theorem stC_reach {l : List Cel} {a b : Cel} : (∃ n, stC l b a = some n) ↔ Reach NearR (· ∈ l) b a := by
  rw [show Reach NearR (· ∈ l) b a ↔ ∃ n, IsDist nearL (· ∈ l) b a n from (dist_reach (near := nearL) (S := (· ∈ l)) (to := b) a).symm]
  exact ⟨fun ⟨n, h⟩ => ⟨n, stC_iff.1 h⟩, fun ⟨n, h⟩ => ⟨n, stC_iff.2 h⟩⟩
theorem stC_far {l : List Cel} {a b : Cel} {n : Nat} (h : stC l b a = some n) : distI b a ≤ n := walk_dist (stC_iff.1 h).1
theorem partK_le (l : List Cel) : ∀ k, (partK NearR l k).length ≤ k
  | 0 => Nat.le_refl _
  | k + 1 => by
    have ih := partK_le l k
    cases hc : l[k]? with
    | none =>
      have e : partK NearR l (k + 1) = partK NearR l k := by
        conv => lhs; unfold partK
        rw [hc]
        exact List.append_nil _
      rw [e]
      omega
    | some c =>
      by_cases hin : c ∈ (partK NearR l k).flatten
      · rw [partK_in hc hin]
        omega
      · rw [partK_new hc hin, List.length_append]
        simp
        omega
end Go.Proofs
end
