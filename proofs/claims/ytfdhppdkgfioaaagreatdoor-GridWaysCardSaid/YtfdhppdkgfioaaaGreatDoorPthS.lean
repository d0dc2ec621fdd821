import Derived.Test.YtfdhppdkgfioaaaGreatDoorPthP
section
/- The parts of a set, as a search of each cell that is left finds them; no world. -/
namespace Go.Proofs
set_option maxHeartbeats 4000000
set_option maxRecDepth 100000
section
variable {α : Type}
/-- From one cell to another one within a set, so many steps. -/
def ReachN (R : α → α → Prop) (S : α → Prop) (c : α) : Nat → α → Prop
  | 0, d => d = c
  | n + 1, d => S d ∧ ∃ e, ReachN R S c n e ∧ R e d
def Reach (R : α → α → Prop) (S : α → Prop) (c d : α) : Prop := ∃ n, ReachN R S c n d
variable {R : α → α → Prop} {S T : α → Prop} {c : α}
theorem Reach.here (R : α → α → Prop) (S : α → Prop) (c : α) : Reach R S c c := ⟨0, rfl⟩
theorem Reach.step {d e : α} (h : Reach R S c d) (hr : R d e) (hs : S e) : Reach R S c e := by
  obtain ⟨n, hn⟩ := h
  exact ⟨n + 1, hs, d, hn, hr⟩
theorem Reach.mem {d : α} (hc : S c) (h : Reach R S c d) : S d := by
  obtain ⟨n, hn⟩ := h
  cases n with
  | zero => obtain rfl : d = c := hn; exact hc
  | succ n => exact hn.1
theorem Reach.trans {d e : α} (h : Reach R S c d) (h2 : Reach R S d e) : Reach R S c e := by
  obtain ⟨n, hn⟩ := h2
  induction n generalizing e with
  | zero => obtain rfl : e = d := hn; exact h
  | succ n ih =>
    obtain ⟨hs, f, hf, hr⟩ := hn
    exact (ih hf).step hr hs
theorem Reach.symm (hsym : ∀ a b, R a b → R b a) (hc : S c) {d : α} (h : Reach R S c d) : Reach R S d c := by
  obtain ⟨n, hn⟩ := h
  induction n generalizing d with
  | zero => obtain rfl : d = c := hn; exact Reach.here _ _ _
  | succ n ih =>
    obtain ⟨hs, f, hf, hr⟩ := hn
    have hSf : S f := Reach.mem hc ⟨n, hf⟩
    exact Reach.trans ((Reach.here R S d).step (hsym _ _ hr) hSf) (ih hf)
/-- What is left once some parts are taken has the same parts. -/
theorem reach_left (hsym : ∀ a b, R a b → R b a) (hc : T c) (hTS : ∀ d, T d → S d) (hout : ∀ d e, S d → ¬ T d → S e → R d e → ¬ T e) {d : α} : Reach R T c d ↔ Reach R S c d := by
  constructor
  · rintro ⟨n, hn⟩
    induction n generalizing d with
    | zero => exact ⟨0, hn⟩
    | succ n ih =>
      obtain ⟨hs, f, hf, hr⟩ := hn
      exact (ih hf).step hr (hTS _ hs)
  · rintro ⟨n, hn⟩
    induction n generalizing d with
    | zero => exact ⟨0, hn⟩
    | succ n ih =>
      obtain ⟨hs, f, hf, hr⟩ := hn
      have h1 := ih hf
      have hTf : T f := Reach.mem hc h1
      refine h1.step hr ?_
      apply Classical.byContradiction
      intro hTd
      exact hout d f hs hTd (hTS _ hTf) (hsym _ _ hr) hTf
/-- The search for a part: what is collected, the cell whose neighbours are asked, those that have been. -/
structure PartI (R : α → α → Prop) (T : α → Prop) (c : α) (p : List α) (i : Nat) (dn : α → Prop) : Prop where
  here : c ∈ p
  nodup : p.Nodup
  mem : ∀ d ∈ p, T d
  walk : ∀ d ∈ p, Reach R T c d
  nei : ∀ (a : Nat) (x : α), a < i → p[a]? = some x → ∀ d, T d → R x d → d ∈ p
  cur : ∀ x, p[i]? = some x → ∀ d, dn d → T d → R x d → d ∈ p
theorem PartI.start (hc : T c) : PartI R T c [c] 0 fun _ => False where
  here := by simp
  nodup := by simp
  mem := fun d hd => by
    obtain rfl : d = c := by simpa using hd
    exact hc
  walk := fun d hd => by
    obtain rfl : d = c := by simpa using hd
    exact Reach.here _ _ _
  nei := fun a x h => absurd h (Nat.not_lt_zero a)
  cur := fun x _ d h => h.elim
theorem PartI.skip {p : List α} {i : Nat} {dn dn' : α → Prop} {x d : α} (h : PartI R T c p i dn) (hx : p[i]? = some x) (hd : T d → R x d → d ∈ p) (hdn : ∀ e, dn' e → dn e ∨ e = d) : PartI R T c p i dn' :=
  { h with
    cur := fun y hy e he ht hr => by
      obtain rfl := Option.some.inj (hx.symm.trans hy)
      rcases hdn e he with h1 | rfl
      · exact h.cur x hx e h1 ht hr
      · exact hd ht hr }
theorem PartI.push {p : List α} {i : Nat} {dn dn' : α → Prop} {x d : α} (h : PartI R T c p i dn) (hx : p[i]? = some x) (ht : T d) (hr : R x d) (hn : d ∉ p) (hdn : ∀ e, dn' e → dn e ∨ e = d) : PartI R T c (p ++ [d]) i dn' := by
  have hil : i < p.length := (List.getElem?_eq_some_iff.1 hx).1
  have hxi : (p ++ [d])[i]? = some x := by rw [List.getElem?_append_left hil]; exact hx
  exact {
    here := List.mem_append.2 (.inl h.here)
    nodup := by
      rw [List.nodup_append]
      exact ⟨h.nodup, by simp, fun a ha b hb => by
        obtain rfl : b = d := by simpa using hb
        intro e
        exact hn (e ▸ ha)⟩
    mem := fun e he => by
      rcases List.mem_append.1 he with he | he
      · exact h.mem e he
      · obtain rfl : e = d := by simpa using he
        exact ht
    walk := fun e he => by
      rcases List.mem_append.1 he with he | he
      · exact h.walk e he
      · obtain rfl : e = d := by simpa using he
        exact (h.walk x (List.mem_of_getElem? hx)).step hr ht
    nei := fun a y ha hy e hte hre => by
      rw [List.getElem?_append_left (by omega)] at hy
      exact List.mem_append.2 (.inl (h.nei a y ha hy e hte hre))
    cur := fun y hy e he hte hre => by
      obtain rfl := Option.some.inj (hxi.symm.trans hy)
      rcases hdn e he with h1 | rfl
      · exact List.mem_append.2 (.inl (h.cur x hx e h1 hte hre))
      · exact List.mem_append.2 (.inr (by simp)) }
theorem PartI.next {p : List α} {i : Nat} {dn : α → Prop} {x : α} (h : PartI R T c p i dn) (hx : p[i]? = some x) (hall : ∀ d, T d → R x d → dn d) : PartI R T c p (i + 1) fun _ => False :=
  { h with
    nei := fun a y ha hy d ht hr => by
      rcases Nat.lt_or_eq_of_le (Nat.le_of_lt_succ ha) with h3 | rfl
      · exact h.nei a y h3 hy d ht hr
      · obtain rfl := Option.some.inj (hx.symm.trans hy)
        exact h.cur x hx d (hall d ht hr) ht hr
    cur := fun y _ d hd => hd.elim }
theorem PartI.done {p : List α} {i : Nat} {dn : α → Prop} (h : PartI R T c p i dn) (hi : p.length ≤ i) (d : α) : d ∈ p ↔ Reach R T c d := by
  refine ⟨h.walk d, ?_⟩
  rintro ⟨n, hn⟩
  induction n generalizing d with
  | zero => obtain rfl : d = c := hn; exact h.here
  | succ n ih =>
    obtain ⟨ht, e, he, hr⟩ := hn
    obtain ⟨a, ha⟩ := List.mem_iff_getElem?.1 (ih e he)
    exact h.nei a e (by have := (List.getElem?_eq_some_iff.1 ha).1; omega) ha d ht hr
/-- The part of a cell, in the set's order. -/
noncomputable def partC (R : α → α → Prop) (l : List α) (c : α) : List α := by
  classical
  exact l.filter fun d => decide (Reach R (· ∈ l) c d)
theorem partC_mem {l : List α} (hc : c ∈ l) (d : α) : d ∈ partC R l c ↔ Reach R (· ∈ l) c d := by
  classical
  unfold partC
  rw [List.mem_filter]
  constructor
  · rintro ⟨-, h⟩
    simpa using h
  · intro h
    exact ⟨Reach.mem (S := (· ∈ l)) hc h, by simpa using h⟩
theorem partC_nodup {l : List α} (h : l.Nodup) (c : α) : (partC R l c).Nodup := by
  unfold partC
  exact h.filter _
/-- The parts of the first k cells. -/
noncomputable def partK (R : α → α → Prop) (l : List α) : Nat → List (List α)
  | 0 => []
  | k + 1 => partK R l k ++ (match l[k]? with
    | some c => by
      classical
      exact if c ∈ (partK R l k).flatten then [] else [partC R l c]
    | none => [])
theorem partK_in {l : List α} {k : Nat} (hc : l[k]? = some c) (h : c ∈ (partK R l k).flatten) : partK R l (k + 1) = partK R l k := by
  conv => lhs; unfold partK
  rw [hc]
  dsimp only
  rw [if_pos h, List.append_nil]
theorem partK_new {l : List α} {k : Nat} (hc : l[k]? = some c) (h : c ∉ (partK R l k).flatten) : partK R l (k + 1) = partK R l k ++ [partC R l c] := by
  conv => lhs; unfold partK
  rw [hc]
  dsimp only
  rw [if_neg h]
/-- What is taken after k cells: whole parts. -/
theorem partK_taken (hsym : ∀ a b, R a b → R b a) {l : List α} : ∀ k, k ≤ l.length → (∀ d ∈ (partK R l k).flatten, d ∈ l) ∧ (∀ d e, d ∈ (partK R l k).flatten → e ∈ l → R d e → e ∈ (partK R l k).flatten) ∧ (∀ (i : Nat) (d : α), i < k → l[i]? = some d → d ∈ (partK R l k).flatten)
  | 0, _ => ⟨fun d h => by simp [partK] at h, fun d e h => by simp [partK] at h, fun i d h => absurd h (Nat.not_lt_zero i)⟩
  | k + 1, hk => by
    obtain ⟨h1, h2, h3⟩ := partK_taken hsym (l := l) k (by omega)
    obtain ⟨c, hc⟩ : ∃ c, l[k]? = some c := ⟨_, List.getElem?_eq_getElem (by omega)⟩
    have hcl : c ∈ l := List.mem_of_getElem? hc
    by_cases hin : c ∈ (partK R l k).flatten
    · rw [partK_in hc hin]
      refine ⟨h1, h2, fun i d hi hd => ?_⟩
      rcases Nat.lt_or_eq_of_le (Nat.le_of_lt_succ hi) with h4 | rfl
      · exact h3 i d h4 hd
      · obtain rfl := Option.some.inj (hc.symm.trans hd)
        exact hin
    · rw [partK_new hc hin, List.flatten_append]
      have e : ([partC R l c] : List (List α)).flatten = partC R l c := by simp
      rw [e]
      refine ⟨fun d hd => ?_, fun d f hd hf hr => ?_, fun i d hi hd => ?_⟩
      · rcases List.mem_append.1 hd with h4 | h4
        · exact h1 d h4
        · exact Reach.mem (S := (· ∈ l)) hcl ((partC_mem hcl d).1 h4)
      · rcases List.mem_append.1 hd with h4 | h4
        · exact List.mem_append.2 (.inl (h2 d f h4 hf hr))
        · exact List.mem_append.2 (.inr ((partC_mem hcl f).2 (((partC_mem hcl d).1 h4).step hr hf)))
      · rcases Nat.lt_or_eq_of_le (Nat.le_of_lt_succ hi) with h4 | rfl
        · exact List.mem_append.2 (.inl (h3 i d h4 hd))
        · obtain rfl := Option.some.inj (hc.symm.trans hd)
          exact List.mem_append.2 (.inr ((partC_mem hcl c).2 (Reach.here _ _ _)))
/-- What is found from a cell among those that are left is its part. -/
theorem part_found (hsym : ∀ a b, R a b → R b a) {l : List α} {k : Nat} (hk : k ≤ l.length) (hc : c ∈ l) (hin : c ∉ (partK R l k).flatten) {p : List α} {i : Nat} {dn : α → Prop} (h : PartI R (fun d => d ∈ l ∧ d ∉ (partK R l k).flatten) c p i dn) (hi : p.length ≤ i) (d : α) : d ∈ p ↔ d ∈ partC R l c := by
  rw [h.done hi d, partC_mem hc d]
  refine reach_left hsym ⟨hc, hin⟩ (fun d h => h.1) fun d e hd hnd he hr => ?_
  obtain ⟨h1, h2, h3⟩ := partK_taken hsym (l := l) k hk
  have hdt : d ∈ (partK R l k).flatten := by
    apply Classical.byContradiction
    intro h4
    exact hnd ⟨hd, h4⟩
  intro h5
  exact h5.2 (h2 d e hdt he hr)
end
end Go.Proofs
end

section
/- What a path is: from cell to cell, each once, as long as the steps; back there are as many; no world. -/
namespace Go.Proofs
set_option maxHeartbeats 4000000
set_option maxRecDepth 100000
section
variable {α : Type} {near : α → List α} {S : α → Prop} {to : α}
theorem walk_reach : ∀ (n : Nat) (d : α), WalkN near S to n d ↔ ReachN (fun e f => f ∈ near e) S to n d
  | 0, d => Iff.rfl
  | n + 1, d => by
    constructor
    · rintro ⟨hs, c, hc, hd⟩
      exact ⟨hs, c, (walk_reach n c).1 hc, hd⟩
    · rintro ⟨hs, c, hc, hd⟩
      exact ⟨hs, c, (walk_reach n c).2 hc, hd⟩
theorem dist_reach (d : α) : (∃ n, IsDist near S to d n) ↔ Reach (fun e f => f ∈ near e) S to d := by
  constructor
  · rintro ⟨n, hn⟩
    exact ⟨n, (walk_reach n d).1 hn.1⟩
  · rintro ⟨n, hn⟩
    have hn := (walk_reach n d).2 hn
    have key : ∀ m, (∀ k, k < m → ¬ WalkN near S to k d) ∨ ∃ k, IsDist near S to d k := fun m => by
      induction m with
      | zero => exact .inl fun k hk => absurd hk (Nat.not_lt_zero k)
      | succ m ih =>
        rcases ih with h | h
        · by_cases hw : WalkN near S to m d
          · refine .inr ⟨m, hw, fun k hk => ?_⟩
            apply Classical.byContradiction
            intro h2
            exact h k (by omega) hk
          · refine .inl fun k hk => ?_
            rcases Nat.lt_or_eq_of_le (Nat.le_of_lt_succ hk) with h3 | rfl
            · exact h k h3
            · exact hw
        · exact .inr h
    rcases key (n + 1) with h | h
    · exact absurd hn (h n (by omega))
    · exact h
theorem walk_mem (hS : S to) {n : Nat} {d : α} (h : WalkN near S to n d) : S d := by
  cases n with
  | zero => obtain rfl : d = to := h; exact hS
  | succ n => exact h.1
/-- A walk that begins with a step. -/
theorem walk_first {c d : α} (hd : d ∈ near c) (hs : S d) : ∀ (n : Nat) (e : α), WalkN near S d n e → WalkN near S c (n + 1) e
  | 0, e, h => by
    obtain rfl : e = d := h
    exact ⟨hs, c, rfl, hd⟩
  | n + 1, e, h => by
    obtain ⟨hse, f, hf, he⟩ := h
    exact ⟨hse, f, walk_first hd hs n f hf, he⟩
theorem walk_back (hsym : ∀ c d, d ∈ near c → c ∈ near d) (hS : S to) : ∀ (n : Nat) (d : α), WalkN near S to n d → WalkN near S d n to
  | 0, d, h => by
    obtain rfl : d = to := h
    rfl
  | n + 1, d, h => by
    obtain ⟨hs, c, hc, hd⟩ := h
    exact walk_first (hsym _ _ hd) (walk_mem hS hc) n to (walk_back hsym hS n c hc)
theorem dist_back (hsym : ∀ c d, d ∈ near c → c ∈ near d) (hS : S to) {d : α} (hd : S d) {n : Nat} (h : IsDist near S to d n) : IsDist near S d to n :=
  ⟨walk_back hsym hS n d h.1, fun k hk => h.2 k (walk_back hsym hd k to hk)⟩
/-- A path of the search. -/
structure PathI (near : α → List α) (st : α → Option Nat) (n : Nat) (c : α) (p : List α) : Prop where
  len : p.length = n + 1
  first : p[0]? = some c
  level : ∀ (i : Nat) (d : α), p[i]? = some d → st d = some (n - i)
  next : ∀ (i : Nat) (d e : α), p[i]? = some d → p[i + 1]? = some e → e ∈ near d
theorem pathF_ok {st : α → Option Nat} {D : Nat} (hsym : ∀ c d, d ∈ near c → c ∈ near d) (h : ∀ d k, k < D → IsDist near S to d k → st d = some k) (h2 : ∀ d k, st d = some k → IsDist near S to d k) : ∀ (n : Nat) (c : α), n ≤ D → st c = some n → PathI near st n c (pathF near st n c)
  | 0, c, _, hc => by
    refine ⟨rfl, rfl, fun i d hd => ?_, fun i d e _ he => ?_⟩
    · match i, hd with
      | 0, hd =>
        obtain rfl : c = d := by simpa [pathF] using hd
        exact hc
      | i + 1, hd => simp [pathF] at hd
    · simp [pathF] at he
  | n + 1, c, hn, hc => by
    have hd := h2 c _ hc
    obtain ⟨⟨hs, b, hb, hcb⟩, hmin⟩ := hd
    have hbd : IsDist near S to b n := ⟨hb, fun k hk => by
      have := hmin (k + 1) ⟨hs, b, hk, hcb⟩
      omega⟩
    have hst := h b n (by omega) hbd
    unfold pathF
    cases hf : (near c).find? (fun d => decide (st d = some n)) with
    | none =>
      have := List.find?_eq_none.1 hf b (hsym b c hcb)
      simp [hst] at this
    | some d =>
      have hd2 : st d = some n := by simpa using List.find?_some hf
      have hdn : d ∈ near c := List.mem_of_find?_eq_some hf
      have ih := pathF_ok hsym h h2 n d (by omega) hd2
      show PathI near st (n + 1) c (c :: pathF near st n d)
      refine ⟨by rw [List.length_cons, ih.len], rfl, fun i e he => ?_, fun i e f he hf2 => ?_⟩
      · match i, he with
        | 0, he =>
          obtain rfl : c = e := by simpa using he
          exact hc
        | i + 1, he =>
          have := ih.level i e (by simpa using he)
          rw [this]
          congr 1
          omega
      · match i, he with
        | 0, he =>
          obtain rfl : c = e := by simpa using he
          have h5 : (pathF near st n d)[0]? = some f := by simpa using hf2
          obtain rfl := Option.some.inj (ih.first.symm.trans h5)
          exact hdn
        | i + 1, he => exact ih.next i e f (by simpa using he) (by simpa using hf2)
theorem PathI.end_ {st : α → Option Nat} {n : Nat} {c : α} {p : List α} (h : PathI near st n c p) (h2 : ∀ d k, st d = some k → IsDist near S to d k) : p[n]? = some to := by
  obtain ⟨d, hd⟩ : ∃ d, p[n]? = some d := ⟨_, List.getElem?_eq_getElem (by have := h.len; omega)⟩
  have h1 := h.level n d hd
  rw [Nat.sub_self] at h1
  obtain rfl : d = to := (h2 d 0 h1).1
  exact hd
theorem PathI.once {st : α → Option Nat} {n : Nat} {c : α} {p : List α} (h : PathI near st n c p) {i k : Nat} {d : α} (hi : p[i]? = some d) (hk : p[k]? = some d) : i = k := by
  have h1 := h.level i d hi
  rw [h.level k d hk] at h1
  have h1 := Option.some.inj h1
  have hil := (List.getElem?_eq_some_iff.1 hi).1
  have hkl := (List.getElem?_eq_some_iff.1 hk).1
  have := h.len
  omega
/-- A number that changes by at most one with each step is no more than the steps. -/
theorem walk_far {f : α → Nat} (hf : ∀ c d, d ∈ near c → f d ≤ f c + 1) (h0 : f to = 0) : ∀ (n : Nat) (d : α), WalkN near S to n d → f d ≤ n
  | 0, d, h => by
    obtain rfl : d = to := h
    omega
  | n + 1, d, h => by
    obtain ⟨-, c, hc, hd⟩ := h
    have h1 := walk_far hf h0 n c hc
    have h2 := hf c d hd
    omega
end
end Go.Proofs
end

section
/- Steps that stand in a list beside the cells, -1 where none are known; no world. -/
namespace Go.Proofs
set_option maxHeartbeats 4000000
set_option maxRecDepth 100000
section
variable {α : Type}
def stV : Option Nat → Int
  | some n => n
  | none => -1
theorem stV_neg (o : Option Nat) : stV o < 0 ↔ o = none := by
  cases o with
  | none => simp [stV]
  | some n =>
    constructor
    · intro h
      unfold stV at h
      dsimp only at h
      omega
    · intro h
      cases h
theorem stV_is (o : Option Nat) (n : Nat) : stV o = n ↔ o = some n := by
  cases o with
  | none =>
    constructor
    · intro h
      unfold stV at h
      dsimp only at h
      omega
    · intro h
      cases h
  | some m =>
    constructor
    · intro h
      unfold stV at h
      dsimp only at h
      rw [show m = n by omega]
    · intro h
      rw [Option.some.inj h]
      rfl
/-- A list of numbers tells the steps of a set's cells. -/
structure StR (l : List α) (s : List Int) (st : α → Option Nat) : Prop where
  len : s.length = l.length
  out : ∀ c, c ∉ l → st c = none
  at_ : ∀ (k : Nat) (c : α), l[k]? = some c → s[k]? = some (stV (st c))
theorem nodup_at {l : List α} (h : l.Nodup) {i k : Nat} {c : α} (hi : l[i]? = some c) (hk : l[k]? = some c) : i = k := by
  obtain ⟨h1, e1⟩ := List.getElem?_eq_some_iff.1 hi
  obtain ⟨h2, e2⟩ := List.getElem?_eq_some_iff.1 hk
  have hp := List.pairwise_iff_getElem.1 h
  rcases Nat.lt_trichotomy i k with h3 | h3 | h3
  · exact absurd (e1.trans e2.symm) (hp i k h1 h2 h3)
  · exact h3
  · exact absurd (e2.trans e1.symm) (hp k i h2 h1 h3)
theorem StR.set {l : List α} {s : List Int} {st st' : α → Option Nat} (h : StR l s st) (hnd : l.Nodup) {k n : Nat} {d : α} (hd : l[k]? = some d) (h1 : st' d = some n) (h2 : ∀ e, e ≠ d → st' e = st e) : StR l (s.set k (n : Int)) st' where
  len := by rw [List.length_set, h.len]
  out := fun c hc => by
    rw [h2 c (fun e => hc (e ▸ List.mem_of_getElem? hd)), h.out c hc]
  at_ := fun i c hc => by
    by_cases hik : k = i
    · subst hik
      obtain rfl := Option.some.inj (hd.symm.trans hc)
      rw [List.getElem?_set_self (by rw [h.len]; exact (List.getElem?_eq_some_iff.1 hd).1), h1]
      rfl
    · rw [List.getElem?_set_ne hik, h.at_ i c hc, h2 c]
      rintro rfl
      exact hik (nodup_at hnd hd hc)
theorem StR.none_ (l : List α) : StR l (List.replicate l.length (-1)) fun _ => none where
  len := by simp
  out := fun c _ => rfl
  at_ := fun k c hc => by
    rw [List.getElem?_replicate, if_pos (List.getElem?_eq_some_iff.1 hc).1]
    rfl
/-- The steps when only the first cell is known. -/
theorem StR.start {l : List α} (hnd : l.Nodup) {k : Nat} {to : α} (hk : l[k]? = some to) : ∃ st : α → Option Nat, StR l ((List.replicate l.length (-1)).set k 0) st ∧ st to = some 0 ∧ ∀ c, c ≠ to → st c = none := by
  classical
  refine ⟨fun c => if c = to then some 0 else none, ?_, by simp, fun c hc => by simp [hc]⟩
  exact (StR.none_ l).set hnd hk (by simp) fun e he => by simp [he]
/-- A new cell. -/
theorem StR.push {l : List α} {s : List Int} {st : α → Option Nat} (h : StR l s st) (hnd : l.Nodup) {k : Nat} (n : Nat) {d : α} (hd : l[k]? = some d) : ∃ st' : α → Option Nat, StR l (s.set k (n : Int)) st' ∧ st' d = some n ∧ ∀ e, e ≠ d → st' e = st e := by
  classical
  refine ⟨fun c => if c = d then some n else st c, ?_, by simp, fun c hc => by simp [hc]⟩
  exact h.set hnd hd (by simp) fun e he => by simp [he]
theorem StR.val {l : List α} {s : List Int} {st : α → Option Nat} (h : StR l s st) {k : Nat} {c : α} {v : Int} (hk : l[k]? = some c) (hv : s[k]? = some v) : v = stV (st c) :=
  Option.some.inj (hv.symm.trans (h.at_ k c hk))
end
end Go.Proofs
end

section
/- A search that stops early and one that goes to its end lead to one path; no world. -/
namespace Go.Proofs
set_option maxHeartbeats 4000000
set_option maxRecDepth 100000
section
variable {α : Type} {near : α → List α} {S : α → Prop} {to : α}
theorem ends_same {q q2 : List α} {st st2 : α → Option Nat} {i j i2 j2 : Nat} (h : BfsI near S to q st i j) (hi : q.length ≤ i) (h2 : BfsI near S to q2 st2 i2 j2) (hi2 : q2.length ≤ i2) : st = st2 := by
  funext d
  have key : ∀ n, st d = some n ↔ st2 d = some n := fun n => by rw [h.done_dist hi, h2.done_dist hi2]
  cases e : st d with
  | none =>
    cases e2 : st2 d with
    | none => rfl
    | some n => rw [(key n).2 e2] at e; cases e
  | some n => exact ((key n).1 e).symm
/-- The program stops when it meets the cell from which the path shall lead. -/
theorem stop_same {q q2 : List α} {st st2 : α → Option Nat} {i j i2 j2 m : Nat} {c a : α} (h : BfsI near S to q st i j) (hc : q[i]? = some c) (hm : st c = some m) (ha : st a = some (m + 1)) (h2 : BfsI near S to q2 st2 i2 j2) (hi2 : q2.length ≤ i2) : st2 a = some (m + 1) ∧ pathF near st (m + 1) a = pathF near st2 (m + 1) a := by
  have key : ∀ d k, k < m + 1 → (st d = some k ↔ st2 d = some k) := fun d k hk => by
    rw [h2.done_dist hi2]
    exact ⟨(h.upto_dist hc hm d).1 k, (h.upto_dist hc hm d).2 k (by omega)⟩
  refine ⟨?_, pathF_same key (m + 1) a (Nat.le_refl _)⟩
  rw [h2.done_dist hi2]
  exact (h.upto_dist hc hm a).1 _ ha
/-- What both ways of the program give the path: the steps below the distance are right. -/
theorem stop_low {q : List α} {st : α → Option Nat} {i j m : Nat} {c : α} (h : BfsI near S to q st i j) (hc : q[i]? = some c) (hm : st c = some m) : (∀ d k, k < m + 1 → IsDist near S to d k → st d = some k) ∧ ∀ d k, st d = some k → IsDist near S to d k :=
  ⟨fun d k hk => (h.upto_dist hc hm d).2 k (by omega), fun d => (h.upto_dist hc hm d).1⟩
theorem ends_low {q : List α} {st : α → Option Nat} {i j : Nat} (h : BfsI near S to q st i j) (hi : q.length ≤ i) : (∀ d k, IsDist near S to d k → st d = some k) ∧ ∀ d k, st d = some k → IsDist near S to d k :=
  ⟨fun d k => (h.done_dist hi d k).2, fun d k => (h.done_dist hi d k).1⟩
/-- One round of the way back. -/
theorem pathF_next {st : α → Option Nat} {n : Nat} {c d : α} (h : (near c).find? (fun d => decide (st d = some n)) = some d) : pathF near st (n + 1) c = c :: pathF near st n d := by
  conv => lhs; unfold pathF
  rw [h]
end
end Go.Proofs
end
