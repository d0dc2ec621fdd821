import Derived.Test.YtfdhppdkgfioaaaGreatDoorAmC
section
namespace Go.AM
open Go
section
variable {P : Program} {ih : Run} {ops : Array Oper} {a0 : AAct} {A : Nat → AAct} {H : Nat → AHeap} {v : Nat → Value} {loud pend : Nat → Bool} {M : Nat → Nat → Bool}

/-- A region whose order is open: as 'Draw', but the variables of 'pend' may be made before the loud operations that come before them in index order. -/
structure Draw2 (P : Program) (ih : Run) (ops : Array Oper) (a0 : AAct) (A : Nat → AAct) (H : Nat → AHeap) (v : Nat → Value) (loud pend : Nat → Bool) (M : Nat → Nat → Bool) : Prop where
  one : OneWriter ops
  anc : AncOk (fun j => (ops[j]?).elim [] edgesOf) M ops.size
  canon : ∀ i o, ops[i]? = some o → opVal P ih ops o (A i) (H i) = some (v i, H (i+1))
  same : ∀ i, i ≤ ops.size → Same a0 ops v (· < i) (A i)
  quiet : ∀ i, i < ops.size → loud i = false → H (i+1) = H i
  line : ∀ i j, i < j → j < ops.size → loud i = true → loud j = true → pend j = false → M j i = true
  reads : ∀ r o i p (t : Tmp), ops[r]? = some o → ops[i]? = some p → p.dst = some t → Reads ops o t → i = r ∨ M r i = true ∨ M i r = true
  stay : ∀ r o, ops[r]? = some o → loud r = false → ∀ j, j ≤ ops.size → (∀ l, l < ops.size → loud l = true → pend l = false → M r l = true → l < j) → (∀ l, l < ops.size → loud l = true → M l r = true → j ≤ l) → opVal P ih ops o (A r) (H j) = some (v r, H j)
  pnd : ∀ p, p < ops.size → pend p = true → loud p = true ∧ ∃ o elem t, ops[p]? = some o ∧ o.op = .alloc elem ∧ o.guard = none ∧ o.dst = some t
  pread : ∀ p r o o' (t : Tmp), pend p = true → ops[p]? = some o' → o'.dst = some t → ops[r]? = some o → Reads ops o t → ∀ l, l ≤ p → loud l = true → M r l = true
  wr : (∃ p, p < ops.size ∧ pend p = true) → ∀ j, j ≤ ops.size → ∀ i o, (H j).get i = some o → i < (H j).next → o.wr = true ∨ i < (H 0).next

/-- Done, but not known yet. -/
def Wait (n : Nat) (pend : Nat → Bool) (listed : Array Bool) (j p : Nat) : Prop := p < n ∧ pend p = true ∧ j ≤ p ∧ L listed p = true
def WaitT (ops : Array Oper) (pend : Nat → Bool) (listed : Array Bool) (j : Nat) (t : Tmp) : Prop := ∃ p o, Wait ops.size pend listed j p ∧ ops[p]? = some o ∧ o.dst = some t

structure Inv (P : Program) (ops : Array Oper) (a0 : AAct) (H : Nat → AHeap) (v : Nat → Value) (loud pend : Nat → Bool) (θ0 : Env) (w0 : World) (listed : Array Bool) (j : Nat) (θ : Env) (a : AAct) (act act₁ : Act) (w : World) (B : Nat → Nat) : Prop where
  sz : listed.size = ops.size
  down : ∀ i o, ops[i]? = some o → L listed i = true → ∀ e ∈ edgesOf o, L listed e = true
  hj : j ≤ ops.size
  hl : ∀ l, l < ops.size → loud l = true → pend l = false → (L listed l = true ↔ l < j)
  hp : ∀ p, p < ops.size → pend p = true → p < j → L listed p = true
  rep : Rep P θ (H j) w
  goes : Goes θ0 (H 0) w0 θ (H j) w
  same : Same a0 ops v (fun i => L listed i = true ∧ ¬ (pend i = true ∧ j ≤ i)) a
  rel : ActRel θ a act₁
  off : Off (WaitT ops pend listed j) act act₁
  size : ∀ p, Wait ops.size pend listed j p → w0.heap.size ≤ B p ∧ B p < w.heap.size
  cells : ∀ p o elem, Wait ops.size pend listed j p → ops[p]? = some o → o.op = .alloc elem → ∃ z n m, zeroOf P elem = some (z, n, m) ∧ w.heap[B p]? = some (.cells z.toArray elem (0, 0))
  free : ∀ p i oi, Wait ops.size pend listed j p → (H j).get i = some oi → (θ.f i).blk ≠ B p
  ptr : ∀ p o t, Wait ops.size pend listed j p → ops[p]? = some o → o.dst = some t → t < a0.n → act.tmps[t]? = some (.pointer (some ⟨B p, 0, none⟩))
  inj : ∀ p q, Wait ops.size pend listed j p → Wait ops.size pend listed j q → B p = B q → p = q
  r0 : ∀ i, i < (H 0).next → i < θ0.nx ∧ (θ0.f i).blk < w0.heap.size

theorem L_lt {listed : Array Bool} {i : Nat} (h : L listed i = true) : i < listed.size := by
  refine Nat.lt_of_not_le fun hle => ?_
  unfold L at h
  simp [Array.getD, Nat.not_lt.2 hle] at h

theorem Draw2.heap (D : Draw2 P ih ops a0 A H v loud pend M) {j r : Nat} (hr : r ≤ ops.size) (hjr : j ≤ r) (hq : ∀ l, j ≤ l → l < r → loud l = false) : H r = H j := by
  have := quiet_range D.quiet (j := j) (r - j) (by omega) fun l h1 h2 => hq l h1 (by omega)
  rwa [show j + (r - j) = r by omega] at this

theorem Inv.adopt (D : Draw2 P ih ops a0 A H v loud pend M) {θ0 : Env} {w0 : World} {listed : Array Bool} {j : Nat} {θ : Env} {a : AAct} {act act₁ : Act} {w : World} {B : Nat → Nat} (I : Inv P ops a0 H v loud pend θ0 w0 listed j θ a act act₁ w B)
    {p : Nat} (hp : p < ops.size) (hpp : pend p = true) (hL : L listed p = true) (hjp : j ≤ p) (hq : ∀ l, j ≤ l → l < p → loud l = false) :
    ∃ θ' a' act₁', Inv P ops a0 H v loud pend θ0 w0 listed (p+1) θ' a' act act₁' w B := by
  obtain ⟨hlp, o, elem, t, ho, hop, hg, hdst⟩ := D.pnd p hp hpp
  have hW : Wait ops.size pend listed j p := ⟨hp, hpp, hjp, hL⟩
  have hHp : H p = H j := D.heap (Nat.le_of_lt hp) hjp hq
  have hcan := D.canon p o ho
  rw [hHp] at hcan
  obtain ⟨z, n, m, hz, hblk⟩ := I.cells p o elem hW ho hop
  have hcv : v p = ptrTo (H j) ∧ H (p+1) = (H j).new (.cells { n, z, t := .nil, elem, opn := false, ro := false }) := by
    unfold opVal at hcan
    have hw : wantedA ops (A p) o = true := by unfold wantedA; rw [hg]
    rw [hw] at hcan
    have hcan : opRun P ih o (A p) (H j) = some (v p, H (p+1)) := hcan
    unfold opRun at hcan
    rw [hop] at hcan
    have hcan : aAlloc P (H j) elem = some (v p, H (p+1)) := hcan
    unfold aAlloc at hcan
    rw [hz] at hcan
    simp only [Option.some.injEq, Prod.mk.injEq] at hcan
    exact ⟨hcan.1.symm, hcan.2.symm⟩
  have wmono : ∀ q, Wait ops.size pend listed (p+1) q → Wait ops.size pend listed j q := fun q h => ⟨h.1, h.2.1, by have := h.2.2.1; omega, h.2.2.2⟩
  have wsplit : ∀ q, Wait ops.size pend listed j q → q = p ∨ Wait ops.size pend listed (p+1) q := fun q h => by
    by_cases e : q = p
    · exact .inl e
    · refine .inr ⟨h.1, h.2.1, ?_, h.2.2.2⟩
      rcases Nat.lt_or_ge q p with hlt | hge
      · have := hq q h.2.2.1 hlt
        rw [(D.pnd q h.1 h.2.1).1] at this
        cases this
      · omega
  have hthp := I.size p hW
  refine ⟨θ.ext ⟨B p, 0, 0, 0⟩, a.put (some t) (v p), act₁.put (some t) (.pointer (some ⟨B p, 0, none⟩)), ?_⟩
  have hrep : Rep P (θ.ext ⟨B p, 0, 0, 0⟩) (H (p+1)) w := by
    rw [hcv.2]
    exact I.rep.adopt hthp.2 (fun i oi e => I.free p i oi hW e) (alloc_rel hz hblk _)
  have hnx : (θ.ext ⟨B p, 0, 0, 0⟩).f (H j).next = ⟨B p, 0, 0, 0⟩ := by rw [← I.rep.nx, Env.ext_new]
  refine ⟨I.sz, I.down, hp, fun l hlt hll hpl => ?_, fun q hqs hqp hqj => ?_, hrep, ?_, ?_, ?_, ?_, fun q hw => I.size q (wmono q hw), fun q o elem hw => I.cells q o elem (wmono q hw), fun q i oi hw e => ?_, fun q o t hw => I.ptr q o t (wmono q hw), fun q s hw hs => I.inj q s (wmono q hw) (wmono s hs), I.r0⟩
  · constructor
    · intro h; have := (I.hl l hlt hll hpl).1 h; omega
    · intro h
      refine (I.hl l hlt hll hpl).2 ?_
      rcases Nat.lt_or_ge l j with h1 | h1
      · exact h1
      · by_cases e : l = p
        · subst e; rw [hpp] at hpl; cases hpl
        · have := hq l h1 (by omega); rw [hll] at this; cases this
  · by_cases hqj' : q < j
    · exact I.hp q hqs hqp hqj'
    · by_cases e : q = p
      · subst e; exact hL
      · have := hq q (by omega) (by omega)
        rw [(D.pnd q hqs hqp).1] at this
        cases this
  · refine ⟨I.goes.le.trans (Env.le_ext _ _), I.goes.os, I.goes.tape, I.goes.output, I.goes.size, I.goes.frame, fun b hb ho' => I.goes.own b hb ?_⟩
    rw [hcv.2] at ho'
    exact Owns.new I.rep (by simp only; omega) ho'
  · have := I.same.put (S' := fun i => L listed i = true ∧ ¬ (pend i = true ∧ p + 1 ≤ i)) D.one ho (fun h => h.2 ⟨hpp, hjp⟩) (fun k => by
      constructor
      · rintro ⟨h1, h2⟩
        by_cases hk : k = p
        · exact .inr hk
        · refine .inl ⟨h1, fun h3 => ?_⟩
          have hks : k < ops.size := by rw [← I.sz]; exact L_lt h1
          rcases wsplit k ⟨hks, h3.1, h3.2, h1⟩ with e | e
          · exact hk e
          · exact h2 ⟨h3.1, e.2.2.1⟩
      · rintro (⟨h1, h2⟩ | rfl)
        · exact ⟨h1, fun h3 => h2 ⟨h3.1, by omega⟩⟩
        · exact ⟨hL, fun h3 => by omega⟩)
    rwa [hdst] at this
  · refine (I.rel.mono (Env.le_ext _ _)).put _ ?_
    rw [hcv.1]
    exact ptrTo_rel (by rw [hnx]) (by rw [hnx]) (by rw [← I.rep.nx]; exact Nat.lt_succ_self _)
  · have hsz : act₁.tmps.size = a0.n := by rw [I.rel.t.size, I.same.n]
    refine ⟨I.off.defers, by simp [Act.put, I.off.size], fun u hu => ?_⟩
    by_cases hut : u = t
    · subst hut
      simp only [Act.put, Array.getElem?_setIfInBounds, if_true]
      by_cases hlt : u < a0.n
      · rw [if_pos (by rw [hsz]; exact hlt)]
        exact I.ptr p o u hW ho hdst hlt
      · rw [if_neg (by rw [hsz]; exact hlt)]
        exact Array.getElem?_eq_none (by rw [I.off.size, hsz]; exact Nat.le_of_not_lt hlt)
    · simp only [Act.put]
      rw [Array.getElem?_setIfInBounds_ne (Ne.symm hut)]
      refine I.off.at_ u fun ⟨q, o', hw, hoq, hdq⟩ => ?_
      rcases wsplit q hw with rfl | hw'
      · rw [ho] at hoq
        obtain rfl := Option.some.inj hoq
        rw [hdst] at hdq
        exact hut (Option.some.inj hdq).symm
      · exact hu ⟨q, o', hw', hoq, hdq⟩
  · rw [hcv.2, AHeap.get_new] at e
    by_cases hi : i = (H j).next
    · subst hi
      rw [hnx]
      intro heq
      have := I.inj p q hW (wmono q hw) heq
      have := hw.2.2.1
      omega
    · rw [if_neg hi] at e
      rw [Env.ext_old _ _ (I.rep.lt e)]
      exact I.free q i oi (wmono q hw) e

/-- Known is all that can be known: the first loud operation from j on is not done. -/
def Full (n : Nat) (loud : Nat → Bool) (listed : Array Bool) (j : Nat) : Prop := ∀ l, j ≤ l → l < n → loud l = true → (∀ k, j ≤ k → k < l → loud k = false) → L listed l = false

theorem first_loud {loud : Nat → Bool} {j n : Nat} : (∀ l, j ≤ l → l < n → loud l = false) ∨ ∃ l, j ≤ l ∧ l < n ∧ loud l = true ∧ ∀ k, j ≤ k → k < l → loud k = false := by
  induction n with
  | zero => exact .inl fun l _ h => absurd h (Nat.not_lt_zero l)
  | succ n ih =>
    rcases ih with h | ⟨l, h1, h2, h3⟩
    · by_cases hjn : j ≤ n
      · cases hn : loud n with
        | true => exact .inr ⟨n, hjn, Nat.lt_succ_self n, hn, h⟩
        | false =>
          refine .inl fun l h1 h2 => ?_
          rcases Nat.lt_or_eq_of_le (Nat.le_of_lt_succ h2) with h3 | rfl
          · exact h l h1 h3
          · exact hn
      · exact .inl fun l h1 h2 => by omega
    · exact .inr ⟨l, h1, by omega, h3⟩

theorem Inv.full (D : Draw2 P ih ops a0 A H v loud pend M) {θ0 : Env} {w0 : World} {listed : Array Bool} {act : Act} {w : World} {B : Nat → Nat} : ∀ (d j : Nat) (θ : Env) (a : AAct) (act₁ : Act), ops.size - j ≤ d → Inv P ops a0 H v loud pend θ0 w0 listed j θ a act act₁ w B →
    ∃ j' θ' a' act₁', Inv P ops a0 H v loud pend θ0 w0 listed j' θ' a' act act₁' w B ∧ Full ops.size loud listed j'
  | d, j, θ, a, act₁, hd, I => by
    rcases first_loud (loud := loud) (j := j) (n := ops.size) with h | ⟨l, h1, h2, h3, h4⟩
    · exact ⟨j, θ, a, act₁, I, fun l h1 h2 h3 _ => by rw [h l h1 h2] at h3; cases h3⟩
    · cases hL : L listed l with
      | false =>
        refine ⟨j, θ, a, act₁, I, fun k h5 h6 h7 h8 => ?_⟩
        have : k = l := by
          rcases Nat.lt_trichotomy k l with h | h | h
          · rw [h4 k h5 h] at h7; cases h7
          · exact h
          · rw [h8 l h1 h] at h3; cases h3
        subst this
        exact hL
      | true =>
        have hpl : pend l = true := by
          cases hp : pend l with
          | true => rfl
          | false => have := (I.hl l h2 h3 hp).1 hL; omega
        obtain ⟨θ', a', act₁', I'⟩ := I.adopt D h2 hpl hL h1 h4
        match d, hd with
        | 0, hd => omega
        | d + 1, hd => exact Inv.full D d (l+1) θ' a' act₁' (by omega) I'
end
end Go.AM
end

section
namespace Go.AM
open Go
section
variable {P : Program} {ih : Run} {ops : Array Oper} {a0 : AAct} {A : Nat → AAct} {H : Nat → AHeap} {v : Nat → Value} {loud pend : Nat → Bool} {M : Nat → Nat → Bool}
variable {θ0 θ : Env} {w0 w : World} {listed : Array Bool} {j : Nat} {a : AAct} {act act₁ : Act} {B : Nat → Nat}

theorem Draw2.low (D : Draw2 P ih ops a0 A H v loud pend M) : ∀ i o, ops[i]? = some o → ∀ e ∈ edgesOf o, e < i := by
  intro i o ho e he
  have hi : i < ops.size := (Array.getElem?_eq_some_iff.1 ho).1
  exact D.anc.low i hi e (by simp only [ho, Option.elim]; exact he)

theorem Inv.done (D : Draw2 P ih ops a0 A H v loud pend M) (I : Inv P ops a0 H v loud pend θ0 w0 listed j θ a act act₁ w B) (F : Full ops.size loud listed j) (hall : ∀ i, i < ops.size → L listed i = true) :
    Rep P θ (H ops.size) w ∧ Goes θ0 (H 0) w0 θ (H ops.size) w ∧ ActRel θ (A ops.size) act := by
  have quiet : ∀ l, j ≤ l → l < ops.size → loud l = false := by
    rcases first_loud (loud := loud) (j := j) (n := ops.size) with h | ⟨l, h1, h2, h3, h4⟩
    · exact h
    · have := F l h1 h2 h3 h4
      rw [hall l h2] at this
      cases this
  have hH : H ops.size = H j := D.heap (Nat.le_refl _) I.hj quiet
  have nowait : ∀ p, ¬ Wait ops.size pend listed j p := fun p h => by
    have := quiet p h.2.2.1 h.1
    rw [(D.pnd p h.1 h.2.1).1] at this
    cases this
  have hact : act = act₁ := by
    obtain ⟨t, d⟩ := act
    obtain ⟨t₁, d₁⟩ := act₁
    obtain rfl : d = d₁ := I.off.defers
    obtain rfl : t = t₁ := by
      apply Array.ext_getElem?
      intro i
      exact I.off.at_ i fun ⟨p, o, hw, _⟩ => nowait p hw
    rfl
  rw [hH]
  refine ⟨I.rep, I.goes, ?_⟩
  rw [hact]
  refine Same.rel (I.same.congr fun i o ho => ?_) (D.same ops.size (Nat.le_refl _)) I.rel
  have hi : i < ops.size := (Array.getElem?_eq_some_iff.1 ho).1
  exact ⟨fun _ => hi, fun _ => ⟨hall i hi, fun h => nowait i ⟨hi, h.1, h.2, hall i hi⟩⟩⟩

/-- A variable is made: it waits. -/
theorem Inv.make (D : Draw2 P ih ops a0 A H v loud pend M) (I : Inv P ops a0 H v loud pend θ0 w0 listed j θ a act act₁ w B) {r : Nat} {o : Oper} {elem : TypeId} {t : Tmp} (ho : ops[r]? = some o) (hpr : pend r = true) (hnot : L listed r = false)
    (hop : o.op = .alloc elem) (hdst : o.dst = some t) (hedges : ∀ e ∈ edgesOf o, L listed e = true) {z : List Value} {n m : Nat} (hz : zeroOf P elem = some (z, n, m)) :
    Inv P ops a0 H v loud pend θ0 w0 (listed.setIfInBounds r true) j θ a (act.put (some t) (.pointer (some ⟨w.heap.size, 0, none⟩))) act₁ (World.push w (.cells z.toArray elem)) (fun p => if p = r then w.heap.size else B p) := by
  have hr : r < ops.size := (Array.getElem?_eq_some_iff.1 ho).1
  have hls : r < listed.size := by rw [I.sz]; exact hr
  have hset : ∀ k, L (listed.setIfInBounds r true) k = (if k = r then true else L listed k) := fun k => L_set hls
  have hjr : j ≤ r := Nat.le_of_not_lt fun h => by rw [I.hp r hr hpr h] at hnot; cases hnot
  have wold : ∀ q, q ≠ r → Wait ops.size pend (listed.setIfInBounds r true) j q → Wait ops.size pend listed j q := fun q hq h => ⟨h.1, h.2.1, h.2.2.1, by have := h.2.2.2; rwa [hset, if_neg hq] at this⟩
  obtain ⟨r₁, g₁⟩ := I.rep.pushed (.cells z.toArray elem)
  have get : ∀ b, b < w.heap.size → (World.push w (.cells z.toArray elem)).heap[b]? = w.heap[b]? := fun b hl => by
    simp only [World.push]; rw [Array.getElem?_push, if_neg (by omega)]
  have psz : (World.push w (.cells z.toArray elem)).heap.size = w.heap.size + 1 := by simp [World.push]
  refine ⟨by simpa using I.sz, fun i p hp hi e he => ?_, I.hj, fun l hl hll hpl => ?_, fun p hps hpp hpj => ?_, r₁, I.goes.trans g₁, I.same.congr fun i p hp => ?_, I.rel, ?_, fun p hw => ?_, fun p q el hw hq hop' => ?_, fun p i oi hw e => ?_, fun p q u hw hq hd hu => ?_, fun p q hw hq e => ?_, I.r0⟩
  · rw [hset] at hi ⊢
    by_cases hei : e = r
    · rw [if_pos hei]
    · rw [if_neg hei]
      by_cases hir : i = r
      · subst hir
        rw [ho] at hp
        obtain rfl := Option.some.inj hp
        exact hedges e he
      · rw [if_neg hir] at hi
        exact I.down i p hp hi e he
  · have : l ≠ r := fun e => by subst e; rw [hpr] at hpl; cases hpl
    rw [hset, if_neg this]
    exact I.hl l hl hll hpl
  · rw [hset]
    split
    · rfl
    · exact I.hp p hps hpp hpj
  · rw [hset]
    by_cases hir : i = r
    · subst hir
      rw [if_pos rfl, hnot]
      constructor
      · rintro ⟨h, _⟩; cases h
      · rintro ⟨_, h⟩; exact absurd ⟨hpr, hjr⟩ h
    · rw [if_neg hir]
  · refine ⟨I.off.defers, by simp [Act.put, I.off.size], fun u hu => ?_⟩
    have hut : t ≠ u := fun e => by
      subst e
      exact hu ⟨r, o, ⟨hr, hpr, hjr, by rw [hset, if_pos rfl]⟩, ho, hdst⟩
    simp only [Act.put]
    rw [Array.getElem?_setIfInBounds_ne hut]
    refine I.off.at_ u fun ⟨q, o', hw, hoq, hdq⟩ => hu ⟨q, o', ⟨hw.1, hw.2.1, hw.2.2.1, ?_⟩, hoq, hdq⟩
    rw [hset]
    split
    · rfl
    · exact hw.2.2.2
  · rw [psz]
    by_cases hpr' : p = r
    · simp only [hpr', if_true]; have := I.goes.size; omega
    · simp only [hpr', if_false]; have := I.size p (wold p hpr' hw); omega
  · by_cases hpr' : p = r
    · subst hpr'
      rw [ho] at hq
      obtain rfl := Option.some.inj hq
      rw [hop] at hop'
      obtain rfl : elem = el := by simpa using hop'
      simp only [if_true]
      exact ⟨z, n, m, hz, push_get _ _⟩
    · simp only [hpr', if_false]
      have hw' := wold p hpr' hw
      rw [get _ (I.size p hw').2]
      exact I.cells p q el hw' hq hop'
  · by_cases hpr' : p = r
    · simp only [hpr', if_true]
      have := (I.rep.obj i oi e).2.1
      omega
    · simp only [hpr', if_false]
      exact I.free p i oi (wold p hpr' hw) e
  · have hsz : act.tmps.size = a0.n := by rw [I.off.size, I.rel.t.size, I.same.n]
    by_cases hpr' : p = r
    · subst hpr'
      rw [ho] at hq
      obtain rfl := Option.some.inj hq
      rw [hdst] at hd
      obtain rfl := Option.some.inj hd
      simp only [if_true, Act.put, Array.getElem?_setIfInBounds]
      rw [if_pos (by rw [hsz]; exact hu)]
    · simp only [hpr', if_false]
      have hne : t ≠ u := fun e => by
        subst e
        exact hpr' (D.one p r q o t hq ho hd hdst)
      simp only [Act.put]
      rw [Array.getElem?_setIfInBounds_ne hne]
      exact I.ptr p q u (wold p hpr' hw) hq hd hu
  · by_cases hpr' : p = r
    · by_cases hqr : q = r
      · rw [hpr', hqr]
      · simp only [hpr', hqr, if_true, if_false] at e
        have := I.size q (wold q hqr hq)
        omega
    · by_cases hqr : q = r
      · simp only [hpr', hqr, if_true, if_false] at e
        have := I.size p (wold p hpr' hw)
        omega
      · simp only [hpr', hqr, if_false] at e
        exact I.inj p q (wold p hpr' hw) (wold q hqr hq) e

/-- An operation that is ready, and makes no variable that may wait: its value, and the heap. -/
theorem Inv.ready (D : Draw2 P ih ops a0 A H v loud pend M) (I : Inv P ops a0 H v loud pend θ0 w0 listed j θ a act act₁ w B) (F : Full ops.size loud listed j) {r : Nat} {o : Oper} (ho : ops[r]? = some o) (hpr : pend r = false) (hnot : L listed r = false)
    (hedges : ∀ e ∈ edgesOf o, L listed e = true) :
    (∀ t, Reads ops o t → ¬ WaitT ops pend listed j t) ∧ ∃ j', opVal P ih ops o a (H j) = some (v r, H j') ∧ j ≤ j' ∧ j' ≤ ops.size ∧ (∀ l, l < ops.size → loud l = true → pend l = false → ((L listed l = true ∨ l = r) ↔ l < j')) ∧
      (∀ p, p < ops.size → pend p = true → p < j' → p < j) := by
  have hr : r < ops.size := (Array.getElem?_eq_some_iff.1 ho).1
  have down : ∀ i k, k < ops.size → L listed k = true → M k i = true → L listed i = true := fun i k hk hs hm =>
    D.anc.down (S := fun i => L listed i = true) (fun j hj hs e he => by
      have : ops[j]? = some ops[j] := Array.getElem?_eq_getElem hj
      simp only [this, Option.elim] at he
      exact I.down j ops[j] this hs e he) k hk hs hm
  have before : ∀ i, M r i = true → L listed i = true := fun i hm => by
    obtain ⟨e, he, h1⟩ := D.anc.step r hr i hm
    simp only [ho, Option.elim] at he
    have hlt := D.low r o ho e he
    rcases h1 with rfl | h1
    · exact hedges e he
    · exact down i e (Nat.lt_trans hlt hr) (hedges e he) h1
  have after : ∀ i, i < ops.size → M i r = true → L listed i = false := fun i hi hm => by
    cases h : L listed i with
    | false => rfl
    | true => rw [down r i hi h hm] at hnot; cases hnot
  have nowait : ∀ t, Reads ops o t → ¬ WaitT ops pend listed j t := by
    rintro t ht ⟨p, o', hw, hop, hd⟩
    have hall := D.pread p r o o' t hw.2.1 hop hd ho ht
    rcases first_loud (loud := loud) (j := j) (n := ops.size) with h | ⟨l, h1, h2, h3, h4⟩
    · have := h p hw.2.2.1 hw.1
      rw [(D.pnd p hw.1 hw.2.1).1] at this
      cases this
    · have hlp : l ≤ p := Nat.le_of_not_lt fun hlt => by
        have := h4 p hw.2.2.1 hlt
        rw [(D.pnd p hw.1 hw.2.1).1] at this
        cases this
      have := F l h1 h2 h3 h4
      rw [before l (hall l hlp h3)] at this
      cases this
  refine ⟨nowait, ?_⟩
  have hcong : ∀ h, opVal P ih ops o a h = opVal P ih ops o (A r) h := fun h => opVal_congr (I.same.gl.trans (D.same r (Nat.le_of_lt hr)).gl.symm) fun t ht =>
    I.same.agree (D.same r (Nat.le_of_lt hr)) fun i p hp hd => by
      have hi : i < ops.size := (Array.getElem?_eq_some_iff.1 hp).1
      rcases D.reads r o i p t ho hp hd ht with rfl | h | h
      · constructor
        · intro h; rw [hnot] at h; cases h.1
        · intro h; exact absurd h (Nat.lt_irrefl _)
      · refine ⟨fun _ => D.anc.lt r hr h, fun _ => ⟨before i h, fun h2 => nowait t ht ⟨i, p, ⟨hi, h2.1, h2.2, before i h⟩, hp, hd⟩⟩⟩
      · constructor
        · intro h'; rw [after i hi h] at h'; cases h'.1
        · intro h'; exact absurd (D.anc.lt i hi h) (by omega)
  cases hk : loud r with
  | false =>
    refine ⟨j, ?_, Nat.le_refl _, I.hj, fun l hlt hll hpl => ?_, fun p _ _ h => h⟩
    · rw [hcong]
      refine D.stay r o ho hk j I.hj (fun l hlt hll hpl hm => (I.hl l hlt hll hpl).1 (before l hm)) (fun l hlt hll hm => ?_)
      have h1 := after l hlt hm
      refine Nat.le_of_not_lt fun h => ?_
      cases hpl : pend l with
      | true => rw [I.hp l hlt hpl h] at h1; cases h1
      | false => rw [(I.hl l hlt hll hpl).2 h] at h1; cases h1
    · constructor
      · rintro (h | rfl)
        · exact (I.hl l hlt hll hpl).1 h
        · rw [hk] at hll; cases hll
      · exact fun h => .inl ((I.hl l hlt hll hpl).2 h)
  | true =>
    have hjr : j ≤ r := Nat.le_of_not_lt fun h => by rw [(I.hl r hr hk hpr).2 h] at hnot; cases hnot
    have quiet : ∀ l, j ≤ l → l < r → loud l = false := by
      rcases first_loud (loud := loud) (j := j) (n := r) with h | ⟨l, h1, h2, h3, h4⟩
      · exact h
      · have := F l h1 (by omega) h3 h4
        rw [before l (D.line l r h2 hr h3 hk hpr)] at this
        cases this
    have hH : H r = H j := D.heap (Nat.le_of_lt hr) hjr quiet
    refine ⟨r + 1, ?_, by omega, hr, fun l hlt hll hpl => ?_, fun p hps hpp h => ?_⟩
    · rw [hcong, ← hH]; exact D.canon r o ho
    · constructor
      · rintro (h | rfl)
        · have := (I.hl l hlt hll hpl).1 h; omega
        · omega
      · intro h
        by_cases hlr : l = r
        · exact .inr hlr
        · exact .inl (before l (D.line l r (by omega) hr hll hk hpr))
    · refine Nat.lt_of_not_le fun hge => ?_
      by_cases e : p = r
      · subst e; rw [hpr] at hpp; cases hpp
      · have := quiet p hge (by omega)
        rw [(D.pnd p hps hpp).1] at this
        cases this
end
end Go.AM
end

section
namespace Go.AM
open Go
section
variable {P : Program} {ih : Run} {ops : Array Oper} {a0 : AAct} {A : Nat → AAct} {H : Nat → AHeap} {v : Nat → Value} {loud pend : Nat → Bool} {M : Nat → Nat → Bool}
variable {θ0 θ : Env} {w0 w : World} {listed : Array Bool} {j : Nat} {a : AAct} {act act₁ : Act} {B : Nat → Nat}

theorem Inv.next (D : Draw2 P ih ops a0 A H v loud pend M) (I : Inv P ops a0 H v loud pend θ0 w0 listed j θ a act act₁ w B) {r : Nat} {o : Oper} (ho : ops[r]? = some o) (hpr : pend r = false) (hnot : L listed r = false)
    (hedges : ∀ e ∈ edgesOf o, L listed e = true) {j' : Nat} (hjj : j ≤ j') (hj' : j' ≤ ops.size) (hl' : ∀ l, l < ops.size → loud l = true → pend l = false → ((L listed l = true ∨ l = r) ↔ l < j')) (hp' : ∀ p, p < ops.size → pend p = true → p < j' → p < j)
    {θ' : Env} {w' : World} {c c₁ : Act} {u : Value} (hc : c.tmps = act.tmps) (hc₁ : c₁.tmps = act₁.tmps) (hd : c.defers = c₁.defers) (hrep : Rep P θ' (H j') w') (hgoes : Goes θ (H j) w θ' (H j') w') (hrel : ActRel θ' (a.put o.dst (v r)) (c₁.put o.dst u)) :
    Inv P ops a0 H v loud pend θ0 w0 (listed.setIfInBounds r true) j' θ' (a.put o.dst (v r)) (c.put o.dst u) (c₁.put o.dst u) w' B := by
  have hr : r < ops.size := (Array.getElem?_eq_some_iff.1 ho).1
  have hls : r < listed.size := by rw [I.sz]; exact hr
  have hset : ∀ k, L (listed.setIfInBounds r true) k = (if k = r then true else L listed k) := fun k => L_set hls
  have wold : ∀ q, Wait ops.size pend (listed.setIfInBounds r true) j' q → q ≠ r ∧ Wait ops.size pend listed j q := fun q h => by
    have hq : q ≠ r := fun e => by have := h.2.1; rw [e, hpr] at this; cases this
    exact ⟨hq, h.1, h.2.1, Nat.le_trans hjj h.2.2.1, by have := h.2.2.2; rwa [hset, if_neg hq] at this⟩
  have wnew : ∀ q, Wait ops.size pend listed j q → Wait ops.size pend (listed.setIfInBounds r true) j' q := fun q h => by
    refine ⟨h.1, h.2.1, Nat.le_of_not_lt fun hlt => ?_, by rw [hset]; split; rfl; exact h.2.2.2⟩
    have := hp' q h.1 h.2.1 hlt
    have := h.2.2.1
    omega
  have keep : ∀ q, Wait ops.size pend listed j q → w'.heap[B q]? = w.heap[B q]? := fun q h =>
    hgoes.frame _ (I.size q h).2 fun ⟨i, oi, e, _, hb⟩ => I.free q i oi h e hb
  refine ⟨by simpa using I.sz, fun i p hp hi e he => ?_, hj', fun l hl hll hpl => ?_, fun p hps hpp hpj => ?_, hrep, I.goes.trans hgoes, ?_, hrel, ?_, fun p hw => ?_, fun p q el hw hq hop' => ?_, fun p i oi hw e => ?_, fun p q u hw hq hdq hu => ?_, fun p q hw hq e => ?_, I.r0⟩
  · rw [hset] at hi ⊢
    by_cases hei : e = r
    · rw [if_pos hei]
    · rw [if_neg hei]
      by_cases hir : i = r
      · subst hir
        rw [ho] at hp
        obtain rfl := Option.some.inj hp
        exact hedges e he
      · rw [if_neg hir] at hi
        exact I.down i p hp hi e he
  · rw [hset, ← hl' l hl hll hpl]
    by_cases hlr : l = r
    · simp [hlr]
    · simp [hlr]
  · rw [hset]
    split
    · rfl
    · exact I.hp p hps hpp (hp' p hps hpp hpj)
  · refine I.same.put D.one ho (fun h => by rw [hnot] at h; cases h.1) fun k => ?_
    rw [hset]
    by_cases hkr : k = r
    · subst hkr
      rw [if_pos rfl]
      exact ⟨fun _ => .inr rfl, fun _ => ⟨rfl, fun h => by rw [hpr] at h; cases h.1⟩⟩
    · rw [if_neg hkr]
      constructor
      · rintro ⟨h1, h2⟩
        refine .inl ⟨h1, fun h3 => h2 ⟨h3.1, ?_⟩⟩
        have hks : k < ops.size := by rw [← I.sz]; exact L_lt h1
        exact (wnew k ⟨hks, h3.1, h3.2, h1⟩).2.2.1
      · rintro (⟨h1, h2⟩ | h)
        · exact ⟨h1, fun h3 => h2 ⟨h3.1, Nat.le_trans hjj h3.2⟩⟩
        · exact absurd h hkr
  · have base : Off (WaitT ops pend (listed.setIfInBounds r true) j') c c₁ := ⟨hd, by rw [hc, hc₁]; exact I.off.size, fun t ht => by
      rw [hc, hc₁]
      refine I.off.at_ t fun ⟨q, o', hw, h1, h2⟩ => ht ⟨q, o', wnew q hw, h1, h2⟩⟩
    exact base.put _ _
  · obtain ⟨_, hw'⟩ := wold p hw
    exact ⟨(I.size p hw').1, Nat.lt_of_lt_of_le (I.size p hw').2 hgoes.size⟩
  · obtain ⟨_, hw'⟩ := wold p hw
    rw [keep p hw']
    exact I.cells p q el hw' hq hop'
  · obtain ⟨_, hw'⟩ := wold p hw
    intro hb
    rcases D.wr ⟨p, hw.1, hw.2.1⟩ j' hj' i oi e (hrep.obj i oi e).1 with hwr | hold
    case inr =>
      obtain ⟨h1, h2⟩ := I.r0 i hold
      have h3 := (I.goes.trans hgoes).le.f i h1
      have h4 := (I.size p hw').1
      rw [h3] at hb
      omega
    obtain ⟨i2, o2, e2, _, hb2⟩ := hgoes.own (B p) (I.size p hw').2 ⟨i, oi, e, hwr, hb⟩
    exact I.free p i2 o2 hw' e2 hb2
  · obtain ⟨hpr', hw'⟩ := wold p hw
    have hne : o.dst ≠ some u := fun e => hpr' (D.one p r q o u hq ho hdq e)
    have := I.ptr p q u hw' hq hdq hu
    rw [← hc] at this
    cases hod : o.dst with
    | none => exact this
    | some d =>
      simp only [Act.put]
      rw [Array.getElem?_setIfInBounds_ne (fun e => hne (by rw [hod, e]))]
      exact this
  · exact I.inj p q (wold p hw).2 (wold q hq).2 e

theorem opVal_not {o : Oper} {h : AHeap} {x : Value} {h' : AHeap} (e : opRun P ih o a h = some (x, h')) : (∀ cs b, o.op ≠ .select cs b) ∧ ∀ c, o.op ≠ .defer c := by
  constructor
  · intro cs b ho
    unfold opRun at e
    rw [ho] at e
    simp [aop] at e
  · intro c ho
    unfold opRun at e
    rw [ho] at e
    simp [aop] at e

theorem any_ok2 (hN : NamesOk P) {n : Nat} (hih : RunOk P n ih) (D : Draw2 P ih ops a0 A H v loud pend M) {rnd : Option Nat} (hrnd : RndOk θ0 rnd) {m : Nat} {Q : Exit → Act → World → Prop}
    (hQ : ∀ θ' w' act', Rep P θ' (H ops.size) w' → Goes θ0 (H 0) w0 θ' (H ops.size) w' → ActRel θ' (A ops.size) act' → Q .normal act' w') : ∀ (fuel : Nat) (listed : Array Bool) (j : Nat) (θ : Env) (a : AAct) (act act₁ : Act) (w : World) (B : Nat → Nat),
    unl (L listed) ops.size ≤ fuel → Inv P ops a0 H v loud pend θ0 w0 listed j θ a act act₁ w B →
    wpAnyIn (FE θ0 rnd) m P .any ops Q fuel listed act w := by
  intro fuel
  induction fuel with
  | zero =>
    intro listed j θ a act act₁ w B hu I
    have hall := unl_zero (S := L listed) ops.size (Nat.le_zero.1 hu)
    obtain ⟨j', θ', a', act₁', I', F⟩ := Inv.full D _ j θ a act₁ (Nat.le_refl _) I
    obtain ⟨h1, h2, h3⟩ := I'.done D F hall
    refine ⟨?_, hQ _ _ _ h1 h2 h3⟩
    cases hR : Region.ready .any ops listed with
    | nil => rfl
    | cons i t =>
      exfalso
      have hi : i ∈ Region.ready .any ops listed := by rw [hR]; exact List.mem_cons_self
      obtain ⟨h0, o, ho, _⟩ := mem_ready.1 hi
      have hlt : i < ops.size := (Array.getElem?_eq_some_iff.1 ho).1
      rw [L_default (by rw [I.sz]; exact hlt), hall i hlt] at h0
      cases h0
  | succ fuel ihf =>
    intro listed j₀ θ₀ a₀ act act₁₀ w B hu I₀
    obtain ⟨j, θ, a, act₁, I, F⟩ := Inv.full D _ j₀ θ₀ a₀ act₁₀ (Nat.le_refl _) I₀
    refine ⟨fun h0 => ?_, fun i hi => ?_⟩
    · obtain ⟨h1, h2, h3⟩ := I.done D F (all_listed I.sz D.low h0)
      exact hQ _ _ _ h1 h2 h3
    · obtain ⟨h0, o, ho, hready⟩ := mem_ready.1 hi
      have hlt : i < ops.size := (Array.getElem?_eq_some_iff.1 ho).1
      have hls : i < listed.size := by rw [I.sz]; exact hlt
      rw [L_default hls] at h0
      have hedges : ∀ e ∈ edgesOf o, L listed e = true := fun e he => by
        obtain ⟨d, hd, hb, rfl⟩ := mem_edges.1 he
        exact hready d hd hb
      have hset : ∀ k, L (listed.setIfInBounds i true) k = (if k = i then true else L listed k) := fun k => L_set hls
      have hfuel : unl (L (listed.setIfInBounds i true)) ops.size ≤ fuel := by
        have := unl_step (S := L listed) (T := L (listed.setIfInBounds i true)) h0 (by rw [hset, if_pos rfl]) (fun k hk => by rw [hset, if_neg hk]) ops.size hlt
        omega
      cases hpi : pend i with
      | true =>
        obtain ⟨hli, o', elem, t, ho', hop, hg, hdst⟩ := D.pnd i hlt hpi
        rw [ho] at ho'
        obtain rfl := Option.some.inj ho'
        obtain ⟨z, sz, by_, hz⟩ : ∃ z n m, zeroOf P elem = some (z, n, m) := by
          have hcan := D.canon i o ho
          unfold opVal at hcan
          have hw : wantedA ops (A i) o = true := by unfold wantedA; rw [hg]
          rw [hw] at hcan
          have hcan : opRun P ih o (A i) (H i) = some (v i, H (i+1)) := hcan
          unfold opRun at hcan
          rw [hop] at hcan
          have hcan : aAlloc P (H i) elem = some (v i, H (i+1)) := hcan
          unfold aAlloc at hcan
          cases hz : zeroOf P elem with
          | none => rw [hz] at hcan; cases hcan
          | some q => exact ⟨q.1, q.2.1, q.2.2, rfl⟩
        unfold wpOpIn
        rw [ho]
        simp only
        have hwant : Region.wanted o (yielded ops act.tmps) = true := by unfold Region.wanted; rw [hg]
        rw [hwant]
        simp only [if_true]
        refine ⟨fun f hf => FE_fn θ0 rnd f, ?_⟩
        rw [Oper.semAt_eq _ _ _ (fun c hc => by rw [hop] at hc; cases hc)]
        have hex : Runs P (execOp act.eval o) w (.value (.pointer (some ⟨w.heap.size, 0, none⟩))) (World.push w (.cells z.toArray elem)) := by
          obtain ⟨dst, op, type, pos, after, guard⟩ := o
          simp only at hop
          subst hop
          exact Runs.bind (alloc_run hz w) (.pure _ _)
        rw [show (execOp act.eval o).run P w = _ from hex]
        simp only [Oper.uponIn, hdst]
        exact ihf _ j θ a _ act₁ _ _ hfuel (I.make D ho hpi h0 hop hdst hedges hz)
      | false =>
        obtain ⟨hnw, j', hval, hjj, hj', hl', hp'⟩ := I.ready D F ho hpi h0 hedges
        cases hwa : wantedA ops a o with
        | false =>
          -- not wanted: the temporary is cleared
          have hw₁ : Region.wanted o (yielded ops act.tmps) = false := by
            rw [I.off.wanted hnw, wanted_eq I.rel]; exact hwa
          unfold opVal at hval
          rw [hwa] at hval
          have hval : some (undef, H j) = some (v i, H j') := hval
          simp only [Option.some.injEq, Prod.mk.injEq] at hval
          unfold wpOpIn
          rw [ho]
          simp only [hw₁, Bool.false_eq_true, if_false]
          refine ⟨fun f _ => FE_fn θ0 rnd f, ihf _ j' θ (a.put o.dst (v i)) _ (act₁.put o.dst undef) _ B hfuel ?_⟩
          refine I.next D ho hpi h0 hedges hjj hj' hl' hp' rfl rfl I.off.defers (by rw [← hval.2]; exact I.rep) (by rw [← hval.2]; exact .refl _ _ _) ?_
          rw [← hval.1]
          exact I.rel.put _ .undef
        | true =>
          have hrun : opRun P ih o a (H j) = some (v i, H j') := by
            unfold opVal at hval
            rw [hwa] at hval
            exact hval
          obtain ⟨hs, hd⟩ := opVal_not hrun
          refine wpOpIn_off ho hs hd I.off hnw (K₁ := fun act' w' => ∃ θ', Rep P θ' (H j') w' ∧ Goes θ (H j) w θ' (H j') w' ∧ ActRel θ' (a.put o.dst (v i)) act') ?_ ?_
          · rintro c c₁ u w' hc hc₁ hdf ⟨θ', hr', hg', ha'⟩
            exact ihf _ j' θ' (a.put o.dst (v i)) _ (c₁.put o.dst u) w' B hfuel (I.next D ho hpi h0 hedges hjj hj' hl' hp' hc hc₁ hdf hr' hg' ha')
          · have := opVal_ok hN hih ho I.rep I.rel hval m (rnd := rnd) (fun act' w' => ∃ θ', Rep P θ' (H j') w' ∧ Goes θ (H j) w θ' (H j') w' ∧ ActRel θ' (a.put o.dst (v i)) act') Nope fun θ' w' act' r' g' ha' => ⟨θ', r', g', ha'⟩
            rwa [FE_le I.goes.le hrnd] at this

/-- **A region that draws its order**, from its run in index order; variables may be made early. -/
theorem draw2_ok (hN : NamesOk P) (hm : P.follows .mixedOrders = true) {n : Nat} (hih : RunOk P n ih) {rnd : Option Nat} {id : Nat} {h : AHeap} (D : Draw2 P ih ops a A H v loud pend M) (h0 : H 0 = h) : CodeOk P (n+1) rnd (.region id ops true) a h .normal (A ops.size) (H ops.size) := by
  refine .of_wp (fun _ => by simp) fun θ w act m Q r ha hr hQ => wpIn_region_any hm ?_
  obtain ⟨r₁, g₁⟩ := r.drawn (w.drawn + 1)
  subst h0
  have none_ : ∀ p j, ¬ Wait ops.size pend (Array.replicate ops.size false) j p := fun p j h => by
    have := h.2.2.2
    rw [L_replicate] at this
    cases this
  refine any_ok2 (θ0 := θ) (w0 := { w with drawn := w.drawn + 1 }) hN hih D hr (fun θ' w' act' r' g' ha' => hQ θ' w' act' .normal trivial r' (g₁.trans g') ha') ops.size (Array.replicate ops.size false) 0 θ a act act _ (fun _ => 0) (unl_le _ _) ?_
  refine ⟨by simp, fun i o _ hl => ?_, Nat.zero_le _, fun l _ _ _ => ?_, fun p _ _ h => absurd h (Nat.not_lt_zero _), r₁, .refl _ _ _, Same.start a ops v fun i h => ?_, ha, ⟨rfl, rfl, fun _ _ => rfl⟩, fun p h => absurd h (none_ p 0), fun p o el h => absurd h (none_ p 0), fun p i oi h => absurd h (none_ p 0), fun p o t h => absurd h (none_ p 0), fun p q h => absurd h (none_ p 0), fun i hi => ⟨by rw [r₁.nx]; exact hi, r₁.low i (by rw [r₁.nx]; exact hi)⟩⟩
  · rw [L_replicate] at hl; cases hl
  · rw [L_replicate]; simp
  · rw [L_replicate] at h; cases h.1
end
end Go.AM
end

section
namespace Go.AM
open Go

noncomputable def eqA : Option Addr → Option Addr → Bool
  | none, none => true
  | some ⟨b, o, none⟩, some ⟨c, p, none⟩ => Nat.beq b c && Nat.beq o p
  | _, _ => false
noncomputable def eqL (f : Value → Value → Bool) : List Value → List Value → Bool
  | [], [] => true
  | x :: xs, y :: ys => f x y && eqL f xs ys
  | _, _ => false
noncomputable def eqK : IntKind → IntKind → Bool
  | .i8, .i8 | .i16, .i16 | .i32, .i32 | .i64, .i64 | .u8, .u8 | .u16, .u16 | .u32, .u32 | .u64, .u64 => true
  | _, _ => false
noncomputable def eqR : Option Nat → Option Nat → Bool
  | none, none => true
  | some a, some b => Nat.beq a b
  | _, _ => false
/-- Equal, as far as a look of this depth can tell. -/
noncomputable def eqV : Nat → Value → Value → Bool
  | 0, _, _ => false
  | n + 1, a, b => match a, b with
    | .bool x, .bool y => x == y
    | .int k x, .int l y => eqK k l && eqI x y
    | .string s, .string t => decide (s = t)
    | .pointer x, .pointer y => eqA x y
    | .slice x l c, .slice y m d => eqA x y && Nat.beq l m && Nat.beq c d
    | .map x, .map y => eqR x y
    | .nilFunc, .nilFunc => true
    | .nilIface, .nilIface => true
    | .agg x, .agg y => eqL (eqV n) x.toList y.toList
    | .tuple x, .tuple y => eqL (eqV n) x.toList y.toList
    | .func (.func f) u c, .func (.func g) u' c' => Nat.beq f g && eqL (eqV n) u.toList u'.toList && eqL (eqV n) c.toList c'.toList
    | _, _ => false

theorem eqA_eq {a b : Option Addr} (h : eqA a b = true) : a = b := by
  unfold eqA at h
  split at h
  · rfl
  · simp only [Bool.and_eq_true, Nat.beq_eq] at h
    rw [h.1, h.2]
  · cases h
theorem eqR_eq {a b : Option Nat} (h : eqR a b = true) : a = b := by
  unfold eqR at h
  split at h
  · rfl
  · simp only [Nat.beq_eq] at h
    rw [h]
  · cases h
theorem eqK_eq {a b : IntKind} (h : eqK a b = true) : a = b := by
  cases a <;> cases b <;> first | rfl | (simp [eqK] at h)
theorem eqL_eq {f : Value → Value → Bool} (hf : ∀ a b, f a b = true → a = b) : ∀ {x y : List Value}, eqL f x y = true → x = y
  | [], [], _ => rfl
  | a :: x, b :: y, h => by
    simp only [eqL, Bool.and_eq_true] at h
    rw [hf a b h.1, eqL_eq hf h.2]
  | [], _ :: _, h => by simp [eqL] at h
  | _ :: _, [], h => by simp [eqL] at h
theorem eqV_eq : ∀ {n : Nat} {a b : Value}, eqV n a b = true → a = b
  | 0, _, _, h => by simp [eqV] at h
  | n + 1, a, b, h => by
    have arr : ∀ {x y : Array Value}, eqL (eqV n) x.toList y.toList = true → x = y := fun h => Array.toList_inj.1 (eqL_eq (fun _ _ => eqV_eq) h)
    simp only [eqV] at h
    split at h
    · rw [beq_iff_eq] at h; rw [h]
    · simp only [Bool.and_eq_true] at h
      rw [eqK_eq h.1]
      have := h.2
      rw [eqI_eq, beq_iff_eq] at this
      rw [this]
    · rw [of_decide_eq_true h]
    · rw [eqA_eq h]
    · simp only [Bool.and_eq_true, Nat.beq_eq] at h
      rw [eqA_eq h.1.1, h.1.2, h.2]
    · rw [eqR_eq h]
    · rfl
    · rfl
    · rw [arr h]
    · rw [arr h]
    · simp only [Bool.and_eq_true, Nat.beq_eq] at h
      rw [h.1.1, arr h.1.2, arr h.2]
    · cases h

/-- All objects that are new may be written. -/
noncomputable def newWr (h0 h : AHeap) : Bool :=
  Nat.rec (motive := fun _ => Bool) true (fun k ih => Bool.rec false ih (Option.rec true (fun o => o.wr) (h.get (Nat.add h0.next k)))) (Nat.sub h.next h0.next)
theorem newWr_get {h0 h : AHeap} (e : newWr h0 h = true) (i : Nat) (o : AObj) (hg : h.get i = some o) (hi : i < h.next) : o.wr = true ∨ i < h0.next := by
  rcases Nat.lt_or_ge i h0.next with h1 | h1
  · exact .inr h1
  · refine .inl ?_
    have key : ∀ d, (Nat.rec (motive := fun _ => Bool) true (fun k ih => Bool.rec false ih (Option.rec true (fun o => o.wr) (h.get (Nat.add h0.next k)))) d : Bool) = true → ∀ k, k < d → ∀ o, h.get (h0.next + k) = some o → o.wr = true := by
      intro d
      induction d with
      | zero => intro _ k hk; omega
      | succ d ihd =>
        intro e k hk o ho
        have e : (Bool.rec false (Nat.rec (motive := fun _ => Bool) true (fun k ih => Bool.rec false ih (Option.rec true (fun o => o.wr) (h.get (Nat.add h0.next k)))) d) (Option.rec true (fun o => o.wr) (h.get (Nat.add h0.next d))) : Bool) = true := e
        cases hx : (Option.rec true (fun o => o.wr) (h.get (Nat.add h0.next d)) : Bool) with
        | false => rw [hx] at e; cases e
        | true =>
          rw [hx] at e
          rcases Nat.lt_or_eq_of_le (Nat.le_of_lt_succ hk) with h2 | rfl
          · exact ihd e k h2 o ho
          · have ho' : h.get (Nat.add h0.next k) = some o := ho
            rw [ho'] at hx
            exact hx
    refine key _ e (i - h0.next) (show i - h0.next < h.next - h0.next by omega) o ?_
    rw [show h0.next + (i - h0.next) = i by omega]
    exact hg

section
variable {P : Program} {ih : Run} {ops : Array Oper}

/-- The run in index order, with its states. -/
noncomputable def traceR (P : Program) (ih : Run) (ops : Array Oper) : List Oper → AAct → AHeap → Option (List (AAct × AHeap × Value) × AAct × AHeap)
  | [], a, h => some ([], a, h)
  | o :: l, a, h => match opVal P ih ops o a h with
    | none => none
    | some (v, h') => match traceR P ih ops l (a.put o.dst v) h' with
      | none => none
      | some (tr, az, hz) => some ((a, h, v) :: tr, az, hz)

theorem trace_run : ∀ {l : List Oper} {a az : AAct} {h hz : AHeap} {tr : List (AAct × AHeap × Value)}, traceR P ih ops l a h = some (tr, az, hz) → opsRun P ih ops l a h = some (az, hz)
  | [], a, az, h, hz, tr, e => by
    simp only [traceR, Option.some.injEq, Prod.mk.injEq] at e
    simp [opsRun, e.2.1, e.2.2]
  | o :: l, a, az, h, hz, tr, e => by
    simp only [traceR] at e
    cases hv : opVal P ih ops o a h with
    | none => rw [hv] at e; cases e
    | some q =>
      obtain ⟨v, h'⟩ := q
      rw [hv] at e
      simp only at e
      cases ht : traceR P ih ops l (a.put o.dst v) h' with
      | none => rw [ht] at e; cases e
      | some q =>
        obtain ⟨tr', az', hz'⟩ := q
        rw [ht] at e
        simp only [Option.some.injEq, Prod.mk.injEq] at e
        obtain ⟨_, rfl, rfl⟩ := e
        show (Option.rec none (fun r => opsRun P ih ops l r.1 r.2) (opAt P ih ops o a h) : Option (AAct × AHeap)) = _
        rw [opAt_val, hv]
        exact trace_run ht

theorem trace_seq : ∀ {l : List Oper} {a az : AAct} {h hz : AHeap} {tr : List (AAct × AHeap × Value)}, traceR P ih ops l a h = some (tr, az, hz) →
    ∃ (A : Nat → AAct) (H : Nat → AHeap) (v : Nat → Value), A 0 = a ∧ H 0 = h ∧ A l.length = az ∧ H l.length = hz ∧ (∀ i, i < l.length → tr[i]? = some (A i, H i, v i)) ∧
      ∀ i o, l[i]? = some o → opVal P ih ops o (A i) (H i) = some (v i, H (i+1)) ∧ A (i+1) = (A i).put o.dst (v i)
  | [], a, az, h, hz, tr, e => by
    simp only [traceR, Option.some.injEq, Prod.mk.injEq] at e
    exact ⟨fun _ => a, fun _ => h, fun _ => undef, rfl, rfl, e.2.1, e.2.2, fun i hi => absurd hi (Nat.not_lt_zero i), fun i o hi => by simp at hi⟩
  | o :: l, a, az, h, hz, tr, e => by
    simp only [traceR] at e
    cases hv : opVal P ih ops o a h with
    | none => rw [hv] at e; cases e
    | some q =>
      obtain ⟨u, h'⟩ := q
      rw [hv] at e
      simp only at e
      cases ht : traceR P ih ops l (a.put o.dst u) h' with
      | none => rw [ht] at e; cases e
      | some q =>
        obtain ⟨tr', az', hz'⟩ := q
        rw [ht] at e
        simp only [Option.some.injEq, Prod.mk.injEq] at e
        obtain ⟨rfl, rfl, rfl⟩ := e
        obtain ⟨A, H, v, hA, hH, hA', hH', htr, hst⟩ := trace_seq ht
        refine ⟨fun i => Nat.rec a (fun i _ => A i) i, fun i => Nat.rec h (fun i _ => H i) i, fun i => Nat.rec u (fun i _ => v i) i, rfl, rfl, hA', hH', fun i hi => ?_, fun i p hp => ?_⟩
        · cases i with
          | zero => rfl
          | succ i => simpa using htr i (by simpa using hi)
        · cases i with
          | zero =>
            obtain rfl : o = p := by simpa using hp
            exact ⟨by show opVal P ih ops o a h = some (u, H 0); rw [hH]; exact hv, hA⟩
          | succ i => exact hst i p (by simpa using hp)
end
end Go.AM
end

section
namespace Go.AM
open Go
section
variable {P : Program} {ih : Run} {ops : Array Oper}

def isVar (o : Oper) : Bool := match o.op, o.guard, o.dst with
  | .alloc _, none, some _ => true
  | _, _, _ => false
noncomputable def mOf (m : List Nat) (j i : Nat) : Bool := (m.getD j 0).testBit i
/-- A variable that may be made before a loud operation that comes before it in index order. -/
noncomputable def pendB (ops : Array Oper) (m : List Nat) (p : Nat) : Bool :=
  (ops[p]?).elim false isVar && !allLt (fun l => !isLoud ops l || mOf m p l) p

noncomputable def stat2B (ops : Array Oper) (m : List Nat) : Bool :=
  allLt (fun j => (edgesAt ops j).all (fun e => Nat.blt e j) && allLt (fun i => !mOf m j i || (edgesAt ops j).any fun e => Nat.beq e i || mOf m e i) ops.size && Nat.ble (m.getD j 0) (2 ^ ops.size - 1)
    && (match dstOf ops j with | none => true | some t => allLt (fun i => Nat.beq i j || !writes ops i t) ops.size)
    && allLt (fun i => !(isLoud ops i && isLoud ops j && !pendB ops m j) || mOf m j i) j
    && ((ops[j]?).elim [] (tmpsOf ops)).all (fun t => allLt (fun i => (!writes ops i t || Nat.beq i j || mOf m j i || mOf m i j) && (!(pendB ops m i && writes ops i t) || allLt (fun l => !isLoud ops l || mOf m j l) (i+1))) ops.size)) ops.size

structure Stat2 (ops : Array Oper) (M : Nat → Nat → Bool) (pend : Nat → Bool) : Prop where
  one : OneWriter ops
  anc : AncOk (fun j => (ops[j]?).elim [] edgesOf) M ops.size
  line : ∀ i j, i < j → j < ops.size → isLoud ops i = true → isLoud ops j = true → pend j = false → M j i = true
  reads : ∀ r o i p (t : Tmp), ops[r]? = some o → ops[i]? = some p → p.dst = some t → Reads ops o t → i = r ∨ M r i = true ∨ M i r = true
  pread : ∀ p r o o' (t : Tmp), pend p = true → ops[p]? = some o' → o'.dst = some t → ops[r]? = some o → Reads ops o t → ∀ l, l ≤ p → isLoud ops l = true → M r l = true
  pnd : ∀ p, p < ops.size → pend p = true → isLoud ops p = true ∧ ∃ o elem t, ops[p]? = some o ∧ o.op = .alloc elem ∧ o.guard = none ∧ o.dst = some t

theorem isVar_spec {o : Oper} (h : isVar o = true) : ∃ elem t, o.op = .alloc elem ∧ o.guard = none ∧ o.dst = some t := by
  unfold isVar at h
  split at h
  · exact ⟨_, _, by assumption, by assumption, by assumption⟩
  · cases h

theorem stat2_of {m : List Nat} (h : stat2B ops m = true) : Stat2 ops (mOf m) (pendB ops m) := by
  have key := fun j (hj : j < ops.size) => allLt_spec h j hj
  simp only [Bool.and_eq_true] at key
  refine ⟨fun i j o p t ho hp hd hd' => ?_, ⟨fun j hj e he => ?_, fun j hj i hm => ?_⟩, fun i j hij hj h1 h2 h3 => ?_, fun r o i p t ho hp hd ht => ?_, fun p r o o' t hpp hp hd ho ht l hl hll => ?_, fun p hps hpp => ?_⟩
  · have hj : j < ops.size := (Array.getElem?_eq_some_iff.1 hp).1
    have hi : i < ops.size := (Array.getElem?_eq_some_iff.1 ho).1
    have := (key j hj).1.1.2
    have hdj : dstOf ops j = some t := by simp [dstOf, hp, hd']
    rw [hdj] at this
    have := allLt_spec this i hi
    rw [writes_of ho hd] at this
    simpa using this
  · have := List.all_eq_true.1 (key j hj).1.1.1.1.1 e he
    exact blt_true this
  · have hi : i < ops.size := by
      have hb : m.getD j 0 ≤ 2 ^ ops.size - 1 := Nat.le_of_ble_eq_true (key j hj).1.1.1.2
      refine Nat.lt_of_not_le fun hle => ?_
      have : m.getD j 0 < 2 ^ i := Nat.lt_of_lt_of_le (by have := Nat.two_pow_pos ops.size; omega) (Nat.pow_le_pow_right (by decide) hle)
      have hf : (m.getD j 0).testBit i = false := Nat.testBit_lt_two_pow this
      have hm : (m.getD j 0).testBit i = true := hm
      rw [hf] at hm
      cases hm
    have := allLt_spec (key j hj).1.1.1.1.2 i hi
    rw [hm] at this
    simp only [Bool.not_true, Bool.false_or, List.any_eq_true, Bool.or_eq_true] at this
    obtain ⟨e, he, h1⟩ := this
    exact ⟨e, he, h1.imp Nat.eq_of_beq_eq_true id⟩
  · have := allLt_spec (key j hj).1.2 i hij
    rw [h1, h2, h3] at this
    simpa using this
  · have hr : r < ops.size := (Array.getElem?_eq_some_iff.1 ho).1
    have hi : i < ops.size := (Array.getElem?_eq_some_iff.1 hp).1
    have := (key r hr).2
    rw [ho] at this
    have := List.all_eq_true.1 this t (reads_mem ht)
    have := allLt_spec this i hi
    simp only [Bool.and_eq_true] at this
    have := this.1
    rw [writes_of hp hd] at this
    simp only [Bool.not_true, Bool.false_or, Bool.or_eq_true] at this
    rcases this with (h1 | h1) | h1
    · exact .inl (Nat.eq_of_beq_eq_true h1)
    · exact .inr (.inl h1)
    · exact .inr (.inr h1)
  · have hr : r < ops.size := (Array.getElem?_eq_some_iff.1 ho).1
    have hi : p < ops.size := (Array.getElem?_eq_some_iff.1 hp).1
    have := (key r hr).2
    rw [ho] at this
    have := List.all_eq_true.1 this t (reads_mem ht)
    have := allLt_spec this p hi
    simp only [Bool.and_eq_true] at this
    have := this.2
    rw [writes_of hp hd, hpp] at this
    simp only [Bool.and_self, Bool.not_true, Bool.false_or] at this
    have := allLt_spec this l (Nat.lt_succ_of_le hl)
    rw [hll] at this
    simpa using this
  · unfold pendB at hpp
    simp only [Bool.and_eq_true] at hpp
    have ho : ops[p]? = some ops[p] := Array.getElem?_eq_getElem hps
    have h1 := hpp.1
    rw [ho] at h1
    obtain ⟨elem, t, a1, a2, a3⟩ := isVar_spec h1
    refine ⟨?_, ops[p], elem, t, ho, a1, a2, a3⟩
    simp [isLoud, opB, ho, a1, readOp, pureOp]

/-- The heap is not the one before. -/
def isTurn (ops : Array Oper) : Nat → Bool
  | 0 => true
  | j + 1 => isLoud ops j
/-- A reader must be looked at again at the heap of this place. -/
noncomputable def needB (ops : Array Oper) (m : List Nat) (r j : Nat) : Bool :=
  !isLoud ops r && !opB ops pureOp r && isTurn ops j && allLt (fun l => !(isLoud ops l && !pendB ops m l && mOf m r l) || Nat.blt l j) ops.size && allLt (fun l => !(isLoud ops l && mOf m l r) || Nat.ble j l) ops.size
noncomputable def needs (ops : Array Oper) (m : List Nat) : List (Nat × Nat) :=
  (List.range ops.size).flatMap fun r => ((List.range (ops.size + 1)).filter (needB ops m r)).map fun j => (r, j)
theorem needs_mem {m : List Nat} {r j : Nat} (hr : r < ops.size) (hj : j ≤ ops.size) (h : needB ops m r j = true) : (r, j) ∈ needs ops m := by
  unfold needs
  rw [List.mem_flatMap]
  refine ⟨r, List.mem_range.2 hr, ?_⟩
  rw [List.mem_map]
  exact ⟨j, List.mem_filter.2 ⟨List.mem_range.2 (by omega), h⟩, rfl⟩

noncomputable def heapAt (tr : List (AAct × AHeap × Value)) (hz : AHeap) (j : Nat) : AHeap :=
  match tr[j]? with
  | some (_, h, _) => h
  | none => hz
noncomputable def againB (P : Program) (ih : Run) (ops : Array Oper) (tr : List (AAct × AHeap × Value)) (hz : AHeap) (x : Nat × Nat) : Bool :=
  match ops[x.1]?, tr[x.1]? with
  | some o, some (a, _, v) => match opVal P ih ops o a (heapAt tr hz x.2) with
    | some (u, _) => eqV 100 u v
    | none => false
  | _, _ => false
noncomputable def turns (ops : Array Oper) : List Nat := (List.range (ops.size + 1)).filter (isTurn ops)
noncomputable def hasPend (ops : Array Oper) (m : List Nat) : Bool := !allLt (fun p => !pendB ops m p) ops.size

/-- The last turn of the heap up to j. -/
theorem last_turn (ops : Array Oper) : ∀ j, ∃ k, k ≤ j ∧ isTurn ops k = true ∧ ∀ l, k ≤ l → l < j → isLoud ops l = false
  | 0 => ⟨0, Nat.le_refl _, rfl, fun l h1 h2 => absurd h2 (Nat.not_lt_zero l)⟩
  | j + 1 => by
    cases hl : isLoud ops j with
    | true => exact ⟨j + 1, Nat.le_refl _, hl, fun l h1 h2 => by omega⟩
    | false =>
      obtain ⟨k, h1, h2, h3⟩ := last_turn ops j
      refine ⟨k, by omega, h2, fun l h4 h5 => ?_⟩
      rcases Nat.lt_or_eq_of_le (Nat.le_of_lt_succ h5) with h6 | rfl
      · exact h3 l h4 h6
      · exact hl

theorem Stat2.draw {m : List Nat} (S : Stat2 ops (mOf m) (pendB ops m)) {a az : AAct} {h hz : AHeap} {tr : List (AAct × AHeap × Value)} (e : traceR P ih ops ops.toList a h = some (tr, az, hz))
    (hn : (needs ops m).all (againB P ih ops tr hz) = true) (hw : hasPend ops m = true → (turns ops).all (fun j => newWr h (heapAt tr hz j)) = true) :
    ∃ A H v, Draw2 P ih ops a A H v (isLoud ops) (pendB ops m) (mOf m) ∧ H 0 = h ∧ A ops.size = az ∧ H ops.size = hz := by
  obtain ⟨A, H, v, hA, hH, hA', hH', htr, hst⟩ := trace_seq e
  have htr' : ∀ i, i < ops.size → tr[i]? = some (A i, H i, v i) := fun i hi => htr i (by simpa using hi)
  have hAz : A ops.size = az := by simpa using hA'
  have hHz : H ops.size = hz := by simpa using hH'
  have hlen : ∀ j, j ≤ ops.size → heapAt tr hz j = H j := fun j hj => by
    unfold heapAt
    rcases Nat.lt_or_eq_of_le hj with hlt | rfl
    · rw [htr' j hlt]
    · have : tr.length = ops.size := by
        have key : ∀ {l : List Oper} {a az : AAct} {h hz : AHeap} {tr : List (AAct × AHeap × Value)}, traceR P ih ops l a h = some (tr, az, hz) → tr.length = l.length := by
          intro l
          induction l with
          | nil =>
            intro a az h hz tr e
            simp only [traceR, Option.some.injEq, Prod.mk.injEq] at e
            rw [← e.1]; rfl
          | cons o l ihl =>
            intro a az h hz tr e
            simp only [traceR] at e
            split at e
            · cases e
            · split at e
              · cases e
              · rename_i ht
                simp only [Option.some.injEq, Prod.mk.injEq] at e
                rw [← e.1, List.length_cons, ihl ht, List.length_cons]
        simpa using key e
      rw [List.getElem?_eq_none (by omega), hHz]
  have hst' : ∀ i o, ops[i]? = some o → opVal P ih ops o (A i) (H i) = some (v i, H (i+1)) ∧ A (i+1) = (A i).put o.dst (v i) := fun i o ho => hst i o (by simpa using ho)
  have quiet : ∀ i, i < ops.size → isLoud ops i = false → H (i+1) = H i := fun i hi hl =>
    opVal_read (loud_false (Array.getElem?_eq_getElem hi) hl) (hst' i _ (Array.getElem?_eq_getElem hi)).1
  have back : ∀ j, j ≤ ops.size → ∃ k, k ≤ j ∧ isTurn ops k = true ∧ H j = H k ∧ ∀ l, k ≤ l → l < j → isLoud ops l = false := fun j hj => by
    obtain ⟨k, h1, h2, h3⟩ := last_turn ops j
    have := quiet_range quiet (j := k) (j - k) (by omega) fun l h4 h5 => h3 l h4 (by omega)
    rw [show k + (j - k) = j by omega] at this
    exact ⟨k, h1, h2, this, h3⟩
  refine ⟨A, H, v, ⟨S.one, S.anc, fun i o ho => (hst' i o ho).1, same_seq S.one hA fun i o ho => (hst' i o ho).2, quiet, S.line, S.reads, fun r o ho hl j hj h1 h2 => ?_, S.pnd, S.pread, fun hex j hj i o hg hi => ?_⟩, hH, hAz, hHz⟩
  · have hr : r < ops.size := (Array.getElem?_eq_some_iff.1 ho).1
    have hc := (hst' r o ho).1
    by_cases hp : pureOp o.op = true
    · exact (opVal_pure hp hc).2 _
    · obtain ⟨k, hkj, hkt, hHk, hkq⟩ := back j hj
      have hb1 : allLt (fun l => !(isLoud ops l && !pendB ops m l && mOf m r l) || Nat.blt l k) ops.size = true := by
        have key : ∀ n, n ≤ ops.size → allLt (fun l => !(isLoud ops l && !pendB ops m l && mOf m r l) || Nat.blt l k) n = true := by
          intro n
          induction n with
          | zero => intro _; rfl
          | succ n ihn =>
            intro hn'
            have hx : (!(isLoud ops n && !pendB ops m n && mOf m r n) || Nat.blt n k) = true := by
              cases hq1 : isLoud ops n with
              | false => rfl
              | true =>
                cases hq2 : pendB ops m n with
                | true => rfl
                | false =>
                  cases hq3 : mOf m r n with
                  | false => rfl
                  | true =>
                    have hnj := h1 n (by omega) hq1 hq2 hq3
                    have : n < k := Nat.lt_of_not_le fun hge => by
                      have := hkq n hge hnj
                      rw [hq1] at this
                      cases this
                    simp only [Bool.not_false, Bool.and_self, Bool.not_true, Bool.false_or]
                    exact Nat.ble_eq_true_of_le this
            show (Bool.rec false (allLt _ n) (!(isLoud ops n && !pendB ops m n && mOf m r n) || Nat.blt n k) : Bool) = true
            rw [hx]
            exact ihn (by omega)
        exact key _ (Nat.le_refl _)
      have hb2 : allLt (fun l => !(isLoud ops l && mOf m l r) || Nat.ble k l) ops.size = true := by
        have key : ∀ n, n ≤ ops.size → allLt (fun l => !(isLoud ops l && mOf m l r) || Nat.ble k l) n = true := by
          intro n
          induction n with
          | zero => intro _; rfl
          | succ n ihn =>
            intro hn'
            have hx : (!(isLoud ops n && mOf m n r) || Nat.ble k n) = true := by
              cases hq1 : isLoud ops n with
              | false => rfl
              | true =>
                cases hq3 : mOf m n r with
                | false => rfl
                | true =>
                  have hnj := h2 n (by omega) hq1 hq3
                  simp only [Bool.and_self, Bool.not_true, Bool.false_or]
                  exact Nat.ble_eq_true_of_le (by omega)
            show (Bool.rec false (allLt _ n) (!(isLoud ops n && mOf m n r) || Nat.ble k n) : Bool) = true
            rw [hx]
            exact ihn (by omega)
        exact key _ (Nat.le_refl _)
      have hneed : needB ops m r k = true := by
        unfold needB
        rw [hl, hkt, hb1, hb2]
        have : opB ops pureOp r = false := by
          simp only [opB, ho, Option.elim]
          simpa using hp
        rw [this]
        rfl
      have hag := List.all_eq_true.1 hn (r, k) (needs_mem hr (by omega) hneed)
      unfold againB at hag
      simp only [ho, htr' r hr, hlen k (by omega)] at hag
      rw [hHk]
      cases hv : opVal P ih ops o (A r) (H k) with
      | none => rw [hv] at hag; cases hag
      | some q =>
        obtain ⟨u, hx⟩ := q
        rw [hv] at hag
        rw [eqV_eq hag, opVal_read (loud_false ho hl) hv]
  · have hpd : hasPend ops m = true := by
      obtain ⟨p, hps, hpp⟩ := hex
      unfold hasPend
      cases hall : allLt (fun p => !pendB ops m p) ops.size with
      | false => rfl
      | true =>
        have := allLt_spec hall p hps
        rw [hpp] at this
        cases this
    obtain ⟨k, hkj, hkt, hHk, _⟩ := back j hj
    have := List.all_eq_true.1 (hw hpd) k (List.mem_filter.2 ⟨List.mem_range.2 (by omega), hkt⟩)
    rw [hlen k (by omega), ← hHk] at this
    rw [hH]
    exact newWr_get this i o hg hi
end
section
variable {P : Program} {θ : Env} {h h' : AHeap} {w w' : World} {v : Value}

/-! Texts turned to bytes, and bytes to a text. -/
noncomputable def strGo : List Value → ByteArray → Option ByteArray
  | [], s => some s
  | .int .u8 n :: l, s => strGo l (s.push (UInt8.ofNat n.toNat))
  | _ :: _, _ => none
noncomputable def isU8 (P : Program) (e : TypeId) : Bool :=
  match P.underlying e with
  | some (.int .u8) => true
  | _ => false
noncomputable def isStr (P : Program) (e : TypeId) : Bool :=
  match P.underlying e with
  | some .string => true
  | _ => false
noncomputable def sliceOfT (P : Program) (e : TypeId) : Option TypeId :=
  match P.underlying e with
  | some (.slice e) => some e
  | _ => none
noncomputable def aConvX (P : Program) (h : AHeap) (src dst : TypeId) (v : Value) : AVH :=
  match v with
  | .string s => match sliceOfT P dst with
    | some e => bif isU8 P e && isStr P src then some (.slice (some ⟨h.next, 0, none⟩) s.size OPEN, h.new (.cells { n := s.size, z := [], t := Tr.nil.setAll 0 (bytesOf s), elem := e, opn := false, ro := true })) else none
    | none => none
  | .slice (some ⟨b, off, none⟩) len _ => match sliceOfT P src with
    | some e => bif isU8 P e && isStr P dst && Nat.blt 0 len then
        (match h.get b with
        | some (.cells c) => match c.row off len with
          | some l => match strGo l .empty with
            | some s => some (.string s, h)
            | none => none
          | none => none
        | _ => none) else none
    | none => none
  | _ => none

theorem isU8_spec {e : TypeId} (x : isU8 P e = true) : P.underlying e = some (.int .u8) := by
  unfold isU8 at x
  split at x
  · assumption
  · cases x
theorem isStr_spec {e : TypeId} (x : isStr P e = true) : P.underlying e = some .string := by
  unfold isStr at x
  split at x
  · assumption
  · cases x
theorem sliceOfT_spec {t e : TypeId} (x : sliceOfT P t = some e) : P.underlying t = some (.slice e) := by
  unfold sliceOfT at x
  split at x
  · obtain rfl := Option.some.inj x; assumption
  · cases x

theorem strGo_spec : ∀ (l : List Value) (s s' : ByteArray), strGo l s = some s' → l.all flat = true ∧
    ∀ (w : World), Runs P (forIn (m := Sem) l s fun c r => do
      let .int .u8 n := c | stuck "bytesToString: byte expected"
      Pure.pure (ForInStep.yield (r.push (UInt8.ofNat n.toNat)))) w s' w
  | [], s, s', e => by
    obtain rfl := Option.some.inj e
    exact ⟨rfl, fun w => .pure _ _⟩
  | x :: l, s, s', e => by
    match x, e with
    | .int .u8 n, e =>
      obtain ⟨h1, h2⟩ := strGo_spec l _ s' e
      refine ⟨by simp only [List.all_cons, h1, Bool.and_true]; rfl, fun w => ?_⟩
      rw [List.forIn_cons]
      exact Runs.bind (.pure _ _) (h2 w)

theorem bytesOf_get (s : ByteArray) (k : Nat) (u : Value) (e : (bytesOf s)[k]? = some u) : (s.data.map fun b => Value.int .u8 b.toNat)[k]? = some u ∧ flat u = true := by
  unfold bytesOf at e
  rw [List.getElem?_map] at e
  rw [Array.getElem?_map]
  obtain ⟨b, hb, rfl⟩ := Option.map_eq_some_iff.1 e
  refine ⟨?_, rfl⟩
  rw [← Array.getElem?_toList, hb]
  rfl

/-- The world with a row of bytes of a text. -/
def strW (w : World) (arr : Array Value) (e : TypeId) : World := (World.push (dr w) (.cells arr e)).freeze ⟨w.heap.size, arr.size, none⟩ 1
theorem strW_size (w : World) (arr : Array Value) (e : TypeId) : (strW w arr e).heap.size = w.heap.size + 1 := by
  simp [strW, World.freeze, World.push, dr]
theorem strW_old (w : World) (arr : Array Value) (e : TypeId) {b : Nat} (hb : b < w.heap.size) : (strW w arr e).heap[b]? = w.heap[b]? := by
  have h1 : w.heap.size ≠ b := by omega
  simp only [strW, World.freeze, World.push, dr, Nat.one_ne_zero, if_false]
  rw [Array.getElem?_modify, if_neg h1, Array.getElem?_push, if_neg (by omega)]
theorem strW_cell (w : World) (arr : Array Value) (e : TypeId) (k : Nat) : (strW w arr e).cell? ⟨w.heap.size, k, none⟩ = arr[k]? := by
  simp only [World.cell?, strW, World.freeze, World.push, dr, Nat.one_ne_zero, if_false]
  rw [Array.getElem?_modify, if_pos rfl, Array.getElem?_push, if_pos rfl]
  rfl

theorem convX_ok (r : Rep P θ h w) {src dst : TypeId} {x x' : Value} (hx : VRel θ x x') (e : aConvX P h src dst x = some (v, h')) : Ok P θ h w (convert src dst x') v h' := by
  unfold aConvX at e
  split at e
  · rename_i s
    obtain rfl : x' = .string s := scalar_eq rfl hx
    split at e
    · rename_i el hel
      cases hc : (isU8 P el && isStr P src) with
      | false => rw [hc] at e; cases e
      | true =>
        rw [hc] at e
        simp only [Bool.and_eq_true] at hc
        simp only [cond_true, Option.some.injEq, Prod.mk.injEq] at e
        obtain ⟨rfl, rfl⟩ := e
        have hs := isStr_spec hc.2
        have hd := sliceOfT_spec hel
        have hu := isU8_spec hc.1
        let q : Question := .appendCap s.size 0 el
        let cap := q.cut (w.tape w.drawn q)
        have hge : s.size ≤ cap := by
          show s.size ≤ s.size + _
          omega
        let arr : Array Value := (s.data.map fun b => Value.int .u8 b.toNat) ++ Array.replicate (cap - s.size) (.int .u8 0)
        have hsz : arr.size = cap := by
          simp only [arr, Array.size_append, Array.size_map, Array.size_replicate]
          have : s.data.size = s.size := rfl
          omega
        have hrun : Runs P (convert src dst (.string s)) w (.slice (some ⟨w.heap.size, 0, none⟩) s.size cap) (strW w arr el) := by
          refine (run_under hs).bind ((run_under hd).bind ?_)
          refine (run_under hu).bind ?_
          show Runs P (Conv.stringToBytes el s) w _ _
          unfold Conv.stringToBytes
          refine Runs.bind (a := cap) (w₁ := dr w) rfl ?_
          refine Runs.bind (a := ⟨w.heap.size, 0, none⟩) (w₁ := World.push (dr w) (.cells arr el)) (Runs.bind (.new _ _) (.pure _ _)) ?_
          refine Runs.bind (a := ()) (w₁ := strW w arr el) ?_ (.pure _ _)
          unfold markStringish
          refine Runs.bind (.shape _ _) ?_
          have : (World.push (dr w) (.cells arr el)).shape? w.heap.size = some (el, arr.size) := by
            simp only [World.shape?]
            rw [show w.heap.size = (dr w).heap.size from rfl, push_get]
          simp only [this]
          rfl
        let th : Th := ⟨w.heap.size, 0, cap, 1⟩
        have hor : ORel P (θ.ext th) th (.cells { n := s.size, z := [], t := Tr.nil.setAll 0 (bytesOf s), elem := el, opn := false, ro := true }) (strW w arr el) := by
          refine ⟨fun k u hk => ?_, (fun x => by cases x), (fun _ => rfl), fun x => by cases x⟩
          have hlen : (bytesOf s).length = s.size := by unfold bytesOf; rw [List.length_map]; rfl
          have hks : k < s.size := at_lt hk
          have hk' : (bytesOf s)[k]? = some u := by
            unfold ACells.at at hk
            rw [show Nat.blt k s.size = true from Nat.ble_eq_true_of_le hks] at hk
            simp only [Tr.get_setAll, Nat.zero_le, true_and, Nat.zero_add, hlen, hks, if_true, Nat.sub_zero, cond_true] at hk
            rw [List.getElem?_eq_getElem (by rw [hlen]; exact hks)] at hk ⊢
            exact hk
          obtain ⟨h1, h2⟩ := bytesOf_get s k u hk'
          refine ⟨u, ?_, flat_rel h2⟩
          show (strW w arr el).cell? ⟨w.heap.size, k + 0, none⟩ = some u
          rw [Nat.add_zero, strW_cell, Array.getElem?_append_left (by rw [Array.size_map]; exact hks)]
          exact h1
        obtain ⟨p, g⟩ := r.newAt (w' := strW w arr el) (o := .cells { n := s.size, z := [], t := Tr.nil.setAll 0 (bytesOf s), elem := el, opn := false, ro := true }) (th := th) (Nat.le_refl _) (by rw [strW_size]; exact Nat.lt_succ_self _) rfl rfl rfl (by rw [strW_size]; omega) (fun b hb => strW_old w arr el hb) hor
        refine ⟨_, _, θ.ext th, hrun, ?_, p, g⟩
        have hxn : h.next < (θ.ext th).nx := by rw [← r.nx]; exact Nat.lt_succ_self _
        have hth : (θ.ext th).f h.next = th := by rw [← r.nx, Env.ext_new]
        have := VRel.sliceO (θ := θ.ext th) (b := h.next) (o := 0) (n := s.size) (c := cap) hxn hge (by rw [hth]; simp only [th]; omega)
        rw [hth] at this
        exact this
    · cases e
  · rename_i b off len cp
    split at e
    · rename_i el hel
      cases hc : (isU8 P el && isStr P dst && Nat.blt 0 len) with
      | false => rw [hc] at e; cases e
      | true =>
        rw [hc] at e
        simp only [Bool.and_eq_true] at hc
        simp only [cond_true] at e
        have hs := isStr_spec hc.1.2
        have hd := sliceOfT_spec hel
        have hu := isU8_spec hc.1.1
        have hl0 : len ≠ 0 := by have := blt_true hc.2; omega
        split at e
        · rename_i c hg
          split at e
          · rename_i l hrow
            split at e
            · rename_i s hstr
              simp only [Option.some.injEq, Prod.mk.injEq] at e
              obtain ⟨rfl, rfl⟩ := e
              obtain ⟨p', c', rfl, hp⟩ := slice_inv hx
              obtain rfl := hp b off rfl hl0
              have hc2 : CRel P θ (θ.f b) c w := (r.obj b _ hg).2.2
              obtain ⟨hfl, hfor⟩ := strGo_spec (P := P) l .empty s hstr
              obtain ⟨hlen, hcells⟩ := row_spec hrow
              have hcell : ∀ k, k < l.length → w.cell? ⟨(θ.f b).blk, off + (θ.f b).sh + k, none⟩ = l[k]? := fun k hk => by
                have hk' : l[k]? = some l[k] := List.getElem?_eq_getElem hk
                obtain ⟨u', hu', hrel⟩ := hc2.at_ (off + k) l[k] (by rw [hcells k (by omega), hk'])
                rw [flat_eq (List.all_eq_true.1 hfl _ (List.getElem_mem hk)) hrel] at hu'
                rw [hk', ← hu']
                congr 2
                omega
              refine .keep r (v' := .string s) ?_ (.string _)
              refine (run_under hd).bind ((run_under hs).bind ?_)
              refine (run_under hu).bind ?_
              show Runs P (Conv.bytesToString (.slice (some ⟨(θ.f b).blk, off + (θ.f b).sh, none⟩) len c')) w _ _
              unfold Conv.bytesToString
              have hload := run_loadCells (P := P) hcell
              rw [hlen] at hload
              refine hload.bind ?_
              refine Runs.bind (a := s) (w₁ := w) ?_ (.pure _ _)
              simp only [List.forIn_toArray]
              exact hfor w
            · cases e
          · cases e
        · cases e
    · cases e
  · cases e
end
section
variable {P : Program} {θ : Env} {h h' : AHeap} {w w' : World} {v : Value}

/-! Regions of a fixed order, with conversions of texts. -/
noncomputable def opX (P : Program) (o : Op) (a : AAct) (h : AHeap) : AVH :=
  match o with
  | .convert src dst x => on1 (a.ev x) (aConvX P h src dst)
  | _ => none
noncomputable def opRunX (P : Program) (ih : Run) (o : Oper) (a : AAct) (h : AHeap) : AVH :=
  Option.rec (opX P o.op a h) (fun r => some r) (opRun P ih o a h)
theorem opRunX_ok (hN : NamesOk P) {n : Nat} {ih : Run} (hih : RunOk P n ih) {o : Oper} {a : AAct} {act : Act} {rnd : Option Nat} (r : Rep P θ h w) (ha : ActRel θ a act) (e : opRunX P ih o a h = some (v, h')) (m : Nat) (K : Act → World → Prop) (Q : Exit → Act → World → Prop)
    (hK : ∀ θ' w' v', Rep P θ' h' w' → Goes θ h w θ' h' w' → VRel θ' v v' → K (act.put o.dst v') w') : o.wpIn (FE θ rnd) m P act w K Q := by
  unfold opRunX at e
  cases hr : opRun P ih o a h with
  | some q =>
    rw [hr] at e
    obtain rfl : q = (v, h') := Option.some.inj e
    exact opRun_ok hN hih r ha hr m K Q hK
  | none =>
    rw [hr] at e
    have e : opX P o.op a h = some (v, h') := e
    obtain ⟨dst, op, type, pos, after, guard⟩ := o
    simp only at e
    cases op with
    | convert src dt x =>
      have e : on1 (a.ev x) (aConvX P h src dt) = some (v, h') := e
      obtain ⟨u, a1, a2⟩ := on1_spec e
      refine ⟨fun f _ => FE_fn θ rnd f, ?_⟩
      rw [Oper.semAt_eq _ _ _ (fun c' hc => by cases hc)]
      obtain ⟨v', w', θ', hrun, hv, hrep, hg⟩ := (convX_ok r (ha.ev a1) a2).next
      rcases hrun with hrun | ⟨hrun, rfl⟩
      · rw [show (execOp act.eval ⟨dst, .convert src dt x, type, pos, after, guard⟩).run P w = .ok (.value v') w' from hrun]
        exact hK θ' w' v' hrep hg hv
      · rw [show (execOp act.eval ⟨dst, .convert src dt x, type, pos, after, guard⟩).run P w = .ok .skip w' from hrun]
        exact hK θ' w' undef hrep hg hv
    | _ => cases e
noncomputable def valX (P : Program) (ih : Run) (ops : Array Oper) (o : Oper) (a : AAct) (h : AHeap) : AVH :=
  Bool.rec (some (undef, h)) (opRunX P ih o a h) (wantedA ops a o)
noncomputable def opsX (P : Program) (ih : Run) (ops : Array Oper) (l : List Oper) : AAct → AHeap → Option (AAct × AHeap) :=
  List.rec (motive := fun _ => AAct → AHeap → Option (AAct × AHeap)) (fun a h => some (a, h))
    (fun o _ rest a h => Option.rec none (fun r => rest (a.put o.dst r.1) r.2) (valX P ih ops o a h)) l
theorem opsX_ok (hN : NamesOk P) {n : Nat} {ih : Run} (hih : RunOk P n ih) {ops : Array Oper} {rnd : Option Nat} {m : Nat} {Q : Exit → Act → World → Prop} {a' : AAct} : ∀ (l : List Oper) (k : Nat) (θ : Env) (h : AHeap) (w : World) (a : AAct) (act : Act), ops.toList.drop k = l → Rep P θ h w → ActRel θ a act → RndOk θ rnd →
    opsX P ih ops l a h = some (a', h') → (∀ θ' w' act', Rep P θ' h' w' → Goes θ h w θ' h' w' → ActRel θ' a' act' → Q .normal act' w') → wpOpsIn (FE θ rnd) m P ops Q (List.range' k l.length) act w := by
  intro l
  induction l with
  | nil =>
    intro k θ h w a act _ r ha _ e hQ
    simp only [opsX, Option.some.injEq, Prod.mk.injEq] at e
    obtain ⟨rfl, rfl⟩ := e
    exact hQ θ w act r (.refl _ _ _) ha
  | cons o l ihl =>
    intro k θ h w a act hdrop r ha hrnd e hQ
    have hget : ops[k]? = some o := by
      have : ops.toList[k]? = some o := by
        have := List.getElem?_drop (xs := ops.toList) (i := k) (j := 0)
        rw [hdrop] at this
        simpa using this.symm
      simpa using this
    have hdrop' : ops.toList.drop (k + 1) = l := by
      rw [← List.tail_drop, hdrop]; rfl
    rw [List.length_cons, List.range'_succ]
    simp only [wpOpsIn, hget]
    rw [wanted_eq ha]
    have e1 : ∃ q, valX P ih ops o a h = some q ∧ opsX P ih ops l (a.put o.dst q.1) q.2 = some (a', h') := by
      have : (Option.rec none (fun r => opsX P ih ops l (a.put o.dst r.1) r.2) (valX P ih ops o a h) : Option (AAct × AHeap)) = some (a', h') := e
      cases hq : valX P ih ops o a h with
      | none => rw [hq] at this; cases this
      | some q => rw [hq] at this; exact ⟨q, rfl, this⟩
    obtain ⟨⟨u, h₁⟩, hq, hrest⟩ := e1
    unfold valX at hq
    cases hw : wantedA ops a o with
    | false =>
      rw [hw] at hq
      have hq : some (undef, h) = some (u, h₁) := hq
      simp only [Option.some.injEq, Prod.mk.injEq] at hq
      obtain ⟨rfl, rfl⟩ := hq
      simp only [Bool.false_eq_true, if_false]
      exact ⟨fun f _ => FE_fn θ rnd f, ihl (k + 1) θ _ w _ _ hdrop' r (ha.put _ .undef) hrnd hrest hQ⟩
    | true =>
      rw [hw] at hq
      simp only [if_true]
      refine opRunX_ok hN hih r ha hq m _ _ ?_
      intro θ' w' v' r' g' hv'
      have := ihl (k + 1) θ' h₁ w' _ _ hdrop' r' ((ha.mono g'.le).put _ hv') (hrnd.mono g'.le) hrest (fun θ2 w2 act2 r2 g2 ha2 => hQ θ2 w2 act2 r2 (g'.trans g2) ha2)
      rwa [FE_le g'.le hrnd] at this
noncomputable def regNX (P : Program) (ih : Run) (ops : Array Oper) (a : AAct) (h : AHeap) : Option (AOut × AHeap) :=
  Option.rec none (fun r => some (.exit .normal r.1, r.2)) (opsX P ih ops ops.toList a h)
end
end Go.AM
end

section
namespace Go.AM
open Go Go.RowKit
section
variable {P : Program}

/-- What is known of some calls. -/
abbrev Sum := FuncId → List Value → AHeap → Option (Value × AHeap)
def SumOk (P : Program) (S : Sum) : Prop := ∀ f args h v h', S f args h = some (v, h') → CallOk P f args h v h'
noncomputable def noSum : Sum := fun _ _ _ => none
theorem noSum_ok : SumOk P noSum := fun _ _ _ _ _ e => by cases e

noncomputable def regE (P : Program) (ih : Run) (ops : Array Oper) (m : List Nat) (a : AAct) (h : AHeap) : Option (AOut × AHeap) :=
  Bool.rec none (match traceR P ih ops ops.toList a h with
    | some (tr, az, hz) => Bool.rec none (Bool.rec none (some (.exit .normal az, hz)) (Bool.rec true ((turns ops).all fun j => newWr h (heapAt tr hz j)) (hasPend ops m))) ((needs ops m).all (againB P ih ops tr hz))
    | none => none) (stat2B ops m)

noncomputable def stepS (P : Program) (S : Sum) (ih : Run) : Run
  | .code rnd fn (.region id ops true) a, h => Bool.rec (regE P ih ops (masks ops) a h) (stepD P ih (.code rnd fn (.region id ops true) a) h) (statB ops (masks ops))
  | .code rnd fn (.region id ops false) a, h => Option.rec (regNX P ih ops a h) (fun r => some r) (step P ih (.code rnd fn (.region id ops false) a) h)
  | .code rnd fn (.scope c) a, h => ih (.code rnd fn c a) h
  | .call f args, h => match S f args h with
    | some (v, h') => some (.ret v, h')
    | none => step P ih (.call f args) h
  | t, h => step P ih t h

theorem stepS_ok (hN : NamesOk P) (hm : P.follows .mixedOrders = true) {S : Sum} (hS : SumOk P S) {n : Nat} {ih : Run} (hih : RunOk P n ih) : RunOk P (n+1) (stepS P S ih) := by
  intro t h o h' e
  unfold stepS at e
  split at e
  · rename_i rnd fn id ops a
    cases hst : statB ops (masks ops) with
    | true =>
      rw [hst] at e
      exact stepD_ok hN hm hih _ _ _ _ e
    | false =>
      rw [hst] at e
      have e : regE P ih ops (masks ops) a h = some (o, h') := e
      unfold regE at e
      cases hs2 : stat2B ops (masks ops) with
      | false => rw [hs2] at e; cases e
      | true =>
        rw [hs2] at e
        simp only at e
        cases hr : traceR P ih ops ops.toList a h with
        | none => rw [hr] at e; cases e
        | some q =>
          obtain ⟨tr, az, hz⟩ := q
          rw [hr] at e
          simp only at e
          cases hn : (needs ops (masks ops)).all (againB P ih ops tr hz) with
          | false => rw [hn] at e; cases e
          | true =>
            rw [hn] at e
            simp only at e
            have hw : hasPend ops (masks ops) = true → (turns ops).all (fun j => newWr h (heapAt tr hz j)) = true := fun hp => by
              rw [hp] at e
              simp only at e
              cases hx : (turns ops).all (fun j => newWr h (heapAt tr hz j)) with
              | true => rfl
              | false => rw [hx] at e; cases e
            have he : o = .exit .normal az ∧ h' = hz := by
              cases hp : hasPend ops (masks ops) with
              | false =>
                rw [hp] at e
                simp only [Option.some.injEq, Prod.mk.injEq] at e
                exact ⟨e.1.symm, e.2.symm⟩
              | true =>
                rw [hp, hw hp] at e
                simp only [Option.some.injEq, Prod.mk.injEq] at e
                exact ⟨e.1.symm, e.2.symm⟩
            obtain ⟨rfl, rfl⟩ := he
            obtain ⟨A, H, v, D, h0, rfl, rfl⟩ := (stat2_of hs2).draw hr hn hw
            exact draw2_ok hN hm hih D h0
  · rename_i rnd fn id ops a
    cases hs : step P ih (.code rnd fn (.region id ops false) a) h with
    | some q =>
      rw [hs] at e
      obtain rfl : q = (o, h') := Option.some.inj e
      exact step_ok hN hih _ _ _ _ hs
    | none =>
      rw [hs] at e
      have e : regNX P ih ops a h = some (o, h') := e
      unfold regNX at e
      cases hr : opsX P ih ops ops.toList a h with
      | none => rw [hr] at e; cases e
      | some q =>
        obtain ⟨a', h1⟩ := q
        rw [hr] at e
        simp only [Option.some.injEq, Prod.mk.injEq] at e
        obtain ⟨rfl, rfl⟩ := e
        refine CodeOk.of_wp (fun _ => by simp) fun θ w act m Q r ha hrn hQ => wpIn_region ?_
        have := opsX_ok hN hih (rnd := rnd) (m := m) (Q := Q) ops.toList 0 θ h w a act (by simp) r ha hrn hr (fun θ' w' act' r' g' ha' => hQ θ' w' act' .normal trivial r' g' ha')
        rw [List.range_eq_range']
        simpa using this
  · rename_i rnd fn c a
    cases o with
    | ret v => exact (code_ret hih e).elim
    | exit z a' => exact scope_ok (fn := fn) hih e
  · rename_i f args
    cases hs : S f args h with
    | some q =>
      obtain ⟨v, h1⟩ := q
      rw [hs] at e
      simp only [Option.some.injEq, Prod.mk.injEq] at e
      obtain ⟨rfl, rfl⟩ := e
      exact hS _ _ _ _ _ hs
    | none =>
      rw [hs] at e
      exact step_ok hN hih _ _ _ _ e
  · exact step_ok hN hih _ _ _ _ e

noncomputable def runS (P : Program) (S : Sum) (n : Nat) : Run :=
  Nat.rec (motive := fun _ => Run) (fun _ _ => none) (fun _ ih => stepS P S ih) n
theorem runS_ok (hN : NamesOk P) (hm : P.follows .mixedOrders = true) {S : Sum} (hS : SumOk P S) : ∀ n, RunOk P n (runS P S n)
  | 0 => fun t h o h' e => by cases e
  | n + 1 => stepS_ok hN hm hS (runS_ok hN hm hS n)
noncomputable def callS (P : Program) (S : Sum) (n : Nat) (f : FuncId) (args : List Value) (h : AHeap) : Option (Value × AHeap) :=
  match runS P S n (.call f args) h with
  | some (.ret v, h') => some (v, h')
  | _ => none
theorem callS_call (hN : NamesOk P) (hm : P.follows .mixedOrders = true) {S : Sum} (hS : SumOk P S) {n : Nat} {f : FuncId} {args : List Value} {h h' : AHeap} {v : Value} (e : callS P S n f args h = some (v, h')) : CallOk P f args h v h' := by
  unfold callS at e
  split at e
  · rename_i u h₁ hr
    simp only [Option.some.injEq, Prod.mk.injEq] at e
    obtain ⟨rfl, rfl⟩ := e
    exact runS_ok hN hm hS n _ _ _ _ hr
  · cases e
theorem CallOk.calls {f : FuncId} {args args' : List Value} {h h' : AHeap} {v : Value} (hc : CallOk P f args h v h') {θ : Env} {w : World} (r : Rep P θ h w) (ha : LRel θ args args') :
    Calls P f args'.toArray w fun e w' => ∃ v' θ', e = .returned v' ∧ VRel θ' v v' ∧ Rep P θ' h' w' ∧ Goes θ h w θ' h' w' :=
  (callsIn_wide (n := 0)).1 (hc.2 θ w args' 0 r ha)
/-- **A closed call**, with what is known of some. -/
theorem closed_callS (hN : NamesOk P) (hm : P.follows .mixedOrders = true) {S : Sum} (hS : SumOk P S) {n : Nat} {f : FuncId} {args : List Value} {h' : AHeap} {v : Value} {w : World} (e : callS P S n f args h0 = some (v, h')) (ha : args.all flat = true) :
    Calls P f args.toArray w fun e w' => ∃ v' θ', e = .returned v' ∧ VRel θ' v v' ∧ Rep P θ' h' w' ∧ Below w.heap.size w w' :=
  ((callS_call hN hm hS e).calls (rep0 w) (flats_rel ha)).mono fun _ _ ⟨v', θ', a, b, c, d⟩ => ⟨v', θ', a, b, c, d.below fun i o e => by rw [get_h0] at e; cases e⟩
end
end Go.AM
end

section
namespace Go.AM
open Go Go.RowKit
section
variable {P : Program}

/-- The heap with one row that is only read. -/
noncomputable def hRow (l : List Value) (elem : TypeId) : AHeap := ⟨Tr.nil.set 0 (.cells ⟨l.length, [], Tr.nil.setAll 0 l, elem, false, true, false⟩), 1, 0⟩
noncomputable def sRow (n : Nat) : Value := .slice (some ⟨0, 0, none⟩) n OPEN
theorem hRow_get {l : List Value} {elem : TypeId} {i : Nat} {o : AObj} (e : (hRow l elem).get i = some o) : i = 0 ∧ o = .cells ⟨l.length, [], Tr.nil.setAll 0 l, elem, false, true, false⟩ := by
  unfold hRow AHeap.get at e
  simp only [Tr.get_set, Tr.get_nil] at e
  split at e
  · rename_i h
    exact ⟨h, by simpa using e.symm⟩
  · cases e
theorem hRow_at {l : List Value} {elem : TypeId} {bs : Bool} {k : Nat} {u : Value} (e : (⟨l.length, [], Tr.nil.setAll 0 l, elem, false, true, bs⟩ : ACells).at k = some u) : l[k]? = some u := by
  unfold ACells.at at e
  cases hk : Nat.blt k l.length with
  | false => rw [hk] at e; cases e
  | true =>
    rw [hk] at e
    have hk : k < l.length := Nat.le_of_ble_eq_true hk
    simp only [Tr.get_setAll, Nat.zero_le, true_and, Nat.zero_add, hk, if_true, Nat.sub_zero, List.getElem?_eq_getElem hk, cond_true] at e ⊢
    exact e

/-- A call that was reckoned with a row on the heap that is only read. -/
theorem row_call (hN : NamesOk P) (hm : P.follows .mixedOrders = true) {S : Sum} (hS : SumOk P S) {k : Nat} {f : FuncId} {l : List Value} {elem : TypeId} {n : Nat} {r : Value} {h' : AHeap}
    (e : callS P S k f [sRow n] (hRow l elem) = some (r, h')) (hr : flat r = true) (hl : l.all flat = true) {w : World} {b o c : Nat} (hn : n ≤ c) (hb : b < w.heap.size)
    (hc : ∀ (i : Nat) (v : Value), l[i]? = some v → w.cell? ⟨b, i + o, none⟩ = some v) :
    Calls P f #[.slice (some ⟨b, o, none⟩) n c] w fun e w' => e = .returned r ∧ Below w.heap.size w w' := by
  let θ : Env := ⟨fun _ => ⟨b, o, o, 0⟩, 1⟩
  have rep : Rep P θ (hRow l elem) w := by
    refine ⟨rfl, fun i ob eo => ?_, fun i j oi oj ei ej hij => ?_, fun i _ => hb, fun g hg => absurd hg (Nat.not_lt_zero g)⟩
    · obtain ⟨rfl, rfl⟩ := hRow_get eo
      refine ⟨Nat.one_pos, hb, fun k v hk => ?_, (fun x => by cases x), (fun x => by cases x), fun x => by cases x⟩
      have hk := hRow_at hk
      exact ⟨v, hc k v hk, flat_rel (List.all_eq_true.1 hl v (List.mem_of_getElem? hk))⟩
    · obtain ⟨rfl, _⟩ := hRow_get ei
      obtain ⟨rfl, _⟩ := hRow_get ej
      exact (hij rfl).elim
  have ha : VRel θ (sRow n) (.slice (some ⟨b, o, none⟩) n c) := by
    have h1 := VRel.sliceO (θ := θ) (b := 0) (o := 0) (n := n) (c := c) Nat.one_pos hn (by show 0 + o + c * 0 = o; omega)
    have h2 : (0 + (θ.f 0).sh) = o := Nat.zero_add o
    rw [h2] at h1
    exact h1
  refine ((callS_call hN hm hS e).calls rep (.cons ha .nil)).mono ?_
  rintro e' w' ⟨v', θ', rfl, hv, _, g⟩
  rw [flat_eq hr hv]
  refine ⟨rfl, g.below fun i ob eo => ?_⟩
  obtain ⟨_, rfl⟩ := hRow_get eo
  rfl

/-- Does the argument name this row? -/
noncomputable def rowIs (l : List Value) (n : Nat) (args : List Value) (h : AHeap) : Bool :=
  match args with
  | [.slice (some ⟨i, o, none⟩) m c] => (Nat.beq m n && Nat.ble m c) && (match h.get i with
    | some (.cells cs) => (match cs.row o l.length with
      | some l' => eqL (eqV 3) l' l
      | none => false)
    | _ => false)
  | _ => false
/-- A call that is known, with a row that is only read. -/
noncomputable def memo (F : FuncId) (l : List Value) (n : Nat) (r : Value) (S : Sum) : Sum := fun f args h =>
  bif Nat.beq f F then (bif rowIs l n args h then some (r, h) else S f args h) else S f args h

theorem row_at {c : ACells} : ∀ {n k : Nat} {l : List Value}, c.row k n = some l → ∀ (i : Nat) (v : Value), l[i]? = some v → c.at (i + k) = some v
  | 0, k, l, e, i, v, h => by
    simp only [ACells.row, Option.some.injEq] at e
    subst e
    simp at h
  | n + 1, k, l, e, i, v, h => by
    simp only [ACells.row] at e
    split at e
    · cases e
    · rename_i u hu
      obtain ⟨l', hl', rfl⟩ := Option.map_eq_some_iff.1 e
      cases i with
      | zero =>
        simp only [List.getElem?_cons_zero, Option.some.injEq] at h
        subst h
        simpa using hu
      | succ i =>
        have := row_at hl' i v (by simpa using h)
        rw [show i + 1 + k = i + (k + 1) by omega]
        exact this

theorem Rep.below {θ : Env} {h : AHeap} {w w' : World} (r : Rep P θ h w) (b : Below w.heap.size w w') : Rep P θ h w' ∧ Goes θ h w θ h w' :=
  ⟨⟨r.nx, fun i o e => let ⟨x, y, z⟩ := r.obj i o e; ⟨x, Nat.lt_of_lt_of_le y b.size, z.congr (b.block _ y)⟩, r.inj, fun i hi => Nat.lt_of_lt_of_le (r.low i hi) b.size, r.glob⟩,
   ⟨.refl θ, b.os, b.tape, b.output, b.size, fun k hk _ => b.block k hk, fun _ _ o => o⟩⟩

theorem memo_ok {F : FuncId} {l : List Value} {n : Nat} {r : Value} {S : Sum} (hS : SumOk P S) (hF : ∃ fn c, P.funcs[F]? = some fn ∧ fn.body = some c) (h0 : 0 < n) (hl : l.all flat = true) (hr : flat r = true)
    (hc : ∀ (w : World) (b o c : Nat), n ≤ c → b < w.heap.size → (∀ (i : Nat) (v : Value), l[i]? = some v → w.cell? ⟨b, i + o, none⟩ = some v) →
      Calls P F #[.slice (some ⟨b, o, none⟩) n c] w fun e w' => e = .returned r ∧ Below w.heap.size w w') : SumOk P (memo F l n r S) := by
  intro f args h v h' e
  unfold memo at e
  cases hf : Nat.beq f F with
  | false => rw [hf] at e; exact hS _ _ _ _ _ e
  | true =>
    obtain rfl := Nat.eq_of_beq_eq_true hf
    rw [hf] at e
    simp only [cond_true] at e
    cases hi : rowIs l n args h with
    | false => rw [hi] at e; exact hS _ _ _ _ _ e
    | true =>
      rw [hi] at e
      simp only [cond_true, Option.some.injEq, Prod.mk.injEq] at e
      obtain ⟨rfl, rfl⟩ := e
      refine ⟨hF, fun θ w args' m R ha => ?_⟩
      unfold rowIs at hi
      split at hi
      · rename_i i o q cp
        simp only [Bool.and_eq_true] at hi
        obtain ⟨⟨hq, hqc⟩, hi⟩ := hi
        obtain rfl := Nat.eq_of_beq_eq_true hq
        split at hi
        · rename_i cs hg
          split at hi
          · rename_i l' hrow
            obtain rfl := eqL_eq (fun _ _ => eqV_eq) hi
            obtain ⟨a', l1, rfl, hv, hl1⟩ := ha.cons_inv
            obtain rfl := hl1.nil_inv
            obtain ⟨_, hblk, hob⟩ := R.obj i _ hg
            have cells : ∀ (j : Nat) (v : Value), l'[j]? = some v → w.cell? ⟨(θ.f i).blk, j + (o + (θ.f i).sh), none⟩ = some v := fun j v hj => by
              obtain ⟨v', hv', hrel⟩ := (show CRel P θ (θ.f i) cs w from hob).at_ _ _ (row_at hrow j v hj)
              rw [flat_eq (List.all_eq_true.1 hl v (List.mem_of_getElem? hj)) hrel] at hv'
              rw [show j + (o + (θ.f i).sh) = j + o + (θ.f i).sh by omega]
              exact hv'
            have fin : ∀ cc, q ≤ cc → CallsIn Fence.wide m P f #[.slice (some ⟨(θ.f i).blk, o + (θ.f i).sh, none⟩) q cc] w fun e w' => ∃ v' θ', e = .returned v' ∧ VRel θ' r v' ∧ Rep P θ' h w' ∧ Goes θ h w θ' h w' := fun cc hcc => by
              refine (callsIn_wide (n := m)).2 ((hc w (θ.f i).blk (o + (θ.f i).sh) cc hcc hblk cells).mono ?_)
              rintro e w' ⟨rfl, hbel⟩
              obtain ⟨p, g⟩ := R.below hbel
              exact ⟨r, θ, rfl, flat_rel hr, p, g⟩
            cases hv with
            | slice hb hcap => exact fin _ (Nat.le_of_ble_eq_true hqc)
            | sliceO hb hn hrr => exact fin _ hn
            | sliceE hb hrr => exact absurd h0 (Nat.lt_irrefl 0)
            | sliceZ hb => exact absurd h0 (Nat.lt_irrefl 0)
          · cases hi
        · cases hi
      · cases hi
end
end Go.AM
end
