import Derived.Orders
import Derived.Scope
import Derived.Test.YtfdhppdkgfioaaaGreatDoorAmB
section
namespace Go.AM
open Go
section
variable {P : Program} {ih : Run} {ops : Array Oper} {a0 : AAct} {A : Nat → AAct} {H : Nat → AHeap} {v : Nat → Value} {loud : Nat → Bool} {M : Nat → Nat → Bool}

def L (listed : Array Bool) (i : Nat) : Bool := listed.getD i false
theorem L_default {listed : Array Bool} {i : Nat} (h : i < listed.size) : listed.getD i true = L listed i := by
  simp [L, Array.getD, h]
theorem L_set {listed : Array Bool} {r i : Nat} (hr : r < listed.size) : L (listed.setIfInBounds r true) i = (if i = r then true else L listed i) := by
  unfold L
  by_cases h : i = r
  · subst h; simp [Array.getD, hr]
  · rw [if_neg h, getD_set_ne false (Ne.symm h)]

theorem Same.congr {a : AAct} {S T : Nat → Prop} (h : Same a0 ops v S a) (hc : ∀ i o, ops[i]? = some o → (S i ↔ T i)) : Same a0 ops v T a :=
  ⟨h.n, h.marks, h.gl, fun t ht => h.old t fun i o hi ho => ht i o ((hc i o ho).1 hi) ho, fun t i o hi ho hd => h.new t i o ((hc i o ho).2 hi) ho hd⟩

theorem mem_edges {o : Oper} {e : Nat} : e ∈ edgesOf o ↔ ∃ d ∈ o.after, Region.binds .any d = true ∧ d.on = e := by
  simp only [edgesOf, List.mem_map, List.mem_filter, Array.mem_toList_iff]
  constructor
  · rintro ⟨d, ⟨a, b⟩, c⟩; exact ⟨d, a, b, c⟩
  · rintro ⟨d, a, b, c⟩; exact ⟨d, ⟨a, b⟩, c⟩

theorem all_listed {listed : Array Bool} (hs : listed.size = ops.size) (hlow : ∀ i o, ops[i]? = some o → ∀ e ∈ edgesOf o, e < i) (hr : Region.ready .any ops listed = []) : ∀ i, i < ops.size → L listed i = true := by
  intro i
  induction i using Nat.strongRecOn with
  | _ i ihi =>
    intro hi
    cases hl : L listed i with
    | true => rfl
    | false =>
      exfalso
      have : i ∈ Region.ready .any ops listed := by
        rw [mem_ready]
        refine ⟨by rw [L_default (by omega)]; exact hl, ops[i], Array.getElem?_eq_getElem hi, fun e he hb => ?_⟩
        have hlt := hlow i ops[i] (Array.getElem?_eq_getElem hi) e.on (mem_edges.2 ⟨e, he, hb, rfl⟩)
        exact ihi e.on hlt (Nat.lt_trans hlt hi)
      rw [hr] at this
      cases this

theorem Draw.low (D : Draw P ih ops a0 A H v loud M) : ∀ i o, ops[i]? = some o → ∀ e ∈ edgesOf o, e < i := by
  intro i o ho e he
  have hi : i < ops.size := (Array.getElem?_eq_some_iff.1 ho).1
  exact D.anc.low i hi e (by simp only [ho, Option.elim]; exact he)

theorem any_done (D : Draw P ih ops a0 A H v loud M) {Q : Exit → Act → World → Prop} {listed : Array Bool} {j : Nat} {θ : Env} {a : AAct} {act : Act} {w : World}
    (hall : ∀ i, i < ops.size → L listed i = true) (hj : j ≤ ops.size) (hl : ∀ l, l < ops.size → loud l = true → (L listed l = true ↔ l < j))
    (r : Rep P θ (H j) w) (hs : Same a0 ops v (fun i => L listed i = true) a) (ha : ActRel θ a act)
    (hQ : ∀ θ' w' act', Rep P θ' (H ops.size) w' → Goes θ (H j) w θ' (H ops.size) w' → ActRel θ' (A ops.size) act' → Q .normal act' w') : Q .normal act w := by
  have hH : H (j + (ops.size - j)) = H j := quiet_range D.quiet _ (by omega) fun l h1 h2 => by
    cases hk : loud l with
    | false => rfl
    | true => exact absurd ((hl l (by omega) hk).1 (hall l (by omega))) (by omega)
  rw [show j + (ops.size - j) = ops.size by omega] at hH
  refine hQ θ w act (by rw [hH]; exact r) (by rw [hH]; exact .refl _ _ _) ?_
  refine Same.rel (hs.congr fun i o ho => ?_) (D.same ops.size (Nat.le_refl _)) ha
  have hi : i < ops.size := (Array.getElem?_eq_some_iff.1 ho).1
  exact ⟨fun _ => hi, fun _ => hall i hi⟩
end
end Go.AM
end

section
namespace Go.AM
open Go
section
variable {P : Program} {ih : Run} {ops : Array Oper} {a0 : AAct} {A : Nat → AAct} {H : Nat → AHeap} {v : Nat → Value} {loud : Nat → Bool} {M : Nat → Nat → Bool}

/-- An operation that is ready has the value that it has in index order, and the heap is one of those of the index order. -/
theorem ready_val (D : Draw P ih ops a0 A H v loud M) {listed : Array Bool} {j r : Nat} {o : Oper} {a : AAct} (ho : ops[r]? = some o) (hnot : L listed r = false) (hedges : ∀ e ∈ edgesOf o, L listed e = true)
    (hdown : ∀ i o, ops[i]? = some o → L listed i = true → ∀ e ∈ edgesOf o, L listed e = true)
    (hj : j ≤ ops.size) (hl : ∀ l, l < ops.size → loud l = true → (L listed l = true ↔ l < j)) (hs : Same a0 ops v (fun i => L listed i = true) a) :
    ∃ j', opVal P ih ops o a (H j) = some (v r, H j') ∧ j' ≤ ops.size ∧ ∀ l, l < ops.size → loud l = true → ((L listed l = true ∨ l = r) ↔ l < j') := by
  have hr : r < ops.size := (Array.getElem?_eq_some_iff.1 ho).1
  have down : ∀ i k, k < ops.size → L listed k = true → M k i = true → L listed i = true := fun i k hk hs hm =>
    D.anc.down (S := fun i => L listed i = true) (fun j hj hs e he => by
      have : ops[j]? = some ops[j] := Array.getElem?_eq_getElem hj
      simp only [this, Option.elim] at he
      exact hdown j ops[j] this hs e he) k hk hs hm
  have before : ∀ i, M r i = true → L listed i = true := fun i hm => by
    obtain ⟨e, he, h1⟩ := D.anc.step r hr i hm
    simp only [ho, Option.elim] at he
    have hlt := D.low r o ho e he
    rcases h1 with rfl | h1
    · exact hedges e he
    · exact down i e (Nat.lt_trans hlt hr) (hedges e he) h1
  have after : ∀ i, i < ops.size → M i r = true → L listed i = false := fun i hi hm => by
    cases h : L listed i with
    | false => rfl
    | true => rw [down r i hi h hm] at hnot; cases hnot
  have hcong : ∀ h, opVal P ih ops o a h = opVal P ih ops o (A r) h := fun h => opVal_congr (hs.gl.trans (D.same r (Nat.le_of_lt hr)).gl.symm) fun t ht =>
    hs.agree (D.same r (Nat.le_of_lt hr)) fun i p hp hd => by
      have hi : i < ops.size := (Array.getElem?_eq_some_iff.1 hp).1
      rcases D.reads r o i p t ho hp hd ht with rfl | h | h
      · constructor
        · intro h; rw [hnot] at h; cases h
        · intro h; exact absurd h (Nat.lt_irrefl _)
      · exact ⟨fun _ => D.anc.lt r hr h, fun _ => before i h⟩
      · constructor
        · intro h'; rw [after i hi h] at h'; cases h'
        · intro h'; exact absurd (D.anc.lt i hi h) (by omega)
  cases hk : loud r with
  | false =>
    refine ⟨j, ?_, hj, fun l hlt hll => ?_⟩
    · rw [hcong]
      refine D.stay r o ho hk j hj (fun l hlt hll hm => (hl l hlt hll).1 (before l hm)) (fun l hlt hll hm => ?_)
      have := after l hlt hm
      have h2 := hl l hlt hll
      rw [this] at h2
      exact Nat.le_of_not_lt fun h => by cases h2.2 h
    · constructor
      · rintro (h | rfl)
        · exact (hl l hlt hll).1 h
        · rw [hk] at hll; cases hll
      · exact fun h => .inl ((hl l hlt hll).2 h)
  | true =>
    have hjr : j ≤ r := Nat.le_of_not_lt fun h => by rw [(hl r hr hk).2 h] at hnot; cases hnot
    have low : ∀ l, l < r → loud l = true → l < j := fun l hlr hll => (hl l (Nat.lt_trans hlr hr) hll).1 (before l (D.line l r hlr hr hll hk))
    have hH : H (j + (r - j)) = H j := quiet_range D.quiet _ (by omega) fun l h1 h2 => by
      cases hk2 : loud l with
      | false => rfl
      | true => exact absurd (low l (by omega) hk2) (by omega)
    rw [show j + (r - j) = r by omega] at hH
    refine ⟨r + 1, ?_, hr, fun l hlt hll => ?_⟩
    · rw [hcong, ← hH]; exact D.canon r o ho
    · constructor
      · rintro (h | rfl)
        · have := (hl l hlt hll).1 h; omega
        · omega
      · intro h
        by_cases hlr : l = r
        · exact .inr hlr
        · exact .inl ((hl l hlt hll).2 (low l (by omega) hll))

theorem any_ok (hN : NamesOk P) {n : Nat} (hih : RunOk P n ih) (D : Draw P ih ops a0 A H v loud M) {rnd : Option Nat} {m : Nat} {Q : Exit → Act → World → Prop} : ∀ (fuel : Nat) (listed : Array Bool) (j : Nat) (θ : Env) (a : AAct) (act : Act) (w : World),
    unl (L listed) ops.size ≤ fuel → listed.size = ops.size →
    (∀ i o, ops[i]? = some o → L listed i = true → ∀ e ∈ edgesOf o, L listed e = true) →
    j ≤ ops.size → (∀ l, l < ops.size → loud l = true → (L listed l = true ↔ l < j)) →
    Rep P θ (H j) w → Same a0 ops v (fun i => L listed i = true) a → ActRel θ a act → RndOk θ rnd →
    (∀ θ' w' act', Rep P θ' (H ops.size) w' → Goes θ (H j) w θ' (H ops.size) w' → ActRel θ' (A ops.size) act' → Q .normal act' w') →
    wpAnyIn (FE θ rnd) m P .any ops Q fuel listed act w := by
  intro fuel
  induction fuel with
  | zero =>
    intro listed j θ a act w hu hsz hdown hj hl r hs ha hrnd hQ
    have hall := unl_zero (S := L listed) ops.size (Nat.le_zero.1 hu)
    refine ⟨?_, any_done D hall hj hl r hs ha hQ⟩
    cases hR : Region.ready .any ops listed with
    | nil => rfl
    | cons i t =>
      exfalso
      have hi : i ∈ Region.ready .any ops listed := by rw [hR]; exact List.mem_cons_self
      obtain ⟨h0, o, ho, _⟩ := mem_ready.1 hi
      have hlt : i < ops.size := (Array.getElem?_eq_some_iff.1 ho).1
      rw [L_default (by omega), hall i hlt] at h0
      cases h0
  | succ fuel ihf =>
    intro listed j θ a act w hu hsz hdown hj hl r hs ha hrnd hQ
    refine ⟨fun h0 => any_done D (all_listed hsz D.low h0) hj hl r hs ha hQ, fun i hi => ?_⟩
    obtain ⟨h0, o, ho, hready⟩ := mem_ready.1 hi
    have hlt : i < ops.size := (Array.getElem?_eq_some_iff.1 ho).1
    have hls : i < listed.size := by omega
    rw [L_default hls] at h0
    have hedges : ∀ e ∈ edgesOf o, L listed e = true := fun e he => by
      obtain ⟨d, hd, hb, rfl⟩ := mem_edges.1 he
      exact hready d hd hb
    obtain ⟨j', hval, hj', hl'⟩ := ready_val D ho h0 hedges hdown hj hl hs
    refine opVal_ok hN hih ho r ha hval m _ _ fun θ' w' act' r' g' ha' => ?_
    have hset : ∀ k, L (listed.setIfInBounds i true) k = (if k = i then true else L listed k) := fun k => L_set hls
    have := ihf (listed.setIfInBounds i true) j' θ' (a.put o.dst (v i)) act' w' ?_ (by simpa using hsz) ?_ hj' ?_ r' ?_ ha' (hrnd.mono g'.le)
      (fun θ2 w2 act2 r2 g2 ha2 => hQ θ2 w2 act2 r2 (g'.trans g2) ha2)
    · rwa [FE_le g'.le hrnd] at this
    · have := unl_step (S := L listed) (T := L (listed.setIfInBounds i true)) h0 (by rw [hset, if_pos rfl]) (fun k hk => by rw [hset, if_neg hk]) ops.size hlt
      omega
    · intro k p hp hk e he
      rw [hset] at hk ⊢
      by_cases hei : e = i
      · rw [if_pos hei]
      · rw [if_neg hei]
        by_cases hki : k = i
        · subst hki
          obtain rfl : o = p := by rw [ho] at hp; exact Option.some.inj hp
          exact hedges e he
        · rw [if_neg hki] at hk
          exact hdown k p hp hk e he
    · intro l hlt' hll
      rw [hset, ← hl' l hlt' hll]
      by_cases hli : l = i
      · simp [hli]
      · simp [hli]
    · refine hs.put D.one ho (by rw [h0]; simp) fun k => ?_
      rw [hset]
      by_cases hki : k = i
      · simp [hki]
      · simp [hki]
end
end Go.AM
end

section
namespace Go.AM
open Go
section
variable {P : Program} {ih : Run} {ops : Array Oper} {A : Nat → AAct} {H : Nat → AHeap} {v : Nat → Value} {loud : Nat → Bool} {M : Nat → Nat → Bool}

theorem unl_le (S : Nat → Bool) : ∀ n, unl S n ≤ n
  | 0 => Nat.le_refl _
  | n + 1 => by
    simp only [unl]
    have := unl_le S n
    split <;> omega

theorem L_replicate (n i : Nat) : L (Array.replicate n false) i = false := by
  unfold L
  rw [Array.getD_eq_getD_getElem?, Array.getElem?_replicate]
  split <;> rfl

/-- **A region that draws its order**, from its run in index order. -/
theorem draw_ok (hN : NamesOk P) (hm : P.follows .mixedOrders = true) {n : Nat} (hih : RunOk P n ih) {rnd : Option Nat} {id : Nat} {a : AAct} {h : AHeap} (D : Draw P ih ops a A H v loud M) (h0 : H 0 = h) : CodeOk P (n+1) rnd (.region id ops true) a h .normal (A ops.size) (H ops.size) := by
  refine .of_wp (fun _ => by simp) fun θ w act m Q r ha hr hQ => wpIn_region_any hm ?_
  obtain ⟨r₁, g₁⟩ := r.drawn (w.drawn + 1)
  subst h0
  refine any_ok hN hih D ops.size (Array.replicate ops.size false) 0 θ a act _ (unl_le _ _) (by simp) (fun i o _ hl => ?_) (Nat.zero_le _) (fun l _ _ => ?_) r₁ (Same.start a ops v fun i => ?_) ha hr ?_
  · rw [L_replicate] at hl; cases hl
  · rw [L_replicate]; simp
  · rw [L_replicate]; simp
  · intro θ' w' act' r' g' ha'
    exact hQ θ' w' act' .normal trivial r' (g₁.trans g') ha'
end
end Go.AM
end

section
namespace Go.AM
open Go
section
variable {P : Program} {ih : Run} {ops : Array Oper}

/-- The states of a run in index order. -/
theorem seqs : ∀ {l : List Oper} {a a' : AAct} {h h' : AHeap}, opsRun P ih ops l a h = some (a', h') →
    ∃ (A : Nat → AAct) (H : Nat → AHeap) (v : Nat → Value), A 0 = a ∧ H 0 = h ∧ A l.length = a' ∧ H l.length = h' ∧
      ∀ i o, l[i]? = some o → opVal P ih ops o (A i) (H i) = some (v i, H (i+1)) ∧ A (i+1) = (A i).put o.dst (v i)
  | [], a, a', h, h', e => by
    simp only [opsRun, Option.some.injEq, Prod.mk.injEq] at e
    exact ⟨fun _ => a, fun _ => h, fun _ => undef, rfl, rfl, e.1, e.2, fun i o hi => by simp at hi⟩
  | o :: l, a, a', h, h', e => by
    have e : (Option.rec none (fun r => opsRun P ih ops l r.1 r.2) (opAt P ih ops o a h) : Option (AAct × AHeap)) = some (a', h') := e
    cases hv : opVal P ih ops o a h with
    | none => rw [opAt_val, hv] at e; cases e
    | some q =>
      obtain ⟨u, h₁⟩ := q
      rw [opAt_val, hv] at e
      have e : opsRun P ih ops l (a.put o.dst u) h₁ = some (a', h') := e
      obtain ⟨A, H, v, hA, hH, hA', hH', hst⟩ := seqs e
      refine ⟨fun i => Nat.rec a (fun i _ => A i) i, fun i => Nat.rec h (fun i _ => H i) i, fun i => Nat.rec u (fun i _ => v i) i, rfl, rfl, hA', hH', fun i p hp => ?_⟩
      cases i with
      | zero =>
        obtain rfl : o = p := by simpa using hp
        exact ⟨by show opVal P ih ops o a h = some (u, H 0); rw [hH]; exact hv, hA⟩
      | succ i => exact hst i p (by simpa using hp)

theorem same_seq {a : AAct} {A : Nat → AAct} {v : Nat → Value} (h1 : OneWriter ops) (hA : A 0 = a) (hst : ∀ i o, ops[i]? = some o → A (i+1) = (A i).put o.dst (v i)) : ∀ i, i ≤ ops.size → Same a ops v (· < i) (A i)
  | 0, _ => by rw [hA]; exact .start a ops v fun i h => absurd h (Nat.not_lt_zero i)
  | i + 1, hi => by
    have ho : ops[i]? = some ops[i] := Array.getElem?_eq_getElem hi
    rw [hst i _ ho]
    exact (same_seq h1 hA hst i (Nat.le_of_succ_le hi)).put h1 ho (Nat.lt_irrefl i) fun j => by
      constructor
      · intro h; rcases Nat.lt_or_eq_of_le (Nat.le_of_lt_succ h) with h | h
        · exact .inl h
        · exact .inr h
      · rintro (h | rfl)
        · exact Nat.lt_succ_of_lt h
        · exact Nat.lt_succ_self _
end
end Go.AM
end

section
namespace Go.AM
open Go
section
variable {P : Program} {ih : Run} {ops : Array Oper}

theorem opRun_read {a : AAct} {h h' : AHeap} {o : Oper} {v : Value} (hp : readOp o.op = true) (e : opRun P ih o a h = some (v, h')) : h' = h := by
  cases hpure : pureOp o.op with
  | true => exact (opRun_pure hpure e).1
  | false =>
    unfold opRun at e
    split at e
    · rename_i c hc
      rw [hc] at hp
      obtain ⟨callee, args, tys⟩ := c
      cases callee with
      | builtin b =>
        simp only at e
        split at e
        · cases e
        · cases b <;> simp only [readOp, pureOp, Bool.false_eq_true] at hp
          all_goals
            unfold abuiltin at e
            simp only at e
            repeat' split at e
            all_goals first
              | contradiction
              | (simp only [Option.some.injEq, Prod.mk.injEq] at e; exact e.2.symm)
              | cases e
              | (cases hb : List.all (by assumption) scalar <;> rw [hb] at e <;> simp only [cond_true, cond_false] at e <;> first | (cases e; done) | exact (keepAt_spec e).2)
              | (rename_i c0 _ _; cases hb : Nat.beq c0 OPEN <;> rw [hb] at e <;> simp at e; exact e.2.symm)
              | skip
      | _ => simp [readOp, pureOp] at hp
    · rename_i hc
      cases ho : o.op <;> rw [ho] at hp hpure e <;> simp only [readOp, pureOp, Bool.false_eq_true] at hp hpure <;> simp only [aop] at e
      all_goals first
        | exact absurd hpure (by decide)
        | exact absurd ‹_› (hc _)
        | (unfold on1 at e; split at e
           · exact (keepAt_spec e).2
           · cases e)
        | (unfold on2 at e; split at e
           · split at e
             · exact (keepAt_spec e).2
             · cases e
           · cases e)
        | (unfold aSliceOp at e; split at e
           · unfold on1 at e; split at e
             · exact (keepAt_spec e).2
             · cases e
           · cases e)
        | skip
end
end Go.AM
end

section
namespace Go.AM
open Go
section
variable {P : Program} {ih : Run} {ops : Array Oper}

theorem opVal_read {a : AAct} {h h' : AHeap} {o : Oper} {v : Value} (hp : readOp o.op = true) (e : opVal P ih ops o a h = some (v, h')) : h' = h := by
  unfold opVal at e
  cases hw : wantedA ops a o with
  | false =>
    rw [hw] at e
    have e : some (undef, h) = some (v, h') := e
    simp only [Option.some.injEq, Prod.mk.injEq] at e
    exact e.2.symm
  | true => rw [hw] at e; exact opRun_read hp e

def opB (ops : Array Oper) (p : Op → Bool) (i : Nat) : Bool := (ops[i]?).elim false fun o => p o.op
def isLoud (ops : Array Oper) (i : Nat) : Bool := !opB ops readOp i

/-- What a region must be, by itself, for the run in index order to speak for every order; no reader lies open to a loud operation. -/
structure Stat (ops : Array Oper) (M : Nat → Nat → Bool) : Prop where
  one : OneWriter ops
  anc : AncOk (fun j => (ops[j]?).elim [] edgesOf) M ops.size
  line : ∀ i j, i < j → j < ops.size → isLoud ops i = true → isLoud ops j = true → M j i = true
  reads : ∀ r o i p (t : Tmp), ops[r]? = some o → ops[i]? = some p → p.dst = some t → Reads ops o t → i = r ∨ M r i = true ∨ M i r = true
  shut : ∀ r o, ops[r]? = some o → isLoud ops r = false → pureOp o.op = true ∨ ∀ l, l < ops.size → isLoud ops l = true → M r l = true ∨ M l r = true

theorem loud_false {r : Nat} {o : Oper} (ho : ops[r]? = some o) (h : isLoud ops r = false) : readOp o.op = true := by
  simpa [isLoud, opB, ho] using h

theorem Stat.draw {M : Nat → Nat → Bool} (S : Stat ops M) {a a' : AAct} {h h' : AHeap} (e : opsRun P ih ops ops.toList a h = some (a', h')) :
    ∃ A H v, Draw P ih ops a A H v (isLoud ops) M ∧ H 0 = h ∧ A ops.size = a' ∧ H ops.size = h' := by
  obtain ⟨A, H, v, hA, hH, hA', hH', hst⟩ := seqs e
  have hst' : ∀ i o, ops[i]? = some o → opVal P ih ops o (A i) (H i) = some (v i, H (i+1)) ∧ A (i+1) = (A i).put o.dst (v i) := fun i o ho => hst i o (by simpa using ho)
  have quiet : ∀ i, i < ops.size → isLoud ops i = false → H (i+1) = H i := fun i hi hl =>
    opVal_read (loud_false (Array.getElem?_eq_getElem hi) hl) (hst' i _ (Array.getElem?_eq_getElem hi)).1
  refine ⟨A, H, v, ⟨S.one, S.anc, fun i o ho => (hst' i o ho).1, same_seq S.one hA fun i o ho => (hst' i o ho).2, quiet, S.line, S.reads, fun r o ho hl j hj h1 h2 => ?_⟩, hH, by simpa using hA', by simpa using hH'⟩
  have hr : r < ops.size := (Array.getElem?_eq_some_iff.1 ho).1
  have hc := (hst' r o ho).1
  rcases S.shut r o ho hl with hp | hs
  · exact (opVal_pure hp hc).2 _
  · have hq := quiet r hr hl
    rw [hq] at hc
    have hjr : H j = H r := by
      rcases Nat.le_total j r with hle | hle
      · have := quiet_range quiet (j := j) (r - j) (by omega) fun l hl1 hl2 => by
          cases hk : isLoud ops l with
          | false => rfl
          | true =>
            rcases hs l (by omega) hk with hm | hm
            · exact absurd (h1 l (by omega) hk hm) (by omega)
            · exact absurd (S.anc.lt l (by omega) hm) (by omega)
        rw [show j + (r - j) = r by omega] at this
        exact this.symm
      · have := quiet_range quiet (j := r) (j - r) (by omega) fun l hl1 hl2 => by
          cases hk : isLoud ops l with
          | false => rfl
          | true =>
            rcases hs l (by omega) hk with hm | hm
            · exact absurd (S.anc.lt r hr hm) (by omega)
            · exact absurd (h2 l (by omega) hk hm) (by omega)
        rw [show r + (j - r) = j by omega] at this
        exact this
    rw [hjr]
    exact hc
end
end Go.AM
end

section
namespace Go.AM
open Go
section
variable {ops : Array Oper}

/-- For each number below n. -/
noncomputable def allLt (p : Nat → Bool) (n : Nat) : Bool := Nat.rec true (fun i r => Bool.rec false r (p i)) n
theorem allLt_spec {p : Nat → Bool} : ∀ {n : Nat}, allLt p n = true → ∀ i, i < n → p i = true
  | 0, _, i, hi => absurd hi (Nat.not_lt_zero i)
  | n + 1, h, i, hi => by
    have h : (Bool.rec false (allLt p n) (p n) : Bool) = true := h
    cases hp : p n with
    | false => rw [hp] at h; cases h
    | true =>
      rw [hp] at h
      rcases Nat.lt_or_eq_of_le (Nat.le_of_lt_succ hi) with hlt | rfl
      · exact allLt_spec (n := n) h i hlt
      · exact hp

def edgesAt (ops : Array Oper) (j : Nat) : List Nat := (ops[j]?).elim [] edgesOf
def writes (ops : Array Oper) (i : Nat) (t : Tmp) : Bool := (ops[i]?).elim false fun o => match o.dst with | some d => Nat.beq d t | none => false
def dstOf (ops : Array Oper) (i : Nat) : Option Tmp := (ops[i]?).bind (·.dst)
def tmpsOf (ops : Array Oper) (o : Oper) : List Tmp :=
  o.op.operands.toList.filterMap (fun | .tmp t => some t | _ => none) ++ (match o.guard with | some (j, _) => (dstOf ops j).toList | none => [])

noncomputable def statB (ops : Array Oper) (m : List Nat) : Bool :=
  let M := fun j i => (m.getD j 0).testBit i
  allLt (fun j => (edgesAt ops j).all (fun e => Nat.blt e j) && allLt (fun i => !M j i || (edgesAt ops j).any fun e => Nat.beq e i || M e i) ops.size && Nat.ble (m.getD j 0) (2 ^ ops.size - 1)
    && (match dstOf ops j with | none => true | some t => allLt (fun i => Nat.beq i j || !writes ops i t) ops.size)
    && allLt (fun i => !(isLoud ops i && isLoud ops j) || M j i) j
    && ((ops[j]?).elim [] (tmpsOf ops)).all (fun t => allLt (fun i => !writes ops i t || Nat.beq i j || M j i || M i j) ops.size)
    && (isLoud ops j || opB ops pureOp j || allLt (fun l => !isLoud ops l || M j l || M l j) ops.size)) ops.size

theorem reads_mem {o : Oper} {t : Tmp} (h : Reads ops o t) : t ∈ tmpsOf ops o := by
  unfold tmpsOf
  rw [List.mem_append]
  rcases h with h | ⟨j, want, hg, hd⟩
  · exact .inl (List.mem_filterMap.2 ⟨.tmp t, by simpa using h, rfl⟩)
  · refine .inr ?_
    rw [hg]
    simp [dstOf, hd]

theorem writes_of {i : Nat} {p : Oper} {t : Tmp} (hp : ops[i]? = some p) (hd : p.dst = some t) : writes ops i t = true := by
  simp [writes, hp, hd]

theorem stat_of {m : List Nat} (h : statB ops m = true) : Stat ops (fun j i => (m.getD j 0).testBit i) := by
  have key := fun j (hj : j < ops.size) => allLt_spec h j hj
  simp only [Bool.and_eq_true] at key
  refine ⟨fun i j o p t ho hp hd hd' => ?_, ⟨fun j hj e he => ?_, fun j hj i hm => ?_⟩, fun i j hij hj h1 h2 => ?_, fun r o i p t ho hp hd ht => ?_, fun r o ho hl => ?_⟩
  · have hj : j < ops.size := (Array.getElem?_eq_some_iff.1 hp).1
    have hi : i < ops.size := (Array.getElem?_eq_some_iff.1 ho).1
    have := (key j hj).1.1.1.2
    have hdj : dstOf ops j = some t := by simp [dstOf, hp, hd']
    rw [hdj] at this
    have := allLt_spec this i hi
    rw [writes_of ho hd] at this
    simpa using this
  · have := List.all_eq_true.1 (key j hj).1.1.1.1.1.1 e he
    exact blt_true this
  · have hi : i < ops.size := by
      have hb : m.getD j 0 ≤ 2 ^ ops.size - 1 := Nat.le_of_ble_eq_true (key j hj).1.1.1.1.2
      refine Nat.lt_of_not_le fun hle => ?_
      have : m.getD j 0 < 2 ^ i := Nat.lt_of_lt_of_le (by have := Nat.two_pow_pos ops.size; omega) (Nat.pow_le_pow_right (by decide) hle)
      have hf : (m.getD j 0).testBit i = false := Nat.testBit_lt_two_pow this
      have hm : (m.getD j 0).testBit i = true := hm
      rw [hf] at hm
      cases hm
    have := allLt_spec (key j hj).1.1.1.1.1.2 i hi
    have hm : (m.getD j 0).testBit i = true := hm
    rw [hm] at this
    simp only [Bool.not_true, Bool.false_or, List.any_eq_true, Bool.or_eq_true] at this
    obtain ⟨e, he, h1⟩ := this
    exact ⟨e, he, h1.imp Nat.eq_of_beq_eq_true id⟩
  · have := allLt_spec (key j hj).1.1.2 i hij
    rw [h1, h2] at this
    simpa using this
  · have hr : r < ops.size := (Array.getElem?_eq_some_iff.1 ho).1
    have hi : i < ops.size := (Array.getElem?_eq_some_iff.1 hp).1
    have := (key r hr).1.2
    rw [ho] at this
    have := List.all_eq_true.1 this t (reads_mem ht)
    have := allLt_spec this i hi
    rw [writes_of hp hd] at this
    simp only [Bool.not_true, Bool.false_or, Bool.or_eq_true] at this
    rcases this with (h1 | h1) | h1
    · exact .inl (Nat.eq_of_beq_eq_true h1)
    · exact .inr (.inl h1)
    · exact .inr (.inr h1)
  · have hr : r < ops.size := (Array.getElem?_eq_some_iff.1 ho).1
    have := (key r hr).2
    rw [hl] at this
    simp only [Bool.false_or, Bool.or_eq_true] at this
    rcases this with h1 | h1
    · exact .inl (by simpa [opB, ho] using h1)
    · refine .inr fun l hlt hll => ?_
      have := allLt_spec h1 l hlt
      rw [hll] at this
      simpa using this
end
end Go.AM
end

section
namespace Go.AM
open Go Go.RowKit
section
variable {P : Program}

/-- Which operations come before each one, as masks; unproved: 'statB' checks them. -/
def masks (ops : Array Oper) : List Nat :=
  ops.toList.foldl (fun acc o => acc ++ [(edgesOf o).foldl (fun s e => s ||| 2 ^ e ||| acc.getD e 0) 0]) []

noncomputable def stepD (P : Program) (ih : Run) : Run
  | .code _ _ (.region _ ops true) a, h => Bool.rec none
    (match opsRun P ih ops ops.toList a h with
      | some (a', h') => some (.exit .normal a', h')
      | none => none) (statB ops (masks ops))
  | t, h => step P ih t h

theorem stepD_ok (hN : NamesOk P) (hm : P.follows .mixedOrders = true) {n : Nat} {ih : Run} (hih : RunOk P n ih) : RunOk P (n+1) (stepD P ih) := by
  intro t h o h' e
  unfold stepD at e
  split at e
  · rename_i rnd fn id ops a
    cases hst : statB ops (masks ops) with
    | false => rw [hst] at e; cases e
    | true =>
      rw [hst] at e
      simp only at e
      cases hr : opsRun P ih ops ops.toList a h with
      | none => rw [hr] at e; cases e
      | some q =>
        obtain ⟨a₁, h₁⟩ := q
        rw [hr] at e
        simp only [Option.some.injEq, Prod.mk.injEq] at e
        obtain ⟨rfl, rfl⟩ := e
        obtain ⟨A, H, v, D, h0, rfl, rfl⟩ := (stat_of hst).draw hr
        exact draw_ok hN hm hih D h0
  · exact step_ok hN hih t h o h' e

noncomputable def runD (P : Program) (n : Nat) : Run :=
  Nat.rec (motive := fun _ => Run) (fun _ _ => none) (fun _ ih => stepD P ih) n
theorem runD_ok (hN : NamesOk P) (hm : P.follows .mixedOrders = true) : ∀ n, RunOk P n (runD P n)
  | 0 => fun t h o h' e => by cases e
  | n + 1 => stepD_ok hN hm (runD_ok hN hm n)
noncomputable def callD (P : Program) (n : Nat) (f : FuncId) (args : List Value) (h : AHeap) : Option (Value × AHeap) :=
  match runD P n (.call f args) h with
  | some (.ret v, h') => some (v, h')
  | _ => none

theorem callD_sound (hN : NamesOk P) (hm : P.follows .mixedOrders = true) {n : Nat} {f : FuncId} {args args' : List Value} {h h' : AHeap} {v : Value} {θ : Env} {w : World} (e : callD P n f args h = some (v, h')) (r : Rep P θ h w) (ha : LRel θ args args') :
    Calls P f args'.toArray w fun e w' => ∃ v' θ', e = .returned v' ∧ VRel θ' v v' ∧ Rep P θ' h' w' ∧ Goes θ h w θ' h' w' := by
  unfold callD at e
  split at e
  · rename_i u h₁ hr
    simp only [Option.some.injEq, Prod.mk.injEq] at e
    obtain ⟨rfl, rfl⟩ := e
    have hc : CallOk P f args h u h₁ := runD_ok hN hm n _ _ _ _ hr
    exact (callsIn_wide (n := 0)).1 (hc.2 θ w args' 0 r ha)
  · cases e

/-- **A closed call**, with regions that draw their order. -/
theorem closed_callD (hN : NamesOk P) (hm : P.follows .mixedOrders = true) {n : Nat} {f : FuncId} {args : List Value} {h' : AHeap} {v : Value} {w : World} (e : callD P n f args h0 = some (v, h')) (ha : args.all flat = true) :
    Calls P f args.toArray w fun e w' => ∃ v' θ', e = .returned v' ∧ VRel θ' v v' ∧ Rep P θ' h' w' ∧ Below w.heap.size w w' :=
  (callD_sound hN hm e (rep0 w) (flats_rel ha)).mono fun _ _ ⟨v', θ', a, b, c, d⟩ => ⟨v', θ', a, b, c, d.below fun i o e => by rw [get_h0] at e; cases e⟩
end
end Go.AM
end

section
namespace Go
section
variable {P : Program} {b : Frame} {a : Act} {k : List Item} {cs : List Frame} {w : World} {F : Fence} {n : Nat} {Q : Exit → Act → World → Prop}

theorem stepR_scope {c : Code} : step P (lone (b.atR a (.code (.scope c) :: k)) cs w) = .next (lone (b.atR a (.code c :: .inScope c :: k)) cs w) :=
  step_lone_go (by simp [stepG, stepG.exec, Frame.atR])
theorem stepR_inScope {c : Code} : step P (lone (b.atR a (.inScope c :: k)) cs w) = .next (lone (b.atR a k) cs w) :=
  step_lone_go (by simp [stepG, stepG.exec, Frame.atR])

theorem wpIn_scope_straight {c : Code} (h : c.wpIn F n P (Exit.noGoto Q) a w) : (Code.scope c).wpIn F n P Q a w := by
  intro b k cs hro hb hr
  have h0 : (lone (b.atR a (.code (.scope c) :: k)) cs w).fenced P F := fenced_calm hb hr rfl
  obtain ⟨e, a₁, w₁, hq, harr⟩ := h b (.inScope c :: k) cs hro hb hr
  cases e with
  | normal => exact ⟨.normal, a₁, w₁, hq, .head h0 stepR_scope (StepsIn.trans harr (.one (fenced_calm hb hr rfl) stepR_inScope))⟩
  | exit id =>
    have hx : exitTo id (.inScope c :: k) = exitTo id k := by simp [exitTo]
    exact ⟨.exit id, a₁, w₁, hq, fun k' hk => .head h0 stepR_scope (harr.1 k' (by rw [hx]; exact hk)),
      fun hr' hk => let ⟨k₁, h1, h2⟩ := harr.2 hr' (by rw [hx]; exact hk); ⟨k₁, h1, .head h0 stepR_scope h2⟩⟩
  | goto l => exact hq.elim
  | ret => exact ⟨_, a₁, w₁, hq, .of_steps (.one h0 stepR_scope) harr⟩
  | panic ch => exact ⟨_, a₁, w₁, hq, .of_steps (.one h0 stepR_scope) harr⟩
  | outgrown => exact ⟨_, a₁, w₁, hq, .of_steps (.one h0 stepR_scope) harr⟩
end
end Go
namespace Go.AM
open Go
section
variable {P : Program}
theorem scope_ok {n : Nat} {ih : Run} (hih : RunOk P n ih) {rnd : Option Nat} {fn : FuncId} {x : Code} {a a' : AAct} {z : AExit} {h h' : AHeap}
    (e : ih (.code rnd fn x a) h = some (.exit z a', h')) : CodeOk P (n+1) rnd (.scope x) a h z a' h' := by
  have hx : CodeOk P n rnd x a h z a' h' := hih _ _ _ _ e
  refine .of_wp (fun _ => by simp) fun θ w act m Q r ha hr hQ => wpIn_scope_straight ?_
  refine (hx θ w act m (Exit.noGoto Q) r ha hr fun θ' w' act' e' he r' g' ha' => ?_).1
  have := hQ θ' w' act' e' he r' g' ha'
  cases e' <;> first | exact this | (cases z <;> exact he.elim)
end
end Go.AM
end

section
namespace Go.AM
open Go
section
variable {P : Program} {ops : Array Oper}

/-- Two activations that part in the temporaries of X alone. -/
structure Off (X : Tmp → Prop) (b b₁ : Act) : Prop where
  defers : b.defers = b₁.defers
  size : b.tmps.size = b₁.tmps.size
  at_ : ∀ t : Tmp, ¬ X t → b.tmps[t]? = b₁.tmps[t]?
theorem Off.put {X : Tmp → Prop} {b b₁ : Act} (h : Off X b b₁) (d : Option Tmp) (v : Value) : Off X (b.put d v) (b₁.put d v) := by
  cases d with
  | none => exact h
  | some d =>
    refine ⟨h.defers, by simp [Act.put, h.size], fun t ht => ?_⟩
    simp only [Act.put]
    by_cases hd : d = t
    · subst hd
      simp [Array.getElem?_setIfInBounds, h.size]
    · rw [Array.getElem?_setIfInBounds_ne hd, Array.getElem?_setIfInBounds_ne hd]
      exact h.at_ t ht
theorem Off.eval {X : Tmp → Prop} {b b₁ : Act} (h : Off X b b₁) {x : Operand} (hx : ∀ t, x = .tmp t → ¬ X t) : b.eval x = b₁.eval x := by
  cases x with
  | tmp t =>
    have := h.at_ t (hx t rfl)
    simp only [Act.eval, Array.getD_eq_getD_getElem?, this]
  | _ => rfl
theorem Off.wanted {X : Tmp → Prop} {b b₁ : Act} (h : Off X b b₁) {o : Oper} (hx : ∀ t, Reads ops o t → ¬ X t) : Region.wanted o (yielded ops b.tmps) = Region.wanted o (yielded ops b₁.tmps) := by
  unfold Region.wanted
  cases hg : o.guard with
  | none => rfl
  | some gw =>
    obtain ⟨g, want⟩ := gw
    have hy : yielded ops b.tmps g = yielded ops b₁.tmps g := by
      unfold yielded
      cases ht : (ops[g]?).bind (·.dst) with
      | none => rfl
      | some t => simp only [Option.bind_some, h.at_ t (hx t (.inr ⟨g, want, hg, ht⟩))]
    simp only [hy]

def Nope : Exit → Act → World → Prop := fun _ _ _ => False

/-- An operation that looks at none of X does the same. -/
theorem wpOpIn_off {F : Fence} {m : Nat} {Q : Exit → Act → World → Prop} {i : Nat} {o : Oper} (ho : ops[i]? = some o) (hs : ∀ cs b, o.op ≠ .select cs b) (hd : ∀ c, o.op ≠ .defer c) {X : Tmp → Prop} {b b₁ : Act} {w : World} (h : Off X b b₁) (hx : ∀ t, Reads ops o t → ¬ X t)
    {K K₁ : Act → World → Prop} (hK : ∀ (c c₁ : Act) v w', c.tmps = b.tmps → c₁.tmps = b₁.tmps → c.defers = c₁.defers → K₁ (c₁.put o.dst v) w' → K (c.put o.dst v) w') (hw : wpOpIn F m P ops Nope i K₁ b₁ w) : wpOpIn F m P ops Q i K b w := by
  unfold wpOpIn at *
  rw [ho] at hw ⊢
  simp only at hw ⊢
  rw [h.wanted hx]
  have hev : ∀ x ∈ o.op.operands, b.eval x = b₁.eval x := fun x hm => h.eval fun t ht => hx t (.inl (by rw [← ht]; exact hm))
  have hab : o.about P w b.eval = o.about P w b₁.eval := about_congr o w hev
  have hex : execOp b.eval o = execOp b₁.eval o := execOp_congr o hs hev
  split
  · rename_i hwt
    rw [if_pos hwt] at hw
    unfold Oper.wpIn at *
    rw [Oper.semAt_eq _ _ _ hd] at hw ⊢
    rw [hab, hex]
    refine ⟨hw.1, ?_⟩
    have hu := hw.2
    generalize (execOp b₁.eval o).run P w = r at hu ⊢
    cases r with
    | ok x w' =>
      cases x <;> simp only [Oper.uponIn] at hu ⊢
      case value u => exact hK b b₁ _ _ rfl rfl h.defers hu
      case skip => exact hK b b₁ _ _ rfl rfl h.defers hu
      case enter f args =>
        refine ⟨hu.1, CallsIn.mono hu.2 fun e w'' he => ?_⟩
        cases e with
        | returned u => exact hK b b₁ _ _ rfl rfl h.defers he
        | panicked c => exact he.elim
        | outgrown => obtain ⟨_, _, he⟩ := he; exact he.elim
      case row row args => exact ⟨hu.1, RowsIn.mono hu.2 fun u w'' he => hK b b₁ _ _ rfl rfl h.defers he⟩
      case round l f tmps assign body =>
        refine ⟨hu.1, RoundIn.mono hu.2 fun e w'' he => ?_⟩
        cases e with
        | returned u => exact hK b b₁ _ _ rfl rfl h.defers he
        | panicked c => exact he.elim
        | outgrown => obtain ⟨_, _, he⟩ := he; exact he.elim
      case defer d => exact hK { b with defers := d :: b.defers } { b₁ with defers := d :: b₁.defers } _ _ rfl rfl (by simp only [h.defers]) hu
    | halt x w' =>
      cases x <;> simp only [Oper.uponIn] at hu ⊢
      case panic u => exact hu.elim
  · rename_i hwt
    rw [if_neg hwt] at hw
    rw [hab]
    exact ⟨hw.1, hK b b₁ _ _ rfl rfl h.defers hw.2⟩
end
end Go.AM
end

section
namespace Go.AM
open Go
section
variable {P : Program} {θ : Env} {h : AHeap} {w : World}

/-- A block that is there becomes a new object's. -/
theorem Rep.adopt (r : Rep P θ h w) {o : AObj} {th : Th} (hl : th.blk < w.heap.size) (hn : ∀ i oi, h.get i = some oi → (θ.f i).blk ≠ th.blk) (ho : ORel P (θ.ext th) th o w) :
    Rep P (θ.ext th) (h.new o) w := by
  refine ⟨by rw [AHeap.next_new, ← r.nx]; rfl, ?_, ?_, r.low_ext hl (fun b hb => hb), r.glob_ext⟩
  · intro i oi e
    rw [AHeap.get_new] at e
    by_cases hi : i = h.next
    · subst hi
      rw [if_pos rfl] at e
      obtain rfl : o = oi := by simpa using e
      rw [← r.nx, Env.ext_new]
      exact ⟨by rw [AHeap.next_new, ← r.nx]; exact Nat.lt_succ_self _, hl, ho⟩
    · rw [if_neg hi] at e
      obtain ⟨a, b, c⟩ := r.obj i oi e
      rw [Env.ext_old _ _ (r.lt e)]
      exact ⟨Nat.lt_succ_of_lt a, b, c.mono (Env.le_ext _ _)⟩
  · intro i j oi oj ei ej hij hw
    rw [AHeap.get_new] at ei ej
    by_cases hi : i = h.next
    · subst hi
      rw [if_neg (Ne.symm hij)] at ej
      rw [Env.ext_old _ _ (r.lt ej), ← r.nx, Env.ext_new]
      exact fun e => hn j oj ej e.symm
    · rw [if_neg hi] at ei
      rw [Env.ext_old _ _ (r.lt ei)]
      by_cases hj : j = h.next
      · subst hj
        rw [← r.nx, Env.ext_new]
        exact hn i oi ei
      · rw [if_neg hj] at ej
        rw [Env.ext_old _ _ (r.lt ej)]
        exact r.inj i j oi oj ei ej hij hw

theorem Owns.new {o : AObj} {th : Th} (r : Rep P θ h w) {b : Nat} (hb : b ≠ th.blk) (ho : Owns (θ.ext th) (h.new o) b) : Owns θ h b := by
  obtain ⟨i, oi, e, hw, rfl⟩ := ho
  rw [AHeap.get_new] at e
  by_cases hi : i = h.next
  · subst hi
    rw [← r.nx, Env.ext_new] at hb
    exact absurd rfl hb
  · rw [if_neg hi] at e
    rw [Env.ext_old _ _ (r.lt e)]
    exact ⟨i, oi, e, hw, rfl⟩

theorem Rep.pushed (r : Rep P θ h w) (o : Obj) : Rep P θ h (World.push w o) ∧ Goes θ h w θ h (World.push w o) := by
  have get : ∀ b, b < w.heap.size → (World.push w o).heap[b]? = w.heap[b]? := fun b hl => by
    simp only [World.push]; rw [Array.getElem?_push, if_neg (by omega)]
  refine ⟨⟨r.nx, fun i oi e => ?_, r.inj, fun i hi => Nat.lt_of_lt_of_le (r.low i hi) (by simp [World.push]), r.glob⟩, ⟨.refl _, rfl, rfl, rfl, by simp [World.push], fun b hb _ => get b hb, fun _ _ ho => ho⟩⟩
  obtain ⟨a, b, c⟩ := r.obj i oi e
  exact ⟨a, by simp only [World.push, Array.size_push]; omega, c.congr (get _ b)⟩

theorem alloc_run {elem : TypeId} {z : List Value} {n m : Nat} (hz : zeroOf P elem = some (z, n, m)) (w : World) :
    Runs P (Instr.alloc elem true (.tuple #[])) w (.pointer (some ⟨w.heap.size, 0, none⟩)) (World.push w (.cells z.toArray elem)) := by
  obtain ⟨i, zv, hi, hiz, rfl, hfl, hlen, hsz, _⟩ := zeroOf_spec hz
  have : zv.cells.toList.toArray = zv.cells := by apply Array.toList_inj.1; simp
  rw [this]
  exact (run_zero hi hiz).bind (Runs.bind (Runs.bind (.new _ _) (.pure _ _)) (.pure _ _))

theorem alloc_rel {elem : TypeId} {z : List Value} {n m : Nat} (hz : zeroOf P elem = some (z, n, m)) {b : Nat} (hb : w.heap[b]? = some (.cells z.toArray elem (0, 0))) (θ : Env) :
    ORel P θ ⟨b, 0, 0, 0⟩ (.cells { n, z, t := .nil, elem, opn := false, ro := false }) w := by
  obtain ⟨i, zv, hi, hiz, rfl, hfl, hlen, hsz, _⟩ := zeroOf_spec hz
  refine ⟨fun k u e => ?_, fun _ => ⟨_, hb, by simp at hlen; simp [hlen], fun x => by cases x⟩, fun _ => rfl, fun _ _ => ⟨rfl, fun a2 e2 f2 h2 => by
    rw [hb] at h2
    simp only [Option.some.injEq, Obj.cells.injEq] at h2
    rw [← h2.1]; simpa using hlen⟩⟩
  obtain ⟨hk, hu⟩ := at_zero e
  rw [hlen, Nat.mod_eq_of_lt hk] at hu
  obtain ⟨u', p, q⟩ := (flats_rel (θ := θ) hfl).get hu
  refine ⟨u', ?_, q⟩
  simp only [World.cell?, hb]
  simpa using p
end
end Go.AM
end
