/- Jobs: orders, schedules and the lower bound; no world. -/
import Derived.Test.YtclmaobblnfplaaJbW
namespace Go.Proofs
set_option maxHeartbeats 4000000
set_option maxRecDepth 100000
/-- All orders that begin with some, in lexicographic order. -/
def ordP (n : Nat) : Nat → List Nat → List (List Nat)
  | 0, b => [b]
  | f + 1, b => (List.range n).flatMap fun i => if i ∈ b then [] else ordP n f (b ++ [i])
/-- The stations' free minutes after some jobs. -/
def freeP (js : List JobT) (fr : List Int) (p : List Nat) : List Int := p.foldl (fun fr i => goJ ((js[i]?).getD jobD) fr) fr
theorem freeP_snoc (js : List JobT) (fr : List Int) (p : List Nat) (i : Nat) : freeP js fr (p ++ [i]) = goJ ((js[i]?).getD jobD) (freeP js fr p) := by
  unfold freeP
  rw [List.foldl_append]
  rfl
theorem freeP_append (js : List JobT) (fr : List Int) (p q : List Nat) : freeP js fr (p ++ q) = freeP js (freeP js fr p) q := by
  unfold freeP
  rw [List.foldl_append]
theorem freeP_bd {js : List JobT} {m : Nat} (ok : ∀ j ∈ js, JobOk m j) : ∀ (q : List Nat) {fr : List Int} {B : Int}, FreeOk m B fr → (∀ i ∈ q, i < js.length) → FreeOk m (B + 24480 * q.length) (freeP js fr q) ∧ ∀ i, at0 fr i ≤ at0 (freeP js fr q) i
  | [], fr, B, h, _ => by
    refine ⟨?_, fun i => Int.le_refl _⟩
    simpa [freeP] using h
  | i :: q, fr, B, h, hq => by
    have hi : i < js.length := hq i (by simp)
    have hj : (js[i]?).getD jobD ∈ js := by rw [List.getElem?_eq_getElem hi]; exact List.getElem_mem hi
    obtain ⟨h1, h2⟩ := go_bd (ok _ hj) h
    obtain ⟨h3, h4⟩ := freeP_bd ok q h1 (fun k hk => hq k (by simp [hk]))
    refine ⟨?_, fun k => Int.le_trans (h2 k) (h4 k)⟩
    have e : B + 24480 * ((i :: q).length : Int) = B + 24480 + 24480 * (q.length : Int) := by rw [List.length_cons]; omega
    rw [e]
    exact h3
theorem ordP_form {n : Nat} : ∀ (f : Nat) (b p : List Nat), p ∈ ordP n f b → ∃ q : List Nat, p = b ++ q ∧ q.length = f ∧ ∀ i ∈ q, i < n
  | 0, b, p, h => by
    obtain rfl : p = b := by simpa [ordP] using h
    exact ⟨[], by simp, rfl, fun i h => by simp at h⟩
  | f + 1, b, p, h => by
    simp only [ordP, List.mem_flatMap, List.mem_range] at h
    obtain ⟨i, hi, h⟩ := h
    split at h
    · simp at h
    · obtain ⟨q, rfl, h2, h3⟩ := ordP_form f _ p h
      refine ⟨i :: q, by simp, by simp [h2], fun k hk => ?_⟩
      rcases List.mem_cons.1 hk with rfl | hk
      · exact hi
      · exact h3 k hk
theorem ordP_nodup {n : Nat} : ∀ (f : Nat) (b p : List Nat), b.Nodup → p ∈ ordP n f b → p.Nodup
  | 0, b, p, hb, h => by
    obtain rfl : p = b := by simpa [ordP] using h
    exact hb
  | f + 1, b, p, hb, h => by
    simp only [ordP, List.mem_flatMap, List.mem_range] at h
    obtain ⟨i, hi, h⟩ := h
    split at h
    · simp at h
    · rename_i hn
      refine ordP_nodup f _ p ?_ h
      rw [List.nodup_append]
      refine ⟨hb, by simp, fun x hx y hy => ?_⟩
      obtain rfl : y = i := by simpa using hy
      intro e
      subst e
      exact hn hx
def endP (js : List JobT) (m : Nat) (p : List Nat) : Int := lastI (freeP js (List.replicate m 0) p)
def updP (js : List JobT) (m : Nat) (s : StT) (p : List Nat) : StT := if cutB s (endP js m p) then s else some (p, endP js m p)
theorem foldl_stay {α β : Type} (f : β → α → β) (s : β) : ∀ l : List α, (∀ x ∈ l, f s x = s) → l.foldl f s = s
  | [], _ => rfl
  | x :: l, h => by
    rw [List.foldl_cons, h x (by simp)]
    exact foldl_stay f s l fun y hy => h y (by simp [hy])
theorem foldl_flat {α β γ : Type} (f : β → γ → β) (g : α → List γ) : ∀ (l : List α) (s : β), (l.flatMap g).foldl f s = l.foldl (fun s a => (g a).foldl f s) s
  | [], s => rfl
  | x :: l, s => by
    rw [List.flatMap_cons, List.foldl_append, List.foldl_cons]
    exact foldl_flat f g l _
theorem foldl_same {α β : Type} (f g : β → α → β) : ∀ (l : List α), (∀ x ∈ l, ∀ s, f s x = g s x) → ∀ s, l.foldl f s = l.foldl g s
  | [], _, s => rfl
  | x :: l, h, s => by
    rw [List.foldl_cons, List.foldl_cons, h x (by simp)]
    exact foldl_same f g l (fun y hy => h y (by simp [hy])) _
theorem free0_ok (m : Nat) : FreeOk m 0 (List.replicate m 0) := by
  refine ⟨by simp, fun i => ?_⟩
  unfold at0
  rw [List.getElem?_replicate]
  split <;> simp
theorem endP_mono {js : List JobT} {m : Nat} (ok : ∀ j ∈ js, JobOk m j) {b q : List Nat} (hb : ∀ i ∈ b, i < js.length) (hq : ∀ i ∈ q, i < js.length) : endP js m b ≤ endP js m (b ++ q) := by
  unfold endP lastI
  rw [freeP_append]
  obtain ⟨h1, -⟩ := freeP_bd ok b (free0_ok m) hb
  obtain ⟨h2, h3⟩ := freeP_bd ok q h1 hq
  rw [h2.1, h1.1]
  exact h3 _
theorem expl_scan {js : List JobT} {m : Nat} (ok : ∀ j ∈ js, JobOk m j) : ∀ (f : Nat) (b : List Nat) (s : StT), b.length + f = js.length → (∀ i ∈ b, i < js.length) → expl js f b (freeP js (List.replicate m 0) b) s = (ordP js.length f b).foldl (updP js m) s
  | 0, b, s, hf, hb => by
    unfold expl ordP
    rw [if_pos (by omega : b.length = js.length)]
    rfl
  | f + 1, b, s, hf, hb => by
    unfold expl
    by_cases hc : cutB s (lastI (freeP js (List.replicate m 0) b)) = true
    · rw [if_pos hc]
      refine (foldl_stay _ _ _ fun p hp => ?_).symm
      obtain ⟨q, rfl, -, h3⟩ := ordP_form _ _ _ hp
      have h4 := endP_mono ok hb h3
      unfold updP
      rw [if_pos]
      unfold cutB at hc ⊢
      cases s with
      | none => cases hc
      | some x =>
        have h5 : x.2 ≤ lastI (freeP js (List.replicate m 0) b) := of_decide_eq_true hc
        exact decide_eq_true (Int.le_trans h5 h4)
    · rw [if_neg hc, if_neg (by omega)]
      unfold ordP
      rw [foldl_flat]
      refine foldl_same _ _ _ (fun i hi s => ?_) s
      by_cases hm : i ∈ b
      · rw [if_pos hm, if_pos hm]
        rfl
      · rw [if_neg hm, if_neg hm]
        rw [← freeP_snoc]
        refine expl_scan ok f (b ++ [i]) s (by rw [List.length_append, List.length_singleton]; omega) fun k hk => ?_
        rcases List.mem_append.1 hk with h | h
        · exact hb k h
        · obtain rfl : k = i := by simpa using h
          simpa using hi
/-- The first of some orders that ends first. -/
def pickP (E : List Nat → Int) (l : List (List Nat)) (o : List Nat) : List Nat := l.foldl (fun o p => if E p < E o then p else o) o
theorem upd_pick (js : List JobT) (m : Nat) : ∀ (l : List (List Nat)) (o : List Nat), l.foldl (updP js m) (some (o, endP js m o)) = some (pickP (endP js m) l o, endP js m (pickP (endP js m) l o))
  | [], o => rfl
  | p :: l, o => by
    unfold pickP
    rw [List.foldl_cons, List.foldl_cons]
    have e : updP js m (some (o, endP js m o)) p = some (if endP js m p < endP js m o then p else o, endP js m (if endP js m p < endP js m o then p else o)) := by
      unfold updP cutB
      by_cases h : endP js m p < endP js m o
      · rw [if_pos h, if_neg]
        simp only [decide_eq_true_eq]
        omega
      · rw [if_neg h, if_pos]
        simp only [decide_eq_true_eq]
        omega
    rw [e]
    exact upd_pick js m l _
theorem scan_pick (js : List JobT) (m : Nat) {l : List (List Nat)} {o : List Nat} (h : l[0]? = some o) : l.foldl (updP js m) none = some (pickP (endP js m) l o, endP js m (pickP (endP js m) l o)) := by
  match l, h with
  | p :: l, h =>
    obtain rfl : p = o := by simpa using h
    rw [List.foldl_cons]
    have e : updP js m none p = some (p, endP js m p) := rfl
    rw [e, upd_pick]
    have e2 : pickP (endP js m) (p :: l) p = pickP (endP js m) l p := by
      unfold pickP
      rw [List.foldl_cons, if_neg (by omega)]
    rw [e2]
def jobK (js : List JobT) (i : Nat) : JobT := (js[i]?).getD jobD

theorem preS_at (t d free : List Int) : ∀ (k : Nat), k ≤ free.length → ∀ i, (k ≤ i → at0 (preS t d free k) i = at0 free i) ∧ (i < k → ∀ k', k ≤ k' → k' ≤ free.length → at0 (preS t d free k') i = at0 (preS t d free k) i)
  | 0, _, i => ⟨fun _ => rfl, fun h => absurd h (Nat.not_lt_zero i)⟩
  | k + 1, hk, i => by
    have step : ∀ q, q + 1 ≤ free.length → ∀ i, i ≠ q → at0 (preS t d free (q + 1)) i = at0 (preS t d free q) i := fun q hq i hi => by
      conv => lhs; unfold preS
      split
      · rename_i h
        subst h
        rfl
      · unfold stepS
        rw [at0_set (by rw [preS_len]; omega), if_neg hi]
    refine ⟨fun h => ?_, fun h k' hk' hl => ?_⟩
    · rw [step k hk i (by omega)]
      exact (preS_at t d free k (by omega) i).1 (by omega)
    · induction k' with
      | zero => omega
      | succ q ih =>
        rcases Nat.lt_or_eq_of_le hk' with h2 | h2
        · rw [step q hl i (by omega)]
          exact ih (by omega) (by omega)
        · rw [← h2]
theorem startsP_len (t d free : List Int) : (startsP t d free).length = free.length := preS_len ..
theorem startsP_0 (t d free : List Int) (h : 0 < free.length) : at0 (startsP t d free) 0 = at0 free 0 := by
  unfold startsP
  have h1 := (preS_at t d free 1 h 0).2 (by omega) free.length h (Nat.le_refl _)
  rw [h1]
  simp [preS]
theorem startsP_succ (t d free : List Int) (s : Nat) (h : s + 1 < free.length) : at0 (startsP t d free) (s + 1) = max (at0 free (s + 1)) (at0 (startsP t d free) s + at0 t s + at0 d s) := by
  unfold startsP
  rw [(preS_at t d free (s + 2) (by omega) (s + 1)).2 (by omega) free.length (by omega) (Nat.le_refl _)]
  rw [(preS_at t d free (s + 1) (by omega) s).2 (by omega) free.length (by omega) (Nat.le_refl _)]
  conv => lhs; unfold preS
  rw [if_neg (by omega)]
  unfold stepS
  rw [at0_set (by rw [preS_len]; omega), if_pos rfl, (preS_at t d free (s + 1) (by omega) (s + 1)).1 (Nat.le_refl _), Nat.add_sub_cancel]
theorem goJ_at {m : Nat} {j : JobT} (hj : JobOk m j) {free : List Int} (hf : free.length = m) (i : Nat) : at0 (goJ j free) i = at0 (startsP j.2.1 j.2.2 free) i + (if i < m then at0 j.2.1 i else 0) := by
  unfold goJ endsP
  rw [preE_at _ _ _ (by rw [startsP_len, hf, hj.t]; exact Nat.le_refl _), hj.t]
/-- The schedule of some jobs, as far as the first k of an order are in it. -/
def schK (js : List JobT) (m : Nat) (p : List Nat) : Nat → List (List Int)
  | 0 => List.replicate js.length []
  | k + 1 => match p[k]? with
    | none => schK js m p k
    | some i => (schK js m p k).set i (startsP (jobK js i).2.1 (jobK js i).2.2 (freeP js (List.replicate m 0) (p.take k)))
def schP (js : List JobT) (m : Nat) (p : List Nat) : List (List Int) := schK js m p p.length
theorem schK_len (js : List JobT) (m : Nat) (p : List Nat) : ∀ k, (schK js m p k).length = js.length
  | 0 => by simp [schK]
  | k + 1 => by
    unfold schK
    split
    · exact schK_len js m p k
    · rw [List.length_set]; exact schK_len js m p k
theorem schK_succ {js : List JobT} {m : Nat} {p : List Nat} {k i : Nat} (h : p[k]? = some i) : schK js m p (k + 1) = (schK js m p k).set i (startsP (jobK js i).2.1 (jobK js i).2.2 (freeP js (List.replicate m 0) (p.take k))) := by
  conv => lhs; unfold schK
  rw [h]
theorem nodup_inj {p : List Nat} (hn : p.Nodup) {i k x : Nat} (hi : p[i]? = some x) (hk : p[k]? = some x) : i = k := by
  rcases Nat.lt_trichotomy i k with h | h | h
  · exact absurd rfl (by
      obtain ⟨h1, h2⟩ := List.getElem?_eq_some_iff.1 hi
      obtain ⟨h3, h4⟩ := List.getElem?_eq_some_iff.1 hk
      have := List.pairwise_iff_getElem.1 hn i k h1 h3 h
      rw [h2, h4] at this
      exact this)
  · exact h
  · exact absurd rfl (by
      obtain ⟨h1, h2⟩ := List.getElem?_eq_some_iff.1 hi
      obtain ⟨h3, h4⟩ := List.getElem?_eq_some_iff.1 hk
      have := List.pairwise_iff_getElem.1 hn k i h3 h1 h
      rw [h2, h4] at this
      exact this)
theorem schK_at {js : List JobT} {m : Nat} {p : List Nat} (hn : p.Nodup) (hp : ∀ i ∈ p, i < js.length) : ∀ (K : Nat), K ≤ p.length → ∀ (k i : Nat), p[k]? = some i → (schK js m p K)[i]? = some (if k < K then startsP (jobK js i).2.1 (jobK js i).2.2 (freeP js (List.replicate m 0) (p.take k)) else [])
  | 0, _, k, i, h => by
    rw [if_neg (by omega)]
    simp only [schK]
    rw [List.getElem?_replicate, if_pos (hp i (List.mem_of_getElem? h))]
  | K + 1, hK, k, i, h => by
    obtain ⟨x, hx⟩ : ∃ x, p[K]? = some x := ⟨_, List.getElem?_eq_getElem (by omega)⟩
    rw [schK_succ hx]
    by_cases he : x = i
    · subst he
      obtain rfl := nodup_inj hn hx h
      rw [List.getElem?_set_self (by rw [schK_len]; exact hp _ (List.mem_of_getElem? h)), if_pos (by omega)]
    · rw [List.getElem?_set_ne he, schK_at hn hp K (by omega) k i h]
      have hne : k ≠ K := fun e => he (by subst e; exact Option.some.inj (hx.symm.trans h))
      by_cases h2 : k < K
      · rw [if_pos h2, if_pos (by omega)]
      · rw [if_neg h2, if_neg (by omega)]
/-- An order of n things. -/
structure OrdN (n : Nat) (p : List Nat) : Prop where
  nd : p.Nodup
  lt : ∀ i ∈ p, i < n
  len : p.length = n
theorem lenN : ∀ {l m : List Nat}, l.Nodup → (∀ x ∈ l, x ∈ m) → l.length ≤ m.length
  | [], m, _, _ => Nat.zero_le _
  | x :: l, m, hn, h => by
    have hx : x ∈ m := h x (by simp)
    have h2 := lenN (l := l) (m := m.erase x) (List.nodup_cons.1 hn).2 fun y hy => by
      have hne : y ≠ x := fun e => (List.nodup_cons.1 hn).1 (e ▸ hy)
      exact (List.mem_erase_of_ne hne).2 (h y (by simp [hy]))
    rw [List.length_erase_of_mem hx] at h2
    have := List.length_pos_of_mem hx
    rw [List.length_cons]
    omega
theorem OrdN.all {n : Nat} {p : List Nat} (h : OrdN n p) {i : Nat} (hi : i < n) : ∃ k : Nat, p[k]? = some i := by
  by_cases hm : i ∈ p
  · exact List.mem_iff_getElem?.1 hm
  · have h1 : (i :: p).Nodup := List.nodup_cons.2 ⟨hm, h.nd⟩
    have h2 := lenN (m := List.range n) h1 fun x hx => by
      rcases List.mem_cons.1 hx with rfl | hx
      · exact List.mem_range.2 hi
      · exact List.mem_range.2 (h.lt x hx)
    rw [List.length_cons, List.length_range, h.len] at h2
    omega
theorem jobK_mem {js : List JobT} {i : Nat} (h : i < js.length) : js[i]? = some (jobK js i) ∧ jobK js i ∈ js := by
  have e : jobK js i = js[i] := by unfold jobK; rw [List.getElem?_eq_getElem h]; rfl
  rw [e]
  exact ⟨List.getElem?_eq_getElem h, List.getElem_mem h⟩
theorem endL_le {U : List UseT} {x : Int} (h0 : 0 ≤ x) (h : ∀ u ∈ U, u.2 ≤ x) : ∀ k, k ≤ U.length → endL U k ≤ x
  | 0, _ => by simpa [endL] using h0
  | k + 1, hk => by
    obtain ⟨u, hu⟩ : ∃ u, U[k]? = some u := ⟨_, List.getElem?_eq_getElem (by omega)⟩
    rw [endL_succ hu]
    have := endL_le h0 h k (by omega)
    have := h u (List.mem_of_getElem? hu)
    omega
theorem endL_ge {U : List UseT} {i : Nat} {u : UseT} (hu : U[i]? = some u) : ∀ k, k ≤ U.length → i < k → u.2 ≤ endL U k
  | k + 1, hk, hi => by
    obtain ⟨v, hv⟩ : ∃ v, U[k]? = some v := ⟨_, List.getElem?_eq_getElem (by omega)⟩
    rw [endL_succ hv]
    rcases Nat.lt_or_eq_of_le (Nat.le_of_lt_succ hi) with h | rfl
    · have := endL_ge hu k (by omega) h
      omega
    · obtain rfl := Option.some.inj (hu.symm.trans hv)
      omega
theorem take_snoc {p : List Nat} {k i : Nat} (h : p[k]? = some i) : p.take (k + 1) = p.take k ++ [i] := by rw [List.take_add_one, h]; rfl
theorem free_take {js : List JobT} {m : Nat} (ok : ∀ j ∈ js, JobOk m j) {p : List Nat} (hp : ∀ i ∈ p, i < js.length) (k : Nat) : FreeOk m (24480 * p.length) (freeP js (List.replicate m 0) (p.take k)) := by
  obtain ⟨⟨h1, h2⟩, -⟩ := freeP_bd ok (p.take k) (free0_ok m) fun i hi => hp i (List.mem_of_mem_take hi)
  refine ⟨h1, fun i => ?_⟩
  have := h2 i
  have hl : (p.take k).length ≤ p.length := by rw [List.length_take]; omega
  omega
/-- Each job of a schedule: its starts, and when it leaves the last station. -/
theorem sch_at {js : List JobT} {m : Nat} (ok : ∀ j ∈ js, JobOk m j) {p : List Nat} (hp : OrdN js.length p) {k i : Nat} (h : p[k]? = some i) :
    (schP js m p)[i]? = some (startsP (jobK js i).2.1 (jobK js i).2.2 (freeP js (List.replicate m 0) (p.take k))) ∧ FreeOk m (24480 * p.length + 23040) (startsP (jobK js i).2.1 (jobK js i).2.2 (freeP js (List.replicate m 0) (p.take k))) := by
  unfold schP
  rw [schK_at hp.nd hp.lt p.length (Nat.le_refl _) k i h, if_pos (List.getElem?_eq_some_iff.1 h).1]
  refine ⟨rfl, (starts_bd (ok _ (jobK_mem (hp.lt i (List.mem_of_getElem? h))).2) (free_take ok hp.lt k)).1⟩
theorem sch_end {js : List JobT} {m : Nat} (hm : 0 < m) (ok : ∀ j ∈ js, JobOk m j) (hpos : 0 < js.length) {p : List Nat} (hp : OrdN js.length p) : endL (useK js (schP js m p) (m - 1)) js.length = endP js m p := by
  have hSl : (schP js m p).length = js.length := schK_len ..
  have hUl := useK_len (s := m - 1) hSl
  have key : ∀ (k i : Nat), p[k]? = some i → ∃ u : UseT, (useK js (schP js m p) (m - 1))[i]? = some u ∧ u.2 = endP js m (p.take (k + 1)) := fun k i h => by
    obtain ⟨hj, hjm⟩ := jobK_mem (hp.lt i (List.mem_of_getElem? h))
    obtain ⟨h1, h2⟩ := sch_at ok hp h
    refine ⟨_, useK_at hj h1, ?_⟩
    unfold endP lastI
    rw [take_snoc h, freeP_snoc]
    have hf := free_take ok hp.lt k
    have hfl := hf.1
    have hg := (go_bd (ok _ hjm) hf).1.1
    show _ = at0 (goJ (jobK js i) _) _
    have e1 : (goJ (jobK js i) (freeP js (List.replicate m 0) (List.take k p))).length = m := hg
    have e2 := goJ_at (ok _ hjm) hfl (m - 1)
    rw [if_pos (by omega)] at e2
    have e3 : at0 (goJ (jobK js i) (freeP js (List.replicate m 0) (List.take k p))) ((goJ (jobK js i) (freeP js (List.replicate m 0) (List.take k p))).length - 1) = at0 (goJ (jobK js i) (freeP js (List.replicate m 0) (List.take k p))) (m - 1) := by rw [e1]
    exact (e3.trans e2).symm
  have hge : ∀ k, endP js m (p.take (k + 1)) ≤ endP js m p := fun k => by
    have := endP_mono (m := m) ok (b := p.take (k + 1)) (q := p.drop (k + 1)) (fun i hi => hp.lt i (List.mem_of_mem_take hi)) (fun i hi => hp.lt i (List.mem_of_mem_drop hi))
    rwa [List.take_append_drop] at this
  have h0 : 0 ≤ endP js m p := by
    have h1 := free_take ok hp.lt p.length
    rw [List.take_length] at h1
    exact (h1.2 _).1
  refine Int.le_antisymm (endL_le h0 (fun u hu => ?_) _ (by omega)) ?_
  · obtain ⟨i, hi⟩ := List.mem_iff_getElem?.1 hu
    have hil : i < js.length := by have := (List.getElem?_eq_some_iff.1 hi).1; omega
    obtain ⟨k, hk⟩ := hp.all hil
    obtain ⟨u', h1, h2⟩ := key k i hk
    obtain rfl := Option.some.inj (hi.symm.trans h1)
    rw [h2]
    exact hge k
  · obtain ⟨i, hi⟩ : ∃ i, p[js.length - 1]? = some i := ⟨_, List.getElem?_eq_getElem (by have := hp.len; omega)⟩
    obtain ⟨u, h1, h2⟩ := key _ i hi
    have h3 := endL_ge h1 js.length (by omega) (hp.lt i (List.mem_of_getElem? hi))
    have e : p.take (js.length - 1 + 1) = p := by
      rw [show js.length - 1 + 1 = p.length by have := hp.len; omega, List.take_length]
    rw [h2, e] at h3
    exact h3
theorem ordP_ord {n : Nat} {p : List Nat} (h : p ∈ ordP n n []) : OrdN n p := by
  obtain ⟨q, rfl, h2, h3⟩ := ordP_form _ _ _ h
  exact ⟨ordP_nodup _ _ _ (by simp) h, by simpa using h3, by simpa using h2⟩
/-- The sum of the first k numbers. -/
def sumK (l : List Int) (k : Nat) : Int := (l.take k).foldl (fun s x => s + x) 0
theorem sumK_succ {l : List Int} {k : Nat} {x : Int} (h : l[k]? = some x) : sumK l (k + 1) = sumK l k + x := by
  unfold sumK
  rw [List.take_add_one, h]
  simp
def sumA (l : List Int) : Int := sumK l l.length
theorem foldl_add (l : List Int) : ∀ s : Int, l.foldl (fun s x => s + x) s = s + l.foldl (fun s x => s + x) 0 := by
  induction l with
  | nil => intro s; simp
  | cons x l ih => intro s; rw [List.foldl_cons, List.foldl_cons, ih, ih (0 + x)]; omega
theorem sumA_cons (x : Int) (l : List Int) : sumA (x :: l) = x + sumA l := by
  unfold sumA sumK
  rw [List.take_length, List.take_length, List.foldl_cons, foldl_add]
  omega
theorem sumA_nil : sumA [] = 0 := rfl
theorem sumA_append (a b : List Int) : sumA (a ++ b) = sumA a + sumA b := by
  induction a with
  | nil => simp [sumA_nil]
  | cons x a ih => rw [List.cons_append, sumA_cons, sumA_cons, ih]; omega
theorem sumA_split (l : List Int) (k : Nat) : sumA (l.take k) + sumA (l.drop k) = sumA l := by
  rw [← sumA_append, List.take_append_drop]
theorem sumA_at (l : List Int) (k : Nat) (h : k < l.length) : sumA (l.take k) + at0 l k + sumA (l.drop (k + 1)) = sumA l := by
  have h1 := sumA_split l k
  rw [List.drop_eq_getElem_cons h, sumA_cons] at h1
  rw [at0_some (List.getElem?_eq_getElem h)]
  omega
def befJ (j : JobT) (s : Nat) : Int := sumA (j.2.1.take s) + sumA (j.2.2.take s)
def aftJ (j : JobT) (s : Nat) : Int := sumA (j.2.1.drop (s + 1)) + sumA (j.2.2.drop s)
def allJ (j : JobT) : Int := sumA j.2.1 + sumA j.2.2
theorem allJ_eq {m : Nat} {j : JobT} (hj : JobOk m j) {s : Nat} (h : s < m) : befJ j s + at0 j.2.1 s + aftJ j s = allJ j := by
  have h1 := sumA_at j.2.1 s (by have := hj.t; omega)
  have h2 := sumA_split j.2.2 s
  unfold befJ aftJ allJ
  omega
def minL : List Int → Int
  | [] => 0
  | x :: l => l.foldl min x
def maxL : List Int → Int
  | [] => 0
  | x :: l => l.foldl max x
def atS (js : List JobT) (s : Nat) : Int := sumA (js.map fun j => at0 j.2.1 s)
def lowS (js : List JobT) (s : Nat) : Int := minL (js.map fun j => befJ j s) + atS js s + minL (js.map fun j => aftJ j s)
/-- The lower bound, as far as the first k stations say. -/
def bndK (js : List JobT) (k : Nat) : Int := (List.range k).foldl (fun b s => max b (lowS js s)) (maxL (js.map allJ))
theorem bndK_succ (js : List JobT) (k : Nat) : bndK js (k + 1) = max (bndK js k) (lowS js k) := by
  unfold bndK
  rw [List.range_succ, List.foldl_append]
  rfl
/-- The greatest of a number and what the first i jobs need altogether. -/
def maxJ (js : List JobT) (most : Int) (i : Nat) : Int := (js.take i).foldl (fun e j => max e (allJ j)) most
theorem maxJ_succ {js : List JobT} {most : Int} {i : Nat} {j : JobT} (h : js[i]? = some j) : maxJ js most (i + 1) = max (maxJ js most i) (allJ j) := by
  unfold maxJ
  rw [List.take_add_one, h]
  simp
theorem maxJ_stay {js : List JobT} {most : Int} (h : ∀ j ∈ js, allJ j ≤ most) : ∀ i, maxJ js most i = most := fun i => by
  have key : ∀ l : List JobT, (∀ j ∈ l, allJ j ≤ most) → l.foldl (fun e j => max e (allJ j)) most = most := fun l => by
    induction l with
    | nil => intro _; rfl
    | cons x l ih =>
      intro h
      rw [List.foldl_cons, show max most (allJ x) = most by have := h x (by simp); omega]
      exact ih fun j hj => h j (by simp [hj])
  exact key _ fun j hj => h j (List.mem_of_mem_take hj)
theorem foldmax_map (f : JobT → Int) : ∀ (l : List JobT) (x : Int), (l.map f).foldl max x = l.foldl (fun e j => max e (f j)) x
  | [], _ => rfl
  | y :: l, x => by rw [List.map_cons, List.foldl_cons, List.foldl_cons]; exact foldmax_map f l _
theorem maxJ_0 {js : List JobT} (hpos : 0 < js.length) (h : ∀ j ∈ js, 0 ≤ allJ j) : maxJ js 0 js.length = maxL (js.map allJ) := by
  unfold maxJ
  rw [List.take_length]
  match js, hpos with
  | j :: l, _ =>
    have e : maxL ((j :: l).map allJ) = l.foldl (fun e j => max e (allJ j)) (allJ j) := foldmax_map allJ l _
    rw [e, List.foldl_cons, show max 0 (allJ j) = allJ j by have := h j (by simp); omega]
theorem foldmax_ge : ∀ (l : List Int) (x : Int), x ≤ l.foldl max x ∧ ∀ y ∈ l, y ≤ l.foldl max x
  | [], x => ⟨Int.le_refl _, fun y h => by simp at h⟩
  | z :: l, x => by
    rw [List.foldl_cons]
    obtain ⟨h1, h2⟩ := foldmax_ge l (max x z)
    refine ⟨by omega, fun y hy => ?_⟩
    rcases List.mem_cons.1 hy with rfl | hy
    · omega
    · exact h2 y hy
theorem maxL_ge {l : List Int} {y : Int} (h : y ∈ l) : y ≤ maxL l := by
  match l, h with
  | x :: l, h =>
    unfold maxL
    obtain ⟨h1, h2⟩ := foldmax_ge l x
    rcases List.mem_cons.1 h with rfl | h
    · exact h1
    · exact h2 y h
theorem bndK_all {js : List JobT} {j : JobT} (h : j ∈ js) : ∀ k, allJ j ≤ bndK js k
  | 0 => maxL_ge (List.mem_map.2 ⟨j, h, rfl⟩)
  | k + 1 => by rw [bndK_succ]; have := bndK_all h k; omega
/-- A station of the reference's bound. -/
theorem bnd_step {js : List JobT} (hpos : 0 < js.length) (h : ∀ j ∈ js, 0 ≤ allJ j) (k : Nat) : maxJ js (if k = 0 then 0 else bndK js k) js.length = bndK js k := by
  by_cases hk : k = 0
  · subst hk
    rw [if_pos rfl, maxJ_0 hpos h]
    rfl
  · rw [if_neg hk, maxJ_stay fun j hj => bndK_all hj k]
/-- The least of some numbers, as far as the first k say. -/
def minK (l : List Int) (k : Nat) : Int := (l.take k).foldl min (at0 l 0)
theorem minK_succ {l : List Int} {k : Nat} {x : Int} (h : l[k]? = some x) : minK l (k + 1) = min (minK l k) x := by
  unfold minK
  rw [List.take_add_one, h]
  simp
theorem minK_all (l : List Int) : minK l l.length = minL l := by
  unfold minK
  rw [List.take_length]
  cases l with
  | nil => rfl
  | cons x l =>
    show (x :: l).foldl min x = l.foldl min x
    rw [List.foldl_cons, show min x x = x by omega]
theorem sumA_bd {B : Int} : ∀ {l : List Int}, (∀ x ∈ l, 0 ≤ x ∧ x ≤ B) → 0 ≤ sumA l ∧ sumA l ≤ B * l.length
  | [], _ => by simp [sumA_nil]
  | x :: l, h => by
    have h1 := sumA_bd (l := l) fun y hy => h y (by simp [hy])
    have h2 := h x (by simp)
    rw [sumA_cons, List.length_cons, show B * ((l.length + 1 : Nat) : Int) = B * l.length + B by rw [Int.natCast_add, Int.mul_add]; simp]
    omega
/-- When the k-th job of an order starts at a station. -/
def stA (js : List JobT) (m : Nat) (p : List Nat) (k : Nat) : List Int := startsP (jobK js (at0n p k)).2.1 (jobK js (at0n p k)).2.2 (freeP js (List.replicate m 0) (p.take k))
where at0n (p : List Nat) (k : Nat) : Nat := (p[k]?).getD 0
theorem sumA_take_succ (l : List Int) (k : Nat) (h : k < l.length) : sumA (l.take (k + 1)) = sumA (l.take k) + at0 l k := by
  rw [List.take_add_one, List.getElem?_eq_getElem h, sumA_append]
  show _ + sumA [l[k]] = _
  rw [sumA_cons, sumA_nil, at0_some (List.getElem?_eq_getElem h)]
  omega
theorem sumA_drop_succ (l : List Int) (k : Nat) (h : k < l.length) : sumA (l.drop k) = at0 l k + sumA (l.drop (k + 1)) := by
  rw [List.drop_eq_getElem_cons h, sumA_cons, at0_some (List.getElem?_eq_getElem h)]
theorem st_bef {m : Nat} {j : JobT} (hj : JobOk m j) {fr : List Int} {B : Int} (hf : FreeOk m B fr) : ∀ s, s < m → befJ j s ≤ at0 (startsP j.2.1 j.2.2 fr) s
  | 0, h => by
    rw [startsP_0 _ _ _ (by rw [hf.1]; exact h)]
    have := (hf.2 0).1
    simpa [befJ, sumA_nil] using this
  | s + 1, h => by
    rw [startsP_succ _ _ _ _ (by rw [hf.1]; exact h)]
    have ih := st_bef hj hf s (by omega)
    have h1 := sumA_take_succ j.2.1 s (by have := hj.t; omega)
    have h2 := sumA_take_succ j.2.2 s (by have := hj.d; omega)
    unfold befJ at ih ⊢
    omega
theorem st_aft {m : Nat} {j : JobT} (hj : JobOk m j) {fr : List Int} {B : Int} (hf : FreeOk m B fr) : ∀ r s, s + r + 1 = m → at0 (startsP j.2.1 j.2.2 fr) s + at0 j.2.1 s + aftJ j s ≤ at0 (startsP j.2.1 j.2.2 fr) (m - 1) + at0 j.2.1 (m - 1)
  | 0, s, h => by
    have e : s = m - 1 := by omega
    subst e
    unfold aftJ
    rw [List.drop_eq_nil_of_le (by have := hj.t; omega), List.drop_eq_nil_of_le (by have := hj.d; omega), sumA_nil]
    omega
  | r + 1, s, h => by
    have ih := st_aft hj hf r (s + 1) (by omega)
    rw [startsP_succ _ _ _ _ (by rw [hf.1]; omega)] at ih
    have h1 := sumA_drop_succ j.2.1 (s + 1) (by have := hj.t; omega)
    have h2 := sumA_drop_succ j.2.2 s (by have := hj.d; omega)
    unfold aftJ at ih ⊢
    omega
/-- What the k-th job of an order leaves. -/
theorem free_succ {js : List JobT} {m : Nat} (ok : ∀ j ∈ js, JobOk m j) {p : List Nat} (hp : ∀ i ∈ p, i < js.length) {k i : Nat} (h : p[k]? = some i) {s : Nat} (hs : s < m) :
    at0 (freeP js (List.replicate m 0) (p.take (k + 1))) s = at0 (startsP (jobK js i).2.1 (jobK js i).2.2 (freeP js (List.replicate m 0) (p.take k))) s + at0 (jobK js i).2.1 s := by
  rw [take_snoc h, freeP_snoc]
  have := goJ_at (ok _ (jobK_mem (hp i (List.mem_of_getElem? h))).2) (free_take ok hp k).1 s
  rw [if_pos hs] at this
  exact this
theorem st_free {j : JobT} {fr : List Int} : ∀ {m : Nat} {B : Int}, JobOk m j → FreeOk m B fr → ∀ i, at0 fr i ≤ at0 (startsP j.2.1 j.2.2 fr) i := fun hj hf i => (starts_bd hj hf).2 i
theorem minL_le {l : List Int} {y : Int} (h : y ∈ l) : minL l ≤ y := by
  have key : ∀ (l : List Int) (x : Int), l.foldl min x ≤ x ∧ ∀ y ∈ l, l.foldl min x ≤ y := fun l => by
    induction l with
    | nil => exact fun x => ⟨Int.le_refl _, fun y h => by simp at h⟩
    | cons z l ih =>
      intro x
      rw [List.foldl_cons]
      obtain ⟨h1, h2⟩ := ih (min x z)
      refine ⟨by omega, fun y hy => ?_⟩
      rcases List.mem_cons.1 hy with rfl | hy
      · omega
      · exact h2 y hy
  match l, h with
  | x :: l, h =>
    obtain ⟨h1, h2⟩ := key l x
    rcases List.mem_cons.1 h with rfl | h
    · exact h1
    · exact h2 y h
/-- The sum of the minutes of the first k jobs of an order at a station. -/
def ordS (js : List JobT) (p : List Nat) (s : Nat) : Int := sumA (p.map fun i => at0 (jobK js i).2.1 s)
theorem sumA_perm {a b : List Int} (h : a.Perm b) : sumA a = sumA b := by
  induction h with
  | nil => rfl
  | cons x _ ih => rw [sumA_cons, sumA_cons, ih]
  | swap x y l => simp only [sumA_cons]; omega
  | trans _ _ h1 h2 => exact h1.trans h2
theorem permN : ∀ {l m : List Nat}, l.Nodup → (∀ x ∈ l, x ∈ m) → m.length ≤ l.length → l.Perm m
  | [], m, _, _, h => by
    have : m = [] := List.eq_nil_of_length_eq_zero (Nat.le_zero.1 h)
    rw [this]
  | x :: l, m, hn, hs, h => by
    rw [List.nodup_cons] at hn
    have hx : x ∈ m := hs x List.mem_cons_self
    have ih := permN (l := l) (m := m.erase x) hn.2 (fun y hy => (List.mem_erase_of_ne (fun e : y = x => hn.1 (by rw [← e]; exact hy))).2 (hs y (List.mem_cons_of_mem _ hy)))
      (by rw [List.length_erase_of_mem hx]; simp only [List.length_cons] at h; omega)
    exact (ih.cons x).trans (List.perm_cons_erase hx).symm
theorem OrdN.perm {n : Nat} {p : List Nat} (h : OrdN n p) : p.Perm (List.range n) := permN h.nd (fun x hx => List.mem_range.2 (h.lt x hx)) (by rw [List.length_range, h.len]; exact Nat.le_refl _)
theorem ordS_eq {js : List JobT} {p : List Nat} (hp : OrdN js.length p) (s : Nat) : ordS js p s = atS js s := by
  unfold ordS atS
  rw [sumA_perm (hp.perm.map fun i => at0 (jobK js i).2.1 s)]
  congr 1
  refine List.ext_getElem? fun i => ?_
  rw [List.getElem?_map, List.getElem?_map]
  by_cases hi : i < js.length
  · rw [(jobK_mem hi).1, List.getElem?_range hi]
    rfl
  · rw [List.getElem?_eq_none (by rw [List.length_range]; omega), List.getElem?_eq_none (by omega)]
    rfl
theorem bound_le {js : List JobT} {m : Nat} (hm : 0 < m) (ok : ∀ j ∈ js, JobOk m j) (hpos : 0 < js.length) {p : List Nat} (hp : OrdN js.length p) : ∀ k, k ≤ m → bndK js k ≤ endP js m p := by
  have hlast : ∀ (k i : Nat), p[k]? = some i → at0 (startsP (jobK js i).2.1 (jobK js i).2.2 (freeP js (List.replicate m 0) (p.take k))) (m - 1) + at0 (jobK js i).2.1 (m - 1) ≤ endP js m p := fun k i h => by
    rw [← free_succ ok hp.lt h (by omega)]
    have h1 := endP_mono (m := m) ok (b := p.take (k + 1)) (q := p.drop (k + 1)) (fun i hi => hp.lt i (List.mem_of_mem_take hi)) (fun i hi => hp.lt i (List.mem_of_mem_drop hi))
    rw [List.take_append_drop] at h1
    refine Int.le_trans ?_ h1
    unfold endP lastI
    rw [(free_take ok hp.lt (k + 1)).1]
    exact Int.le_refl _
  have hall : ∀ j ∈ js, allJ j ≤ endP js m p := fun j hj => by
    obtain ⟨i, hi⟩ := List.mem_iff_getElem?.1 hj
    have hil := (List.getElem?_eq_some_iff.1 hi).1
    obtain ⟨k, hk⟩ := hp.all hil
    have ej : jobK js i = j := Option.some.inj ((jobK_mem hil).1.symm.trans hi)
    have h1 := hlast k i hk
    rw [ej] at h1
    have h2 := st_aft (ok j hj) (free_take ok hp.lt k) (m - 1) 0 (by omega)
    have h3 := st_bef (ok j hj) (free_take ok hp.lt k) 0 hm
    have h4 := allJ_eq (ok j hj) hm
    omega
  have hst : ∀ s, s < m → lowS js s ≤ endP js m p := fun s hs => by
    have hmb : ∀ j ∈ js, minL (js.map fun j => befJ j s) ≤ befJ j s := fun j hj => minL_le (List.mem_map.2 ⟨j, hj, rfl⟩)
    have hma : ∀ j ∈ js, minL (js.map fun j => aftJ j s) ≤ aftJ j s := fun j hj => minL_le (List.mem_map.2 ⟨j, hj, rfl⟩)
    have hsum : ∀ k, k + 1 ≤ p.length → minL (js.map fun j => befJ j s) + ordS js (p.take (k + 1)) s ≤ at0 (freeP js (List.replicate m 0) (p.take (k + 1))) s := fun k => by
      induction k with
      | zero =>
        intro hk
        obtain ⟨i, hi⟩ : ∃ i, p[0]? = some i := ⟨_, List.getElem?_eq_getElem (by omega)⟩
        have hj := (jobK_mem (hp.lt i (List.mem_of_getElem? hi))).2
        rw [free_succ ok hp.lt hi hs, take_snoc hi]
        have h1 := st_bef (ok _ hj) (free_take ok hp.lt 0) s hs
        have h2 := hmb _ hj
        simp only [ordS, List.take_zero, List.nil_append, List.map_cons, List.map_nil, sumA_cons, sumA_nil]
        simp only [List.take_zero] at h1
        omega
      | succ k ih =>
        intro hk
        have ih := ih (by omega)
        obtain ⟨i, hi⟩ : ∃ i, p[k + 1]? = some i := ⟨_, List.getElem?_eq_getElem (by omega)⟩
        have hj := (jobK_mem (hp.lt i (List.mem_of_getElem? hi))).2
        rw [free_succ ok hp.lt hi hs, take_snoc hi]
        have h1 := st_free (ok _ hj) (free_take ok hp.lt (k + 1)) s
        have e : ordS js (p.take (k + 1) ++ [i]) s = ordS js (p.take (k + 1)) s + at0 (jobK js i).2.1 s := by
          unfold ordS
          rw [List.map_append, sumA_append]
          show _ + sumA [at0 (jobK js i).2.1 s] = _
          rw [sumA_cons, sumA_nil]
          omega
        rw [e]
        omega
    have hpl := hp.len
    obtain ⟨i, hi⟩ : ∃ i, p[p.length - 1]? = some i := ⟨_, List.getElem?_eq_getElem (by omega)⟩
    have hj := (jobK_mem (hp.lt i (List.mem_of_getElem? hi))).2
    have h1 := hsum (p.length - 1) (by omega)
    rw [free_succ ok hp.lt hi hs] at h1
    have e : p.take (p.length - 1 + 1) = p := by rw [show p.length - 1 + 1 = p.length by omega, List.take_length]
    rw [e, ordS_eq hp] at h1
    have h2 := st_aft (ok _ hj) (free_take ok hp.lt (p.length - 1)) (m - 1 - s) s (by omega)
    have h3 := hlast _ i hi
    have h4 := hma _ hj
    unfold lowS
    omega
  intro k
  induction k with
  | zero =>
    intro _
    show maxL (js.map allJ) ≤ _
    have key : ∀ (l : List JobT), 0 < l.length → (∀ j ∈ l, allJ j ≤ endP js m p) → maxL (l.map allJ) ≤ endP js m p := fun l hl h => by
      match l, hl with
      | j :: l, _ =>
        have e : maxL ((j :: l).map allJ) = l.foldl (fun e j => max e (allJ j)) (allJ j) := foldmax_map allJ l _
        rw [e]
        have gen : ∀ (l : List JobT) (x : Int), x ≤ endP js m p → (∀ j ∈ l, allJ j ≤ endP js m p) → l.foldl (fun e j => max e (allJ j)) x ≤ endP js m p := fun l => by
          induction l with
          | nil => exact fun x hx _ => hx
          | cons y l ih =>
            intro x hx hl
            rw [List.foldl_cons]
            refine ih _ ?_ fun j hj => hl j (by simp [hj])
            have := hl y (by simp)
            omega
        exact gen l _ (h j (by simp)) fun k hk => h k (by simp [hk])
    exact key js hpos hall
  | succ k ih =>
    intro hk
    rw [bndK_succ]
    have := ih (by omega)
    have := hst k (by omega)
    omega
theorem numE_mk {S : List (List Int)} {n m : Nat} (hn : S.length = n) (h : ∀ x ∈ S, x.length = m ∧ ∀ y ∈ x, 0 ≤ y ∧ y ≤ 999999999) : numE S n m = 0 := by
  unfold numE
  rw [if_neg (fun h => h hn), if_neg (fun ⟨x, h1, h2⟩ => h2 (h x h1).1)]
  refine orL_eq0.2 fun e he => ?_
  obtain ⟨x, hx, rfl⟩ := List.mem_map.1 he
  unfold allE
  rw [if_pos]
  exact fun y hy => (h x hx).2 y hy
theorem at0_mem {l : List Int} {i : Nat} (h : i < l.length) : at0 l i ∈ l := by
  rw [at0_some (List.getElem?_eq_getElem h)]
  exact List.getElem_mem h
/-- The numbers of a schedule. -/
theorem sch_num {js : List JobT} {m : Nat} (ok : ∀ j ∈ js, JobOk m j) (hfew : js.length ≤ 32) {p : List Nat} (hp : OrdN js.length p) : ∀ x ∈ schP js m p, x.length = m ∧ ∀ y ∈ x, 0 ≤ y ∧ y ≤ 999999 := fun x hx => by
  have hSl : (schP js m p).length = js.length := schK_len ..
  obtain ⟨i, hi⟩ := List.mem_iff_getElem?.1 hx
  have hil := (List.getElem?_eq_some_iff.1 hi).1
  obtain ⟨k, hk⟩ := hp.all (i := i) (by omega)
  obtain ⟨h1, h2, h3⟩ := sch_at ok hp hk
  obtain rfl := Option.some.inj (hi.symm.trans h1)
  refine ⟨h2, fun y hy => ?_⟩
  obtain ⟨q, hq⟩ := List.mem_iff_getElem?.1 hy
  have h4 := h3 q
  rw [at0_some hq, hp.len] at h4
  omega
theorem sch_early {js : List JobT} {m : Nat} (ok : ∀ j ∈ js, JobOk m j) {p : List Nat} (hp : OrdN js.length p) : ¬ EarlyAny js (schP js m p) := by
  rintro ⟨i, j, x, hj, hx, s, hs, hlt⟩
  have hil := (List.getElem?_eq_some_iff.1 hj).1
  obtain ⟨k, hk⟩ := hp.all hil
  obtain ⟨h1, h2, h3⟩ := sch_at ok hp hk
  obtain rfl := Option.some.inj (hx.symm.trans h1)
  obtain rfl : jobK js i = j := Option.some.inj ((jobK_mem hil).1.symm.trans hj)
  rw [startsP_len] at hs
  rw [startsP_succ _ _ _ _ hs] at hlt
  omega
/-- Of two jobs of an order the later one starts at a station when the earlier one is done there. -/
theorem sch_gap {js : List JobT} {m : Nat} (ok : ∀ j ∈ js, JobOk m j) {p : List Nat} (hp : OrdN js.length p) {k k' i i' : Nat} (h : p[k]? = some i) (h' : p[k']? = some i') (hk : k < k') {s : Nat} (hs : s < m) :
    at0 (startsP (jobK js i).2.1 (jobK js i).2.2 (freeP js (List.replicate m 0) (p.take k))) s + at0 (jobK js i).2.1 s ≤ at0 (startsP (jobK js i').2.1 (jobK js i').2.2 (freeP js (List.replicate m 0) (p.take k'))) s := by
  rw [← free_succ ok hp.lt h hs]
  refine Int.le_trans ?_ (st_free (ok _ (jobK_mem (hp.lt i' (List.mem_of_getElem? h'))).2) (free_take ok hp.lt k') s)
  have e : p.take k' = p.take (k + 1) ++ (p.take k').drop (k + 1) := by
    have h2 := List.take_append_drop (k + 1) (p.take k')
    rw [List.take_take, show min (k + 1) k' = k + 1 by omega] at h2
    exact h2.symm
  rw [e, freeP_append]
  exact (freeP_bd ok _ (free_take ok hp.lt (k + 1)) fun i hi => hp.lt i (List.mem_of_mem_take (List.mem_of_mem_drop hi))).2 s
theorem sch_hit {js : List JobT} {m : Nat} (ok : ∀ j ∈ js, JobOk m j) {p : List Nat} (hp : OrdN js.length p) : ¬ HitAny js (schP js m p) m := by
  rintro ⟨s, hs, i, q, a, c, hqi, ha, hc, hh⟩
  have hSl : (schP js m p).length = js.length := schK_len ..
  have hUl := useK_len (s := s) hSl
  have hil := (List.getElem?_eq_some_iff.1 ha).1
  have hql := (List.getElem?_eq_some_iff.1 hc).1
  obtain ⟨k, hk⟩ := hp.all (i := i) (by omega)
  obtain ⟨k', hk'⟩ := hp.all (i := q) (by omega)
  have h1 := (sch_at ok hp hk).1
  have h2 := (sch_at ok hp hk').1
  obtain rfl := Option.some.inj (ha.symm.trans (useK_at (jobK_mem (by omega : i < js.length)).1 h1))
  obtain rfl := Option.some.inj (hc.symm.trans (useK_at (jobK_mem (by omega : q < js.length)).1 h2))
  unfold HitU at hh
  dsimp only at hh
  rcases Nat.lt_trichotomy k k' with h | h | h
  · have := sch_gap ok hp hk hk' h hs
    omega
  · subst h
    have := Option.some.inj (hk.symm.trans hk')
    omega
  · have := sch_gap ok hp hk' hk h hs
    omega
/-- A schedule in which one start is a minute earlier. -/
def earlyS (S : List (List Int)) (i c : Nat) : List (List Int) := S.set i (((S[i]?).getD []).set c (at0 ((S[i]?).getD []) c - 1))
theorem sch_minute {js : List JobT} {m : Nat} (ok : ∀ j ∈ js, JobOk m j) {p : List Nat} (hp : OrdN js.length p) {i c : Nat} (hi : i < js.length) (hc : c < m) (hb : ∀ j ∈ js, 0 < at0 j.2.1 c)
    (h1 : numE (earlyS (schP js m p) i c) js.length m = 0) (h2 : ¬ EarlyAny js (earlyS (schP js m p) i c)) (h3 : ¬ HitAny js (earlyS (schP js m p) i c) m) : False := by
  have hSl : (schP js m p).length = js.length := schK_len ..
  obtain ⟨k, hk⟩ := hp.all hi
  obtain ⟨hx, hxo⟩ := sch_at ok hp hk
  obtain ⟨hj, hjm⟩ := jobK_mem hi
  have hf := free_take ok hp.lt k
  have hE : (earlyS (schP js m p) i c)[i]? = some ((startsP (jobK js i).2.1 (jobK js i).2.2 (freeP js (List.replicate m 0) (p.take k))).set c (at0 (startsP (jobK js i).2.1 (jobK js i).2.2 (freeP js (List.replicate m 0) (p.take k))) c - 1)) := by
    unfold earlyS
    rw [List.getElem?_set_self (by omega), hx]
    rfl
  generalize hX : startsP (jobK js i).2.1 (jobK js i).2.2 (freeP js (List.replicate m 0) (p.take k)) = x at *
  have hxl : x.length = m := hxo.1
  have hnum := ((numE_0 h1).2 _ (List.mem_of_getElem? hE)).2 (at0 x c - 1) (by
    have := List.mem_of_getElem? (List.getElem?_set_self (a := at0 x c - 1) (l := x) (i := c) (by omega))
    exact this)
  have hxc : at0 x c = max (at0 (freeP js (List.replicate m 0) (p.take k)) c) (if c = 0 then 0 else at0 x (c - 1) + at0 (jobK js i).2.1 (c - 1) + at0 (jobK js i).2.2 (c - 1)) := by
    cases c with
    | zero =>
      rw [if_pos rfl, ← hX, startsP_0 _ _ _ (by rw [hf.1]; exact hc)]
      have := (hf.2 0).1
      omega
    | succ c =>
      rw [if_neg (by omega), ← hX, startsP_succ _ _ _ _ (by rw [hf.1]; exact hc), Nat.add_sub_cancel]
  by_cases hcase : at0 (freeP js (List.replicate m 0) (p.take k)) c < at0 x c
  · cases c with
    | zero =>
      rw [if_pos rfl] at hxc
      have := (hf.2 0).1
      omega
    | succ c =>
      rw [if_neg (by omega), Nat.add_sub_cancel] at hxc
      refine h2 ⟨i, _, _, hj, hE, c, by rw [List.length_set]; omega, ?_⟩
      rw [at0_set (by omega), at0_set (by omega), if_pos rfl, if_neg (by omega)]
      omega
  · have hfc : at0 x c = at0 (freeP js (List.replicate m 0) (p.take k)) c := by omega
    cases k with
    | zero =>
      rw [List.take_zero] at hfc
      have h0 : at0 (freeP js (List.replicate m 0) []) c = 0 := by
        have := (free0_ok m).2 c
        unfold freeP
        rw [List.foldl_nil]
        omega
      omega
    | succ k =>
      obtain ⟨q, hq⟩ : ∃ q, p[k]? = some q := ⟨_, List.getElem?_eq_getElem (by have := (List.getElem?_eq_some_iff.1 hk).1; omega)⟩
      have hql := hp.lt q (List.mem_of_getElem? hq)
      have hne : q ≠ i := fun e => by
        subst e
        have := nodup_inj hp.nd hq hk
        omega
      obtain ⟨hjq, hjqm⟩ := jobK_mem hql
      have hy := (sch_at ok hp hq).1
      have hE2 : (earlyS (schP js m p) i c)[q]? = some (startsP (jobK js q).2.1 (jobK js q).2.2 (freeP js (List.replicate m 0) (p.take k))) := by
        unfold earlyS
        rw [List.getElem?_set_ne (fun e => hne e.symm), hy]
      rw [free_succ ok hp.lt hq hc] at hfc
      have hb1 := hb _ hjm
      have hb2 := hb _ hjqm
      have hU1 := useK_at (s := c) hj hE
      have hU2 := useK_at (s := c) hjq hE2
      rw [at0_set (by omega), if_pos rfl] at hU1
      refine h3 ⟨c, hc, ?_⟩
      rcases Nat.lt_or_gt_of_ne hne with h | h
      · refine ⟨i, q, _, _, h, hU1, hU2, ?_⟩
        unfold HitU
        dsimp only
        omega
      · refine ⟨q, i, _, _, h, hU2, hU1, ?_⟩
        unfold HitU
        dsimp only
        omega
theorem ordP_mem {n : Nat} : ∀ (f : Nat) (b q : List Nat), q.length = f → (b ++ q).Nodup → (∀ i ∈ q, i < n) → b ++ q ∈ ordP n f b
  | 0, b, q, hq, _, _ => by
    obtain rfl := List.eq_nil_of_length_eq_zero hq
    simp [ordP]
  | f + 1, b, i :: q, hq, hn, hl => by
    simp only [ordP, List.mem_flatMap, List.mem_range]
    refine ⟨i, hl i (by simp), ?_⟩
    have hi : i ∉ b := fun h => by
      rw [List.nodup_append] at hn
      exact hn.2.2 i h i (by simp) rfl
    rw [if_neg hi]
    have h := ordP_mem f (b ++ [i]) q (by simpa using hq) (by simpa using hn) (fun k hk => hl k (by simp [hk]))
    simpa using h
theorem ordP_all {n : Nat} {p : List Nat} (h : OrdN n p) : p ∈ ordP n n [] := by
  have := ordP_mem (n := n) n [] p h.len (by simpa using h.nd) h.lt
  simpa using this
theorem pick_mem (E : List Nat → Int) : ∀ (l : List (List Nat)) (o : List Nat), pickP E l o = o ∨ pickP E l o ∈ l
  | [], o => .inl rfl
  | p :: l, o => by
    unfold pickP
    rw [List.foldl_cons]
    split
    · rcases pick_mem E l p with h | h
      · exact .inr (by unfold pickP at h; rw [h]; simp)
      · exact .inr (by unfold pickP at h; simp [h])
    · rcases pick_mem E l o with h | h
      · exact .inl h
      · exact .inr (by unfold pickP at h; simp [h])
theorem pick_le (E : List Nat → Int) : ∀ (l : List (List Nat)) (o : List Nat), E (pickP E l o) ≤ E o ∧ ∀ p ∈ l, E (pickP E l o) ≤ E p
  | [], o => ⟨Int.le_refl _, fun p h => by simp at h⟩
  | p :: l, o => by
    unfold pickP
    rw [List.foldl_cons]
    have h := pick_le E l (if E p < E o then p else o)
    unfold pickP at h
    obtain ⟨h1, h2⟩ := h
    have h3 : E (if E p < E o then p else o) ≤ E o ∧ E (if E p < E o then p else o) ≤ E p := by split <;> omega
    refine ⟨Int.le_trans h1 h3.1, fun q hq => ?_⟩
    rcases List.mem_cons.1 hq with rfl | hq
    · exact Int.le_trans h1 h3.2
    · exact h2 q hq
theorem ordP_head {n : Nat} : ∃ o, (ordP n n [])[0]? = some o := by
  have h : OrdN n (List.range n) := ⟨List.nodup_range, fun i hi => List.mem_range.1 hi, List.length_range⟩
  have := List.length_pos_of_mem (ordP_all h)
  exact ⟨_, List.getElem?_eq_getElem this⟩
/-- The best order: an order, and none ends earlier. -/
theorem best_pick {js : List JobT} {m : Nat} (ok : ∀ j ∈ js, JobOk m j) : ∃ o b, (ordP js.length js.length [])[0]? = some o ∧ b = pickP (endP js m) (ordP js.length js.length []) o ∧ expl js js.length [] (List.replicate m 0) none = some (b, endP js m b) ∧ OrdN js.length b ∧ ∀ p, OrdN js.length p → endP js m b ≤ endP js m p := by
  obtain ⟨o, ho⟩ := ordP_head (n := js.length)
  refine ⟨o, _, ho, rfl, ?_, ?_, fun p hp => (pick_le _ _ _).2 p (ordP_all hp)⟩
  · have h := expl_scan ok js.length [] none (by simp) (by simp)
    rw [scan_pick js m ho] at h
    exact h
  · rcases pick_mem (endP js m) (ordP js.length js.length []) o with h | h
    · rw [h]; exact ordP_ord (List.mem_of_getElem? ho)
    · exact ordP_ord h
end Go.Proofs
