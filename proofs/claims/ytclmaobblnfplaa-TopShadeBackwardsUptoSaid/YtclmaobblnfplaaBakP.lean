/- Jobs backwards: a schedule backwards ends just as late, so do the best one and the bound; longer drying and a job more make no end earlier; costs do not depend on the way; no world. -/
import Derived.Test.YtclmaobblnfplaaOrdA
import Derived.Test.YtclmaobblnfplaaJbK
namespace Go.Proofs
open Go.RowKit
set_option maxHeartbeats 4000000
set_option maxRecDepth 100000
def backJ (j : JobT) : JobT := (j.1, j.2.1.reverse, j.2.2.reverse)
def backL (js : List JobT) : List JobT := js.map backJ
def slowJ (e : Int) (j : JobT) : JobT := (j.1, j.2.1, j.2.2.map fun n => min 1440 (n + e))
def slowL (e : Int) (js : List JobT) : List JobT := js.map (slowJ e)
theorem backL_len (js : List JobT) : (backL js).length = js.length := by simp [backL]
theorem slowL_len (e : Int) (js : List JobT) : (slowL e js).length = js.length := by simp [slowL]
theorem backJ_back (j : JobT) : backJ (backJ j) = j := by
  unfold backJ
  simp
theorem backL_back (js : List JobT) : backL (backL js) = js := by
  unfold backL
  rw [List.map_map]
  exact (List.map_congr_left fun j _ => backJ_back j).trans (List.map_id js)
theorem at0_rev {l : List Int} {i : Nat} (h : i < l.length) : at0 l.reverse i = at0 l (l.length - 1 - i) := by
  unfold at0
  rw [List.getElem?_reverse h]
theorem backJ_ok {m : Nat} {j : JobT} (h : JobOk m j) : JobOk m (backJ j) := by
  refine ⟨?_, ?_, h.few, fun x hx => ?_, fun x hx => ?_⟩
  · show j.2.1.reverse.length = m
    rw [List.length_reverse]; exact h.t
  · show j.2.2.reverse.length + 1 = m
    rw [List.length_reverse]; exact h.d
  · exact h.tb x (List.mem_reverse.1 hx)
  · exact h.db x (List.mem_reverse.1 hx)
theorem slowJ_ok {m : Nat} {j : JobT} {e : Int} (he : 0 ≤ e) (h : JobOk m j) : JobOk m (slowJ e j) := by
  refine ⟨h.t, ?_, h.few, h.tb, fun x hx => ?_⟩
  · show (j.2.2.map _).length + 1 = m
    rw [List.length_map]; exact h.d
  · obtain ⟨y, hy, rfl⟩ := List.mem_map.1 hx
    have := h.db y hy
    omega
theorem jobX_iff {J : List JobT} : JobX J 0 ↔ 0 < J.length ∧ J.length ≤ 32 ∧ ∀ (k : Nat) (t : JobT), J[k]? = some t → jobE J k t = 0 := by
  constructor
  · rintro (⟨-, e⟩ | ⟨h1, ⟨-, e⟩ | ⟨h2, h3⟩⟩)
    · cases e
    · cases e
    · rcases h3 with ⟨-, h4⟩ | ⟨h4, -⟩
      · exact ⟨h1, h2, h4⟩
      · exact absurd rfl h4
  · rintro ⟨h1, h2, h3⟩
    exact .inr ⟨h1, .inr ⟨h2, .inl ⟨rfl, h3⟩⟩⟩
theorem jobE_iff {J : List JobT} {k : Nat} {t : JobT} : jobE J k t = 0 ↔ nameE t.1 = 0 ∧ twiceE t.1 ((J.take k).map (·.1)) = 0 ∧ timesE t.2.1 t.2.2 (stN J) = 0 := by
  unfold jobE
  rw [orL_eq0]
  simp
theorem times_0 {m : Nat} {j : JobT} (h : JobOk m j) : timesE j.2.1 j.2.2 m = 0 := by
  unfold timesE
  refine orL_eq0.2 fun e he => ?_
  have h1 := h.t
  have h2 := h.d
  have h3 := h.few
  simp only [List.mem_cons, List.not_mem_nil, or_false] at he
  rcases he with rfl | rfl | rfl | rfl
  · rw [if_neg (by omega)]
  · rw [if_neg (by omega)]
  · unfold allE; rw [if_pos h.tb]
  · unfold allE; rw [if_pos h.db]
theorem stN_map {J : List JobT} {f : JobT → JobT} (hf : ∀ j ∈ J, (f j).2.1.length = j.2.1.length) : stN (J.map f) = stN J := by
  unfold stN
  rw [List.getElem?_map]
  cases h : J[0]? with
  | none => rfl
  | some j => exact hf j (List.mem_of_getElem? h)
theorem jobX_map {J : List JobT} {f : JobT → JobT} (h : JobX J 0) (hf : ∀ j ∈ J, (f j).1 = j.1 ∧ (f j).2.1.length = j.2.1.length ∧ JobOk (stN J) (f j)) : JobX (J.map f) 0 := by
  obtain ⟨h1, h2, h3⟩ := jobX_iff.1 h
  have hst : stN (J.map f) = stN J := stN_map fun j hj => (hf j hj).2.1
  refine jobX_iff.2 ⟨by simpa using h1, by simpa using h2, fun k t ht => ?_⟩
  rw [List.getElem?_map] at ht
  obtain ⟨j, hj, rfl⟩ := Option.map_eq_some_iff.1 ht
  obtain ⟨g1, g2, g3⟩ := jobE_iff.1 (h3 k j hj)
  obtain ⟨f1, f2, f3⟩ := hf j (List.mem_of_getElem? hj)
  refine jobE_iff.2 ⟨by rw [f1]; exact g1, ?_, by rw [hst]; exact times_0 f3⟩
  rw [f1, ← List.map_take, List.map_map]
  have e : (J.take k).map ((·.1) ∘ f) = (J.take k).map (·.1) := List.map_congr_left fun x hx => (hf x (List.mem_of_mem_take hx)).1
  rw [e]
  exact g2
theorem jobX_back {J : List JobT} (h : JobX J 0) : JobX (backL J) 0 :=
  jobX_map h fun j hj => ⟨rfl, by show j.2.1.reverse.length = _; rw [List.length_reverse], backJ_ok (h.ok.ok j hj)⟩
theorem jobX_slow {J : List JobT} {e : Int} (he : 0 ≤ e) (h : JobX J 0) : JobX (slowL e J) 0 :=
  jobX_map h fun j hj => ⟨rfl, rfl, slowJ_ok he (h.ok.ok j hj)⟩
theorem stN_back (J : List JobT) : stN (backL J) = stN J := stN_map fun j _ => by show j.2.1.reverse.length = _; rw [List.length_reverse]
theorem stN_slow (J : List JobT) (e : Int) : stN (slowL e J) = stN J := stN_map fun _ _ => rfl
theorem stN_take {J : List JobT} {n : Nat} (hn : 0 < n) : stN (J.take n) = stN J := by
  unfold stN
  rw [List.getElem?_take, if_pos hn]
theorem jobX_take {J : List JobT} (h : JobX J 0) {n : Nat} (hn : 0 < n) (hl : n ≤ J.length) : JobX (J.take n) 0 := by
  obtain ⟨h1, h2, h3⟩ := jobX_iff.1 h
  refine jobX_iff.2 ⟨by rw [List.length_take]; omega, by rw [List.length_take]; omega, fun k t ht => ?_⟩
  rw [List.getElem?_take] at ht
  split at ht
  · rename_i hk
    obtain ⟨g1, g2, g3⟩ := jobE_iff.1 (h3 k t ht)
    refine jobE_iff.2 ⟨g1, ?_, by rw [stN_take hn]; exact g3⟩
    rw [List.take_take, Nat.min_eq_left (by omega)]
    exact g2
  · cases ht
theorem OrdN.rev {n : Nat} {p : List Nat} (h : OrdN n p) : OrdN n p.reverse := ⟨(List.reverse_perm p).nodup_iff.2 h.nd, fun i hi => h.lt i (List.mem_reverse.1 hi), by rw [List.length_reverse]; exact h.len⟩
theorem ints_rev (p : List Nat) : ints p.reverse = (ints p).reverse := by unfold ints; rw [List.map_reverse]
theorem jobK_map {js : List JobT} (f : JobT → JobT) {i : Nat} (h : i < js.length) : jobK (js.map f) i = f (jobK js i) := by
  unfold jobK
  rw [List.getElem?_map, List.getElem?_eq_getElem h]
  rfl
theorem goJ_len (j : JobT) (fr : List Int) : (goJ j fr).length = fr.length := by
  unfold goJ endsP
  rw [preE_len, startsP_len]
theorem freeP_len (js : List JobT) : ∀ (p : List Nat) (fr : List Int), (freeP js fr p).length = fr.length
  | [], _ => rfl
  | i :: p, fr => by
    show (freeP js (goJ ((js[i]?).getD jobD) fr) p).length = _
    rw [freeP_len js p, goJ_len]
theorem starts_mono {m : Nat} {t d d' fr fr' : List Int} (hf : fr.length = m) (hf' : fr'.length = m) (hd : ∀ i, i + 1 < m → at0 d i ≤ at0 d' i) (h : ∀ i, i < m → at0 fr i ≤ at0 fr' i) : ∀ s, s < m → at0 (startsP t d fr) s ≤ at0 (startsP t d' fr') s
  | 0, hs => by
    rw [startsP_0 _ _ _ (by omega), startsP_0 _ _ _ (by omega)]
    exact h 0 hs
  | s + 1, hs => by
    rw [startsP_succ _ _ _ _ (by omega), startsP_succ _ _ _ _ (by omega)]
    have h1 := starts_mono (t := t) hf hf' hd h s (by omega)
    have h2 := hd s hs
    have h3 := h (s + 1) hs
    omega
theorem goJ_mono {m : Nat} {j j' : JobT} (hj : JobOk m j) (hj' : JobOk m j') (ht : j'.2.1 = j.2.1) (hd : ∀ i, i + 1 < m → at0 j.2.2 i ≤ at0 j'.2.2 i) {fr fr' : List Int} (hf : fr.length = m) (hf' : fr'.length = m) (h : ∀ i, i < m → at0 fr i ≤ at0 fr' i) : ∀ s, s < m → at0 (goJ j fr) s ≤ at0 (goJ j' fr') s := fun s hs => by
  rw [goJ_at hj hf, goJ_at hj' hf', ht]
  have := starts_mono (t := j.2.1) hf hf' hd h s hs
  omega
theorem freeP_mono {js js' : List JobT} {m : Nat} (hr : ∀ i, i < js.length → JobOk m (jobK js i) ∧ JobOk m (jobK js' i) ∧ (jobK js' i).2.1 = (jobK js i).2.1 ∧ ∀ q, q + 1 < m → at0 (jobK js i).2.2 q ≤ at0 (jobK js' i).2.2 q) : ∀ (p : List Nat) (fr fr' : List Int), (∀ i ∈ p, i < js.length) → fr.length = m → fr'.length = m → (∀ i, i < m → at0 fr i ≤ at0 fr' i) → ∀ s, s < m → at0 (freeP js fr p) s ≤ at0 (freeP js' fr' p) s
  | [], _, _, _, _, _, h => h
  | i :: p, fr, fr', hp, hf, hf', h => by
    obtain ⟨h1, h2, h3, h4⟩ := hr i (hp i (by simp))
    exact freeP_mono hr p _ _ (fun k hk => hp k (by simp [hk])) (by rw [goJ_len]; exact hf) (by rw [goJ_len]; exact hf') (goJ_mono h1 h2 h3 h4 hf hf' h)
theorem endP_at (js : List JobT) (m : Nat) (p : List Nat) : endP js m p = at0 (freeP js (List.replicate m 0) p) (m - 1) := by
  unfold endP lastI
  rw [freeP_len, List.length_replicate]
/-- With longer drying no end is earlier. -/
theorem slow_le {js : List JobT} {m : Nat} {e : Int} (hm : 0 < m) (he : 0 ≤ e) (ok : ∀ j ∈ js, JobOk m j) {p : List Nat} (hp : OrdN js.length p) : endP js m p ≤ endP (slowL e js) m p := by
  rw [endP_at, endP_at]
  refine freeP_mono (m := m) (fun i hi => ?_) p _ _ hp.lt (by simp) (by simp) (fun _ _ => Int.le_refl _) _ (by omega)
  have hj := ok _ (jobK_mem hi).2
  rw [slowL, jobK_map _ hi]
  refine ⟨hj, slowJ_ok he hj, rfl, fun q hq => ?_⟩
  have hl : q < (jobK js i).2.2.length := by have := hj.d; omega
  show _ ≤ at0 ((jobK js i).2.2.map fun n => min 1440 (n + e)) q
  have hy : (jobK js i).2.2[q]? = some (jobK js i).2.2[q] := List.getElem?_eq_getElem hl
  rw [at0_some hy, at0_some (x := min 1440 ((jobK js i).2.2[q] + e)) (by rw [List.getElem?_map, hy]; rfl)]
  have := hj.db _ (List.getElem_mem hl)
  omega
theorem freeP_filter {js : List JobT} {m : Nat} (ok : ∀ j ∈ js, JobOk m j) (f : Nat → Bool) : ∀ (p : List Nat) (fr fr' : List Int) (B : Int), (∀ i ∈ p, i < js.length) → fr.length = m → FreeOk m B fr' → (∀ i, i < m → at0 fr i ≤ at0 fr' i) → ∀ s, s < m → at0 (freeP js fr (p.filter f)) s ≤ at0 (freeP js fr' p) s
  | [], _, _, _, _, _, _, h => h
  | i :: p, fr, fr', B, hp, hf, hf', h => by
    have hj := ok _ (jobK_mem (hp i (by simp))).2
    obtain ⟨g1, g2⟩ := go_bd hj hf'
    rw [List.filter_cons]
    split
    · exact freeP_filter ok f p _ _ _ (fun k hk => hp k (by simp [hk])) (by rw [goJ_len]; exact hf) g1 (goJ_mono hj hj rfl (fun _ _ => Int.le_refl _) hf hf'.1 h)
    · exact freeP_filter ok f p _ _ _ (fun k hk => hp k (by simp [hk])) hf g1 fun q hq => Int.le_trans (h q hq) (g2 q)
theorem freeP_take_list {js : List JobT} {n : Nat} : ∀ (p : List Nat) (fr : List Int), (∀ i ∈ p, i < n) → freeP (js.take n) fr p = freeP js fr p
  | [], _, _ => rfl
  | i :: p, fr, h => by
    have e : (js.take n)[i]? = js[i]? := by rw [List.getElem?_take, if_pos (h i (by simp))]
    show freeP (js.take n) (goJ (((js.take n)[i]?).getD jobD) fr) p = freeP js (goJ ((js[i]?).getD jobD) fr) p
    rw [e]
    exact freeP_take_list p _ fun k hk => h k (by simp [hk])
/-- Without its last job an order ends no later. -/
theorem less_le {js : List JobT} {m : Nat} (hm : 0 < m) (ok : ∀ j ∈ js, JobOk m j) {p : List Nat} (hp : OrdN js.length p) (hl : 0 < js.length) : ∃ q, OrdN (js.length - 1) q ∧ endP (js.take (js.length - 1)) m q ≤ endP js m p := by
  have hlt : ∀ i ∈ p.filter (fun i => decide (i ≠ js.length - 1)), i < js.length - 1 := fun i hi => by
    obtain ⟨h1, h2⟩ := List.mem_filter.1 hi
    have := hp.lt i h1
    have := of_decide_eq_true h2
    omega
  refine ⟨p.filter (fun i => decide (i ≠ js.length - 1)), ⟨hp.nd.filter _, hlt, ?_⟩, ?_⟩
  · have h1 := lenN (m := List.range (js.length - 1)) (hp.nd.filter fun i => decide (i ≠ js.length - 1)) fun i hi => List.mem_range.2 (hlt i hi)
    have h2 := lenN (m := p.filter (fun i => decide (i ≠ js.length - 1)) ++ [js.length - 1]) hp.nd fun i hi => by
      by_cases h : i = js.length - 1
      · rw [h]; simp
      · exact List.mem_append.2 (.inl (List.mem_filter.2 ⟨hi, decide_eq_true h⟩))
    rw [List.length_range] at h1
    rw [List.length_append, List.length_singleton, hp.len] at h2
    omega
  · rw [endP_at, endP_at, freeP_take_list _ _ hlt]
    exact freeP_filter ok _ p _ _ 0 hp.lt (by simp) (free0_ok m) (fun _ _ => Int.le_refl _) _ (by omega)
/-- No start is later than in any schedule that keeps to the order and to the drying. -/
theorem least_ok {js : List JobT} {m : Nat} (ok : ∀ j ∈ js, JobOk m j) {p : List Nat} (hp : ∀ i ∈ p, i < js.length) {X : Nat → Nat → Int} (h0 : ∀ s, s < m → 0 ≤ X 0 s)
    (h1 : ∀ (k i s : Nat), p[k]? = some i → k + 1 < p.length → s < m → X k s + at0 (jobK js i).2.1 s ≤ X (k + 1) s)
    (h2 : ∀ (k i s : Nat), p[k]? = some i → s + 1 < m → X k s + at0 (jobK js i).2.1 s + at0 (jobK js i).2.2 s ≤ X k (s + 1)) :
    ∀ (k i : Nat), p[k]? = some i → ∀ s, s < m → at0 (startsP (jobK js i).2.1 (jobK js i).2.2 (freeP js (List.replicate m 0) (p.take k))) s ≤ X k s := fun k => by
  have inner : ∀ (k i : Nat), p[k]? = some i → (∀ s, s < m → at0 (freeP js (List.replicate m 0) (p.take k)) s ≤ X k s) → ∀ s, s < m → at0 (startsP (jobK js i).2.1 (jobK js i).2.2 (freeP js (List.replicate m 0) (p.take k))) s ≤ X k s := fun k i hi hf s => by
    have hl : (freeP js (List.replicate m 0) (p.take k)).length = m := by rw [freeP_len, List.length_replicate]
    induction s with
    | zero =>
      intro hs
      rw [startsP_0 _ _ _ (by omega)]
      exact hf 0 hs
    | succ s ih =>
      intro hs
      rw [startsP_succ _ _ _ _ (by omega)]
      have g1 := ih (by omega)
      have g2 := hf (s + 1) hs
      have g3 := h2 k i s hi hs
      omega
  induction k with
  | zero =>
    intro i hi
    refine inner 0 i hi fun s hs => ?_
    have g1 := (free0_ok m).2 s
    have g2 := h0 s hs
    show at0 (List.replicate m 0) s ≤ _
    omega
  | succ k ih =>
    intro i hi
    refine inner (k + 1) i hi fun s hs => ?_
    have hk := (List.getElem?_eq_some_iff.1 hi).1
    obtain ⟨q, hq⟩ : ∃ q, p[k]? = some q := ⟨_, List.getElem?_eq_getElem (by omega)⟩
    rw [free_succ ok hp hq hs]
    have g1 := ih q hq s hs
    have g2 := h1 k q s hq hk hs
    omega
theorem ord_last {js : List JobT} {m : Nat} (hm : 0 < m) (ok : ∀ j ∈ js, JobOk m j) {p : List Nat} (hp : OrdN js.length p) {k i : Nat} (h : p[k]? = some i) : at0 (startsP (jobK js i).2.1 (jobK js i).2.2 (freeP js (List.replicate m 0) (p.take k))) (m - 1) + at0 (jobK js i).2.1 (m - 1) ≤ endP js m p := by
  rw [← free_succ ok hp.lt h (by omega)]
  have h1 := endP_mono (m := m) ok (b := p.take (k + 1)) (q := p.drop (k + 1)) (fun i hi => hp.lt i (List.mem_of_mem_take hi)) (fun i hi => hp.lt i (List.mem_of_mem_drop hi))
  rw [List.take_append_drop] at h1
  refine Int.le_trans ?_ h1
  rw [endP_at]
  exact Int.le_refl _
theorem aft_nn {m : Nat} {j : JobT} (h : JobOk m j) (s : Nat) : 0 ≤ aftJ j s := by
  have h1 := (sumA_bd (B := 1440) (l := j.2.1.drop (s + 1)) fun x hx => h.tb x (List.mem_of_mem_drop hx)).1
  have h2 := (sumA_bd (B := 1440) (l := j.2.2.drop s) fun x hx => h.db x (List.mem_of_mem_drop hx)).1
  unfold aftJ
  omega
theorem back_le {js : List JobT} {m : Nat} (hm : 0 < m) (ok : ∀ j ∈ js, JobOk m j) (hpos : 0 < js.length) {p : List Nat} (hp : OrdN js.length p) : endP (backL js) m p.reverse ≤ endP js m p := by
  have okb : ∀ j ∈ backL js, JobOk m j := fun j hj => by
    obtain ⟨x, hx, rfl⟩ := List.mem_map.1 hj
    exact backJ_ok (ok x hx)
  have hpb : OrdN (backL js).length p.reverse := by rw [backL_len]; exact hp.rev
  have hn := hp.len
  obtain ⟨I, hI⟩ : ∃ I : Nat → Nat, I = fun k => (p[k]?).getD 0 := ⟨_, rfl⟩
  have hIk : ∀ k, k < p.length → p[k]? = some (I k) := fun k hk => by
    rw [hI]
    show p[k]? = some ((p[k]?).getD 0)
    rw [List.getElem?_eq_getElem hk]
    rfl
  have hIl : ∀ k, k < p.length → I k < js.length := fun k hk => hp.lt _ (List.mem_of_getElem? (hIk k hk))
  obtain ⟨S, hS⟩ : ∃ S : Nat → Nat → Int, S = fun k s => at0 (startsP (jobK js (I k)).2.1 (jobK js (I k)).2.2 (freeP js (List.replicate m 0) (p.take k))) s := ⟨_, rfl⟩
  have a1 : ∀ k s, k < p.length → s < m → S k s + at0 (jobK js (I k)).2.1 s ≤ endP js m p := fun k s hk hs => by
    have g1 := ord_last hm ok hp (hIk k hk)
    have hj := ok _ (jobK_mem (hIl k hk)).2
    have g2 := st_aft hj (free_take ok hp.lt k) (m - 1 - s) s (by omega)
    have g3 := aft_nn hj s
    rw [hS]
    show at0 (startsP (jobK js (I k)).2.1 (jobK js (I k)).2.2 (freeP js (List.replicate m 0) (p.take k))) s + _ ≤ _
    omega
  have a2 : ∀ k s, k + 1 < p.length → s < m → S k s + at0 (jobK js (I k)).2.1 s ≤ S (k + 1) s := fun k s hk hs => by
    rw [hS]
    exact sch_gap ok hp (hIk k (by omega)) (hIk (k + 1) hk) (by omega) hs
  have a3 : ∀ k s, k < p.length → s + 1 < m → S k s + at0 (jobK js (I k)).2.1 s + at0 (jobK js (I k)).2.2 s ≤ S k (s + 1) := fun k s hk hs => by
    rw [hS]
    show _ ≤ at0 (startsP _ _ _) (s + 1)
    rw [startsP_succ _ _ _ _ (by rw [freeP_len, List.length_replicate]; exact hs)]
    exact Int.le_max_right _ _
  have a4 : 0 ≤ S 0 0 := by
    have := (starts_bd (ok _ (jobK_mem (hIl 0 (by omega))).2) (free_take ok hp.lt 0)).1.2 0
    rw [hS]
    exact this.1
  have hrev : ∀ (k i : Nat), p.reverse[k]? = some i → k < p.length ∧ i = I (p.length - 1 - k) := fun k i hi => by
    have hk := (List.getElem?_eq_some_iff.1 hi).1
    rw [List.length_reverse] at hk
    rw [List.getElem?_reverse hk, hIk _ (by omega)] at hi
    exact ⟨hk, (Option.some.inj hi).symm⟩
  have hjb : ∀ i, i < js.length → jobK (backL js) i = backJ (jobK js i) := fun i hi => jobK_map _ hi
  have htb : ∀ i s, i < js.length → s < m → at0 (jobK (backL js) i).2.1 s = at0 (jobK js i).2.1 (m - 1 - s) := fun i s hi hs => by
    have hj := ok _ (jobK_mem hi).2
    rw [hjb i hi]
    show at0 (jobK js i).2.1.reverse s = _
    rw [at0_rev (by rw [hj.t]; exact hs), hj.t]
  have hdb : ∀ i s, i < js.length → s + 1 < m → at0 (jobK (backL js) i).2.2 s = at0 (jobK js i).2.2 (m - 2 - s) := fun i s hi hs => by
    have hj := ok _ (jobK_mem hi).2
    have h2 := hj.d
    rw [hjb i hi]
    show at0 (jobK js i).2.2.reverse s = _
    rw [at0_rev (by omega), show (jobK js i).2.2.length - 1 - s = m - 2 - s by omega]
  have key := least_ok (m := m) okb hpb.lt (X := fun k s => endP js m p - (S (p.length - 1 - k) (m - 1 - s) + at0 (jobK js (I (p.length - 1 - k))).2.1 (m - 1 - s)))
    (fun s hs => by have := a1 (p.length - 1 - 0) (m - 1 - s) (by omega) (by omega); show 0 ≤ _ - _; omega)
    (fun k i s hi hk hs => by
      obtain ⟨hk', rfl⟩ := hrev k i hi
      rw [List.length_reverse] at hk
      have g1 := a2 (p.length - 1 - (k + 1)) (m - 1 - s) (by omega) (by omega)
      rw [show p.length - 1 - (k + 1) + 1 = p.length - 1 - k by omega] at g1
      rw [htb _ s (hIl _ (by omega)) hs]
      show _ - _ + _ ≤ _ - _
      omega)
    (fun k i s hi hs => by
      obtain ⟨hk', rfl⟩ := hrev k i hi
      have g1 := a3 (p.length - 1 - k) (m - 2 - s) (by omega) (by omega)
      rw [htb _ s (hIl _ (by omega)) (by omega), hdb _ s (hIl _ (by omega)) hs]
      rw [show m - 2 - s + 1 = m - 1 - s by omega] at g1
      rw [show m - 1 - (s + 1) = m - 2 - s by omega]
      show _ - _ + _ + _ ≤ _ - _
      omega)
  have hlast : p.reverse[p.length - 1]? = some (I 0) := by
    rw [List.getElem?_reverse (by omega), show p.length - 1 - (p.length - 1) = 0 by omega]
    exact hIk 0 (by omega)
  have g1 := key (p.length - 1) (I 0) hlast (m - 1) (by omega)
  rw [endP_at]
  have e : p.reverse = p.reverse.take (p.length - 1 + 1) := by rw [List.take_of_length_le (by rw [List.length_reverse]; omega)]
  rw [e, free_succ okb hpb.lt hlast (by omega), htb _ _ (hIl 0 (by omega)) (by omega)]
  rw [show p.length - 1 - (p.length - 1) = 0 by omega, show m - 1 - (m - 1) = 0 by omega] at g1
  rw [show m - 1 - (m - 1) = 0 by omega]
  omega
/-- Backwards the order ends just as late. -/
theorem back_eq {js : List JobT} {m : Nat} (hm : 0 < m) (ok : ∀ j ∈ js, JobOk m j) (hpos : 0 < js.length) {p : List Nat} (hp : OrdN js.length p) : endP (backL js) m p.reverse = endP js m p := by
  refine Int.le_antisymm (back_le hm ok hpos hp) ?_
  have h := back_le (js := backL js) (p := p.reverse) hm (fun j hj => by
    obtain ⟨x, hx, rfl⟩ := List.mem_map.1 hj
    exact backJ_ok (ok x hx)) (by rw [backL_len]; exact hpos) (by rw [backL_len]; exact hp.rev)
  rwa [backL_back, List.reverse_reverse] at h
theorem sumA_rev (l : List Int) : sumA l.reverse = sumA l := sumA_perm (List.reverse_perm l)
theorem bef_back {m : Nat} {j : JobT} (hj : JobOk m j) {s : Nat} (hs : s < m) : befJ (backJ j) s = aftJ j (m - 1 - s) := by
  show sumA (j.2.1.reverse.take s) + sumA (j.2.2.reverse.take s) = sumA (j.2.1.drop (m - 1 - s + 1)) + sumA (j.2.2.drop (m - 1 - s))
  have h1 := hj.t
  have h2 := hj.d
  rw [List.take_reverse, List.take_reverse, sumA_rev, sumA_rev, show j.2.1.length - s = m - 1 - s + 1 by omega, show j.2.2.length - s = m - 1 - s by omega]
theorem aft_back {m : Nat} {j : JobT} (hj : JobOk m j) {s : Nat} (hs : s < m) : aftJ (backJ j) s = befJ j (m - 1 - s) := by
  have h := bef_back (backJ_ok hj) (s := m - 1 - s) (by omega)
  rw [backJ_back, show m - 1 - (m - 1 - s) = s by omega] at h
  exact h.symm
theorem low_back {js : List JobT} {m : Nat} (ok : ∀ j ∈ js, JobOk m j) {s : Nat} (hs : s < m) : lowS (backL js) s = lowS js (m - 1 - s) := by
  unfold lowS atS backL
  rw [List.map_map, List.map_map, List.map_map]
  rw [List.map_congr_left (f := (fun j => befJ j s) ∘ backJ) (g := fun j => aftJ j (m - 1 - s)) fun j hj => bef_back (ok j hj) hs]
  rw [List.map_congr_left (f := (fun j => aftJ j s) ∘ backJ) (g := fun j => befJ j (m - 1 - s)) fun j hj => aft_back (ok j hj) hs]
  rw [List.map_congr_left (f := (fun j : JobT => at0 j.2.1 s) ∘ backJ) (g := fun j => at0 j.2.1 (m - 1 - s)) fun j hj => by
    show at0 j.2.1.reverse s = _
    rw [at0_rev (by rw [(ok j hj).t]; exact hs), (ok j hj).t]]
  omega
theorem all_back (js : List JobT) : (backL js).map allJ = js.map allJ := by
  unfold backL
  rw [List.map_map]
  refine List.map_congr_left fun j _ => ?_
  show sumA j.2.1.reverse + sumA j.2.2.reverse = _
  rw [sumA_rev, sumA_rev]
  rfl
theorem bndK_le {js : List JobT} {x : Int} : ∀ k, bndK js k ≤ x ↔ maxL (js.map allJ) ≤ x ∧ ∀ s, s < k → lowS js s ≤ x
  | 0 => by
    show maxL (js.map allJ) ≤ x ↔ _
    exact ⟨fun h => ⟨h, fun s hs => absurd hs (Nat.not_lt_zero s)⟩, fun h => h.1⟩
  | k + 1 => by
    rw [bndK_succ]
    constructor
    · intro h
      obtain ⟨h1, h2⟩ := (bndK_le k).1 (by omega : bndK js k ≤ x)
      refine ⟨h1, fun s hs => ?_⟩
      rcases Nat.lt_or_eq_of_le (Nat.le_of_lt_succ hs) with h3 | rfl
      · exact h2 s h3
      · omega
    · rintro ⟨h1, h2⟩
      have h3 := (bndK_le k).2 ⟨h1, fun s hs => h2 s (by omega)⟩
      have h4 := h2 k (by omega)
      omega
theorem bnd_back {js : List JobT} {m : Nat} (ok : ∀ j ∈ js, JobOk m j) : bndK (backL js) m = bndK js m := by
  have key : ∀ {js : List JobT}, (∀ j ∈ js, JobOk m j) → bndK (backL js) m ≤ bndK js m := fun {js} ok => by
    obtain ⟨h1, h2⟩ := (bndK_le (js := js) m).1 (Int.le_refl _)
    refine (bndK_le m).2 ⟨by rw [all_back]; exact h1, fun s hs => ?_⟩
    rw [low_back ok hs]
    exact h2 _ (by omega)
  refine Int.le_antisymm (key ok) ?_
  have h := key (js := backL js) fun j hj => by
    obtain ⟨x, hx, rfl⟩ := List.mem_map.1 hj
    exact backJ_ok (ok x hx)
  rwa [backL_back] at h
theorem dot_back {t r : List Int} {m : Nat} (ht : t.length = m) (hr : r.length = m) : ∀ k, k ≤ m → dotK t.reverse r.reverse k + dotK t r (m - k) = dotK t r m
  | 0, _ => by simp [dotK]
  | k + 1, hk => by
    have ih := dot_back ht hr k (by omega)
    rw [show m - k = m - (k + 1) + 1 by omega] at ih
    have e1 : dotK t r (m - (k + 1) + 1) = dotK t r (m - (k + 1)) + at0 t (m - (k + 1)) * at0 r (m - (k + 1)) := rfl
    have e2 : dotK t.reverse r.reverse (k + 1) = dotK t.reverse r.reverse k + at0 t.reverse k * at0 r.reverse k := rfl
    rw [e2, at0_rev (by omega), at0_rev (by omega), ht, hr, show m - 1 - k = m - (k + 1) by omega]
    omega
theorem dot_rev {t r : List Int} {m : Nat} (ht : t.length = m) (hr : r.length = m) : dotK t.reverse r.reverse m = dotK t r m := by
  have h := dot_back ht hr m (Nat.le_refl _)
  rw [Nat.sub_self] at h
  have e : dotK t r 0 = 0 := rfl
  omega
end Go.Proofs
