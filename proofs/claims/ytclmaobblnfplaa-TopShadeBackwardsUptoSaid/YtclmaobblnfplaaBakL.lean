/- Jobs backwards: the four lists and their best ends; the rates; what jobs cost. -/
import Derived.Test.YtclmaobblnfplaaBakJ
import Derived.Test.YtclmaobblnfplaaJbK
namespace Go.Proofs
open Go.RowKit Go.MapKept
set_option maxHeartbeats 16000000
set_option maxRecDepth 1000000
def fourJ (js : List JobT) (e : Int) (s : Nat) : Nat → List JobT
  | 0 => js
  | 1 => backL js
  | 2 => slowL e js
  | _ => js.take s
def endV (F : Nat → List JobT) (k i : Nat) : Value := .int .i64 (if i < k then bestE (F i) else 0)
def endsK (F : Nat → List JobT) (k : Nat) : List Value := [endV F k 0, endV F k 1, endV F k 2, endV F k 3]
theorem endV_other {F : Nat → List JobT} {k i : Nat} (h : i ≠ k) : endV F (k + 1) i = endV F k i := by
  unfold endV
  by_cases h2 : i < k
  · rw [if_pos h2, if_pos (by omega)]
  · rw [if_neg h2, if_neg (by omega)]
theorem endV_self (F : Nat → List JobT) (k : Nat) : endV F (k + 1) k = .int .i64 (bestE (F k)) := by
  unfold endV
  rw [if_pos (by omega)]
theorem endsK_get (F : Nat → List JobT) {k : Nat} (hk : k < 4) (q : Nat) : (endsK F q)[k]? = some (endV F q k) := by
  unfold endsK
  match k, hk with
  | 0, _ => rfl
  | 1, _ => rfl
  | 2, _ => rfl
  | 3, _ => rfl
theorem endsK_set (F : Nat → List JobT) {k : Nat} (hk : k < 4) : (endsK F k).set k (.int .i64 (bestE (F k))) = endsK F (k + 1) := by
  refine List.ext_getElem? fun i => ?_
  have hl : ∀ q, (endsK F q).length = 4 := fun _ => rfl
  by_cases hi : i = k
  · subst hi
    rw [List.getElem?_set_self (by rw [hl]; exact hk), endsK_get F hk, endV_self]
  · rw [List.getElem?_set_ne (fun e => hi e.symm)]
    by_cases h4 : i < 4
    · rw [endsK_get F h4, endsK_get F h4, endV_other hi]
    · rw [List.getElem?_eq_none (by rw [hl]; omega), List.getElem?_eq_none (by rw [hl]; omega)]
theorem endsK_skip (F : Nat → List JobT) {k : Nat} (hk : k < 4) (h : (F k).length = 0) : endsK F (k + 1) = endsK F k := by
  have e : bestE (F k) = 0 := by unfold bestE; rw [if_pos h]
  have e2 : Value.int .i64 (bestE (F k)) = endV F k k := by unfold endV; rw [if_neg (by omega), e]
  rw [← endsK_set F hk, e2]
  refine List.ext_getElem? fun i => ?_
  by_cases hi : i = k
  · subst hi
    rw [List.getElem?_set_self (by unfold endsK; simpa using hk), endsK_get F hk]
  · rw [List.getElem?_set_ne (fun e => hi e.symm)]
def ratK (m k : Nat) : List Int := (List.range m).map fun (i : Nat) => if i < k then (i : Int) + 1 else 0
theorem ratK_len (m k : Nat) : (ratK m k).length = m := by simp [ratK]
theorem ratK_0 (m : Nat) : ratK m 0 = List.replicate m 0 := by
  unfold ratK
  refine List.ext_getElem? fun i => ?_
  rw [List.getElem?_map, List.getElem?_replicate]
  by_cases h : i < m
  · rw [List.getElem?_range h, if_pos h]
    rfl
  · rw [List.getElem?_eq_none (by rw [List.length_range]; omega), if_neg h]
    rfl
theorem ratK_get {m k i : Nat} (h : i < m) : (ratK m k)[i]? = some (if i < k then (i : Int) + 1 else 0) := by
  unfold ratK
  rw [List.getElem?_map, List.getElem?_range h]
  rfl
theorem ratK_set {m k : Nat} (hk : k < m) : (ratK m k).set k ((k : Int) + 1) = ratK m (k + 1) := by
  refine List.ext_getElem? fun i => ?_
  by_cases h : i < m
  · rw [ratK_get h]
    by_cases hi : i = k
    · subst hi
      rw [List.getElem?_set_self (by rw [ratK_len]; exact hk), if_pos (by omega)]
    · rw [List.getElem?_set_ne (fun e => hi e.symm), ratK_get h]
      by_cases h2 : i < k
      · rw [if_pos h2, if_pos (by omega)]
      · rw [if_neg h2, if_neg (by omega)]
  · rw [List.getElem?_eq_none (by rw [List.length_set, ratK_len]; omega), List.getElem?_eq_none (by rw [ratK_len]; omega)]
theorem ratK_bd {m k : Nat} (hm : m ≤ 8) : ∀ x ∈ ratK m k, 0 ≤ x ∧ x ≤ 8 := fun x hx => by
  obtain ⟨i, hi, rfl⟩ := List.mem_map.1 hx
  have := List.mem_range.1 hi
  split <;> omega
theorem rates_ok {r : List Int} {m : Nat} (hl : r.length = m) (h : ∀ x ∈ r, 0 ≤ x ∧ x ≤ 8) : ratesE r m = 0 := by
  unfold ratesE
  refine orL_eq0.2 fun e he => ?_
  simp only [List.mem_cons, List.not_mem_nil, or_false] at he
  rcases he with rfl | rfl
  · rw [if_neg (fun h => h hl)]
  · unfold allE
    rw [if_pos fun x hx => by have := h x hx; omega]
theorem at0_8 {l : List Int} (h : ∀ x ∈ l, 0 ≤ x ∧ x ≤ 8) (i : Nat) : 0 ≤ at0 l i ∧ at0 l i ≤ 8 := by
  unfold at0
  cases e : l[i]? with
  | none => simp
  | some x => exact h x (List.mem_of_getElem? e)
theorem dot_bd {t r : List Int} (ht : ∀ x ∈ t, 0 ≤ x ∧ x ≤ 1440) (hr : ∀ x ∈ r, 0 ≤ x ∧ x ≤ 8) : ∀ k : Nat, 0 ≤ dotK t r k ∧ dotK t r k ≤ 11520 * k
  | 0 => by simp [dotK]
  | k + 1 => by
    have h1 := dot_bd ht hr k
    have h2 := at0_bd ht k
    have h3 := at0_8 hr k
    have h4 : 0 ≤ at0 t k * at0 r k := Int.mul_nonneg h2.1 h3.1
    have h5 : at0 t k * at0 r k ≤ 1440 * 8 := Int.mul_le_mul h2.2 h3.2 h3.1 (by omega)
    have e : dotK t r (k + 1) = dotK t r k + at0 t k * at0 r k := rfl
    rw [e]
    omega
theorem cost_bd {js : List JobT} {r : List Int} {m : Nat} (ok : ∀ j ∈ js, JobOk m j) (hr : ∀ x ∈ r, 0 ≤ x ∧ x ≤ 8) (hl : r.length ≤ 8) : ∀ k, k ≤ js.length → 0 ≤ costK js r k ∧ costK js r k ≤ 92160 * k
  | 0, _ => by simp [costK]
  | k + 1, hk => by
    obtain ⟨j, hj⟩ : ∃ j, js[k]? = some j := ⟨_, List.getElem?_eq_getElem (by omega)⟩
    have h1 := cost_bd ok hr hl k (by omega)
    have h2 := dot_bd (ok j (List.mem_of_getElem? hj)).tb hr r.length
    rw [costK_succ hj]
    omega
theorem cost_back {js : List JobT} {r : List Int} {m : Nat} (ok : ∀ j ∈ js, JobOk m j) (hr : r.length = m) : ∀ k, k ≤ js.length → costK (backL js) r.reverse k = costK js r k
  | 0, _ => rfl
  | k + 1, hk => by
    have hj := ok _ (jobK_mem (by omega : k < js.length)).2
    rw [costK_succ (jobK_mem (js := backL js) (i := k) (by rw [backL_len]; omega)).1, costK_succ (jobK_mem (js := js) (i := k) (by omega)).1, cost_back ok hr k (by omega), backL, jobK_map _ (by omega : k < js.length), List.length_reverse, hr]
    show _ + dotK (jobK js k).2.1.reverse r.reverse m = _
    rw [dot_rev hj.t hr]
/-- Some jobs that lie somewhere, from some world on. -/
structure JobsAt (W : World) (u : Value) (js : List JobT) : Prop where
  at_ : ∃ L : List JobV, (∀ V, Below W.heap.size W V → SlF encJ V u L ∧ InJ V L js) ∧ CapV L
theorem JobsAt.mk' {W : World} {u : Value} {L : List JobV} {js : List JobT} (h : SlF encJ W u L) (hi : InJ W L js) (hc : CapV L) : JobsAt W u js := ⟨L, fun _ hB => ⟨h.below hB, hi.below hB⟩, hc⟩
theorem JobsAt.slc {W V : World} {u : Value} {js : List JobT} (h : JobsAt W u js) (hB : Below W.heap.size W V) : SlJC V u js := by
  obtain ⟨L, h1, h2⟩ := h.at_
  obtain ⟨g1, g2⟩ := h1 V hB
  exact ⟨InJ.slj g1 g2, capV_of g1 g2 h2⟩
theorem JobsAt.form {W : World} {u : Value} {js : List JobT} (h : JobsAt W u js) : ∃ (A : Option Addr) (c : Nat), u = .slice A js.length c := by
  obtain ⟨L, h1, h2⟩ := h.at_
  obtain ⟨g1, g2⟩ := h1 W (Below.refl _ _)
  obtain ⟨A, c, e⟩ := g1.form
  exact ⟨A, c, by rw [e, g2.1]⟩
theorem JobsAt.keep {W V : World} {u : Value} {js : List JobT} (h : JobsAt W u js) (hB : Below W.heap.size W V) : JobsAt V u js := by
  obtain ⟨L, h1, h2⟩ := h.at_
  obtain ⟨g1, g2⟩ := h1 V hB
  exact .mk' g1 g2 h2
theorem JobsAt.jobs {W V : World} {u : Value} {js : List JobT} (h : JobsAt W u js) (hB : Below W.heap.size W V) (hn : js.length ≤ 1000) :
    Calls Try.prog 4 #[u] V fun e w' => (∃ x, e = .returned x ∧ SlJ w' x js) ∧ Below V.heap.size V w' := by
  obtain ⟨L, h1, h2⟩ := h.at_
  obtain ⟨g1, g2⟩ := h1 V hB
  refine (shadeJobs_ok u L V g1 (by rw [g2.1]; omega)).mono ?_
  rintro e w' ⟨⟨x, rfl, hx⟩, hB'⟩
  exact ⟨⟨x, rfl, InJ.slj (hx.sl encJ_len) (g2.below hB')⟩, hB'⟩
/-- The best order, as a call. -/
theorem bestC_ok (js : List JobT) (v : Value) (w : World) (hl : SlJ w v js) (hx : JobX js 0) (h8 : js.length ≤ 8) :
    Calls Try.prog 11 #[v] w fun e w' => (∃ (A : Option Addr) (c : Nat) (b : List Nat), e = .returned (.tuple #[.slice A js.length c, .int .i64 0]) ∧ SlI w' (.slice A js.length c) (ints b) ∧ OrdN js.length b ∧ endP js (stN js) b = bestE js) ∧ Below w.heap.size w w' := by
  obtain ⟨b, h1, h2, h3, -⟩ := best_is hx
  refine (best_ok js (stN js) v w hl hx.ok h8 (stN_pos hx)).mono ?_
  rintro e w' ⟨⟨u, rfl, hu⟩, hB⟩
  unfold BestR at hu
  rw [h1] at hu
  have hs := hu.1.sl
  obtain ⟨A, c, rfl⟩ := hs.form
  have e : (ints b).length = js.length := by rw [ints_len, h2.len]
  rw [e] at hs ⊢
  exact ⟨⟨A, c, b, rfl, hs, h2, h3.symm⟩, hB⟩
theorem refOrder0_ok (js : List JobT) (b : List Nat) (vj v : Value) (w : World) (hj : SlJ w vj js) (hl : SlI w v (ints b)) (hb : OrdN js.length b) (hn : js.length ≤ 1000) :
    Calls Try.prog 7 #[vj, v] w fun e w' => e = .returned (.int .i64 0) ∧ Below w.heap.size w w' := by
  refine (refCheckOrder_ok (ints b) js vj v w hj hl (by rw [ints_len, hb.len]; exact hn)).mono ?_
  rintro e w' ⟨⟨x, rfl, hx⟩, hB⟩
  have h0 : OrdX (ints b) js.length 0 := .inr ⟨by rw [ints_len, hb.len], .inl ⟨⟨b, rfl, by rw [ints_len, hb.len]; exact hb⟩, rfl⟩⟩
  obtain rfl := h0.same hx
  exact ⟨rfl, hB⟩
theorem cost0_ok (js : List JobT) (r : List Int) (v vr : Value) (w : World) (hl : SlJ w v js) (hx : JobX js 0) (hr : SlI w vr r) (hrl : r.length = stN js) (hrb : ∀ x ∈ r, 0 ≤ x ∧ x ≤ 8) (h4 : js.length ≤ 32) :
    Calls Try.prog 13 #[v, vr] w fun e w' => e = .returned (.tuple #[.int .i64 (costK js r js.length), .int .i64 0]) ∧ Below w.heap.size w w' := by
  have hm := stN_pos hx
  have hb := cost_bd hx.ok.ok hrb (by omega) js.length (Nat.le_refl _)
  refine (shCostC_ok js r v vr w hl (jobs_short hx) hx hr (by omega) (rates_ok hrl hrb)).mono ?_
  rintro e w' ⟨h, hB⟩
  rcases h with ⟨h1, -⟩ | ⟨-, h2⟩
  · exact absurd h1 (by omega)
  · exact ⟨h2, hB⟩
end Go.Proofs
