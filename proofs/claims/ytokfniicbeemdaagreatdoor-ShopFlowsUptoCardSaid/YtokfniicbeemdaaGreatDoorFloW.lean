import Derived.Test.YtokfniicbeemdaaGreatDoorOrdS
import Derived.Test.YtokfniicbeemdaaGreatDoorOrdB
import Derived.Test.YtokfniicbeemdaaGreatDoorOrdW
section
/- ShopFlows: jobs one by one, lists of ones, costs. -/
namespace Go.Proofs
open Go.RowKit Go.MapKept
set_option maxHeartbeats 16000000
set_option maxRecDepth 1000000
theorem jobX_one {js : List JobT} (hx : JobX js 0) {k : Nat} {j : JobT} (hj : js[k]? = some j) : JobX [j] 0 := by
  have ok := hx.ok
  have hjo := ok.ok j (List.mem_of_getElem? hj)
  rcases hx with ⟨-, e⟩ | ⟨h1, ⟨-, e⟩ | ⟨h2, h3⟩⟩
  · cases e
  · cases e
  rcases h3 with ⟨-, h4⟩ | ⟨h4, -⟩
  · have h5 := h4 k j hj
    unfold jobE at h5
    have h6 := orL_eq0.1 h5
    refine .inr ⟨by simp, .inr ⟨by simp, .inl ⟨rfl, fun i t hi => ?_⟩⟩⟩
    match i, hi with
    | 0, hi =>
      obtain rfl : j = t := by simpa using hi
      unfold jobE
      refine orL_eq0.2 fun e he => ?_
      have hst : stN [j] = stN js := by
        show j.2.1.length = _
        exact hjo.t
      rw [hst] at he
      simp only [List.mem_cons, List.not_mem_nil, or_false] at he
      rcases he with rfl | rfl | rfl
      · exact h6 _ (by simp)
      · simp [twiceE]
      · exact h6 _ (by simp)
    | i + 1, hi => simp at hi
  · exact absurd rfl h4
theorem dotK_zero (t : List Int) (m : Nat) : ∀ k, dotK t (List.replicate m 0) k = 0
  | 0 => rfl
  | k + 1 => by
    have h : at0 (List.replicate m (0 : Int)) k = 0 := by unfold at0; rw [List.getElem?_replicate]; split <;> rfl
    show dotK t (List.replicate m 0) k + at0 t k * at0 (List.replicate m 0) k = 0
    rw [dotK_zero t m k, h]
    simp
theorem dotK_one {t : List Int} (ht : ∀ x ∈ t, 0 ≤ x ∧ x ≤ 1440) (m : Nat) : ∀ k : Nat, 0 ≤ dotK t (List.replicate m 1) k ∧ dotK t (List.replicate m 1) k ≤ 1440 * k
  | 0 => by simp [dotK]
  | k + 1 => by
    have h : at0 (List.replicate m (1 : Int)) k = 0 ∨ at0 (List.replicate m (1 : Int)) k = 1 := by unfold at0; rw [List.getElem?_replicate]; split <;> simp
    have h1 := dotK_one ht m k
    have h2 := at0_bd ht k
    show 0 ≤ dotK t (List.replicate m 1) k + at0 t k * at0 (List.replicate m 1) k ∧ dotK t (List.replicate m 1) k + at0 t k * at0 (List.replicate m 1) k ≤ _
    rcases h with h | h <;> rw [h] <;> omega
theorem costK_one {js : List JobT} {m M : Nat} (ok : JobsOk M js) (hm : m ≤ 8) : ∀ k, k ≤ js.length → 0 ≤ costK js (List.replicate m 1) k ∧ costK js (List.replicate m 1) k ≤ 11520 * k
  | 0, _ => by simp [costK]
  | k + 1, hk => by
    obtain ⟨j, hj⟩ : ∃ j, js[k]? = some j := ⟨_, List.getElem?_eq_getElem (by omega)⟩
    have h1 := costK_one ok hm k (by omega)
    have h2 := dotK_one (ok.ok j (List.mem_of_getElem? hj)).tb m m
    rw [costK_succ hj, List.length_replicate]
    omega
theorem cost_single (j : JobT) (r : List Int) : costK [j] r [j].length = dotK j.2.1 r r.length := by
  show 0 + dotK j.2.1 r r.length = _
  omega
theorem rates_rep {js : List JobT} {m : Nat} {x : Int} (hm : stN js = m) (hx : 0 ≤ x ∧ x ≤ 999999999) : ratesE (List.replicate m x) (stN js) = 0 := by
  rcases ratesE_cases (List.replicate m x) (stN js) with ⟨h, -⟩ | ⟨-, h⟩
  · rw [List.length_replicate, hm] at h
    exact absurd rfl h
  · rw [h]
    exact allE_good fun k y hy => by
      have := List.mem_of_getElem? hy
      obtain ⟨-, rfl⟩ := List.mem_replicate.1 this
      exact (within_cases _ _ _).2.2.2 hx
theorem lawOnes_ok (m : Nat) (hm : m ≤ 8) (w : World) :
    Calls Tryz.prog 40 #[.int .i64 m] w fun e w' => (∃ u, e = .returned u ∧ SlI w' u (List.replicate m 1)) ∧ Below w.heap.size w w' := by
  have hB0 := Below.refl w.heap.size w
  have hO0 : OwnI 3 w w.heap.size (.slice none 0 0) (List.replicate 0 1) := OwnI.nil _ _ _
  go_enter Tryz.func40, Tryz.ntmps40
  go_wp2_with fail
  go_loopw [3, 5] (fun u i wr => ∃ k : Nat, k ≤ m ∧ i = .int .i64 k ∧ OwnI 3 wr w.heap.size u (List.replicate k 1) ∧ Below w.heap.size w wr) (fun _ i _ => m - (intOf i).toNat)
  case atStart => exact ⟨0, Nat.zero_le _, rfl, hO0, hB0⟩
  case round =>
    clear hB0 hO0
    obtain ⟨k, hk, rfl, hown, hX⟩ := hrel
    rename World => w3
    rcases Nat.lt_or_eq_of_le hk with hkn | rfl
    · obtain ⟨W1, hW1⟩ : ∃ W1, W1 = w3.alloc (.cells #[.int .i64 1] 3) := ⟨_, rfl⟩
      have hB1 : Below w3.heap.size w3 W1 := by subst hW1; exact (Below.refl _ _).alloc (Nat.le_refl _) _
      have hrow : RowK W1 3 w3.heap.size [.int .i64 1] := by subst hW1; exact heap_alloc_new w3 _
      have hI : IAt W1 w3.heap.size 0 [1] := fun q x hi => by
        match q, hi with
        | 0, hi =>
          obtain rfl : (1 : Int) = x := by simpa using hi
          exact hrow.cell (by rfl)
        | q + 1, hi => simp at hi
      have ho1 := hown.keep hB1
      have hX1 := hX.trans (hB1.mono hX.size)
      obtain ⟨A2, c2, W2, hap, hown2, hg, -, -⟩ := run_append_ints W1 23 w.heap.size _ (List.replicate k 1) [1] ho1 w3.heap.size 0 1 hI (by simp) (by rw [List.length_replicate]; show k + 1 ≤ 100000; omega) hX1.size
      rw [List.length_replicate, List.length_singleton] at hap hown2
      have hrep : List.replicate k (1 : Int) ++ [1] = List.replicate (k + 1) 1 := by rw [List.replicate_succ']
      rw [hrep] at hown2
      have hX2 : Below w.heap.size w W2 := hX1.grown hg hX1.size (fun g e => (ho1.lt g e).1)
      have HAP := Lib.hid hap
      have HW1 := Lib.hid hW1
      have HR := Lib.hid (And.intro hown2 hX2)
      have HK := Lib.hid (show k + 1 ≤ m from hkn)
      have HM := Lib.hid (show m - (k + 1) < m - k by omega)
      have hki : (k : Int) < m := by omega
      obtain ⟨wk1, wk2⟩ := wrapsV (show k < 1048576 by omega)
      clear hap hW1 hown2 hX2 hg ho1 hX1 hI hrow hB1 hown hX hrep
      go_wp2_with (at_builtin; rw [← HW1.out]; refine Lib.wpList_append_run _ rfl _ _ _ _ rfl _ _ rfl rfl _ _ HAP.out ?_)
      go_roundw
      case rel => exact ⟨k + 1, HK.out, by simp, HR.out.1, HR.out.2⟩
      case measure => exact HM.out
    · have HR := Lib.hid hown.sl
      clear hown
      go_wp2_with fail
      go_ret
      exact ⟨⟨_, rfl, HR.out⟩, hX⟩
/-- The cost of jobs at the same rate everywhere. -/
theorem costRep_ok (js : List JobT) (m : Nat) (x : Int) (v vr : Value) (w : World) (hl : SlJ w v js) (hs : ∀ j ∈ js, j.2.1.length ≤ 1000 ∧ j.2.2.length ≤ 1000) (hx : JobX js 0) (hm : stN js = m) (hm8 : m ≤ 8) (hr : SlI w vr (List.replicate m x)) (h01 : 0 ≤ x ∧ x ≤ 999999999) (hc : costK js (List.replicate m x) js.length ≤ 999999999) :
    Calls Tryz.prog 36 #[v, vr] w fun e w' => e = .returned (.tuple #[.int .i64 (costK js (List.replicate m x) js.length), .int .i64 0]) ∧ Below w.heap.size w w' :=
  (shCostC_ok js (List.replicate m x) v vr w hl hs hx hr (by rw [List.length_replicate]; omega) (rates_rep hm h01)).mono fun e w' ⟨h, hB⟩ => by
    rcases h with ⟨h1, -⟩ | ⟨-, h2⟩
    · exact absurd h1 (Int.not_lt.2 hc)
    · exact ⟨h2, hB⟩
/-- What one job costs at the same rate everywhere. -/
theorem costOne_ok {js : List JobT} (hx : JobX js 0) {m k : Nat} (hm : stN js = m) {nm : ByteArray} {t d : List Int} (hj : js[k]? = some (nm, t, d)) (At Ad : Option Addr) (ct cd : Nat) (V : World) (ht : SlI V (.slice At m ct) t) (hd : SlI V (.slice Ad d.length cd) d) (b : Nat) (hrow : RowK V 70 b [.string nm, .slice At m ct, .slice Ad d.length cd]) (vr : Value) (x : Int) (hr : SlI V vr (List.replicate m x)) (h01 : x = 0 ∨ x = 1) :
    Calls Tryz.prog 36 #[.slice (some ⟨b, 0, none⟩) 1 1, vr] V fun e w' => e = .returned (.tuple #[.int .i64 (dotK t (List.replicate m x) m), .int .i64 0]) ∧ Below V.heap.size V w' := by
  have hjo := hx.ok.ok _ (List.mem_of_getElem? hj)
  have htl : t.length = m := by rw [← hm]; exact hjo.t
  have hm8 : m ≤ 8 := by rw [← hm]; exact hjo.few
  have hl : SlJ V (.slice (some ⟨b, 0, none⟩) 1 1) [(nm, t, d)] := by
    refine .inr ⟨_, 1, rfl, fun _ => ⟨rfl, hrow.lt, fun i j hi => ?_⟩⟩
    match i, hi with
    | 0, hi =>
      obtain rfl : (nm, t, d) = j := by simpa using hi
      exact ⟨_, _, hrow.cell (i := 0) rfl, hrow.cell (i := 1) rfl, hrow.cell (i := 2) rfl, ht, hd⟩
    | i + 1, hi => simp at hi
  have hs : ∀ j ∈ [(nm, t, d)], j.2.1.length ≤ 1000 ∧ j.2.2.length ≤ 1000 := fun j hj => by
    obtain rfl : j = (nm, t, d) := by simpa using hj
    have h1 := hjo.d
    dsimp only at h1 ⊢
    have := hjo.few
    omega
  have hc : costK [(nm, t, d)] (List.replicate m x) [(nm, t, d)].length = dotK t (List.replicate m x) m := by
    rw [cost_single, List.length_replicate]
  have h := costRep_ok [(nm, t, d)] m x _ vr V hl hs (jobX_one hx hj) (by show t.length = m; exact htl) hm8 hr (by omega) (by
    rw [hc]
    rcases h01 with rfl | rfl
    · rw [dotK_zero]; omega
    · have := dotK_one hjo.tb m m
      dsimp only at this
      omega)
  rw [hc] at h
  exact h
end Go.Proofs
end

section
/- ShopFlows: the walk. -/
namespace Go.Proofs
open Go.AM Go.RowKit Go.MapKept
set_option maxHeartbeats 16000000
set_option maxRecDepth 1000000
/-- The schedule of an order is accepted, and ends as the order does. -/
theorem startsX_sch {js : List JobT} (hx : JobX js 0) {p : List Nat} (hp : OrdN js.length p) {c e : Int} (h : StartsX js (schP js (stN js) p) c e) : c = endP js (stN js) p ∧ e = 0 := by
  have ok := hx.ok
  have hm : 0 < stN js := by
    obtain ⟨j0, hj0⟩ : ∃ j, js[0]? = some j := ⟨_, List.getElem?_eq_getElem ok.pos⟩
    have h1 := (ok.ok _ (List.mem_of_getElem? hj0)).d
    omega
  have hl : (schP js (stN js) p).length = js.length := schK_len ..
  have hn := numE_mk (n := js.length) (m := stN js) hl fun x hx => by
    obtain ⟨h1, h2⟩ := sch_num ok.ok ok.few hp x hx
    exact ⟨h1, fun y hy => by have := h2 y hy; omega⟩
  rcases h with ⟨h1, -⟩ | ⟨-, ⟨h1, -⟩ | ⟨-, ⟨h1, -⟩ | ⟨-, h2, h3⟩⟩⟩
  · exact absurd hn h1
  · exact absurd h1 (sch_early ok.ok hp)
  · exact absurd h1 (sch_hit ok.ok hp)
  · exact ⟨h2.trans (sch_end hm ok.ok ok.pos hp), h3⟩
/-- A schedule in which a start is a minute earlier is refused, where all jobs need the station. -/
theorem startsX_early {js : List JobT} (hx : JobX js 0) {p : List Nat} (hp : OrdN js.length p) {i c : Nat} (hi : i < js.length) (hc : c < stN js) (hb : ∀ j ∈ js, 0 < at0 j.2.1 c) {d e : Int} (h : StartsX js (earlyS (schP js (stN js) p) i c) d e) : e ≠ 0 := fun he => by
  rcases h with ⟨h1, -, h2⟩ | ⟨h0, ⟨-, -, h2⟩ | ⟨h1, ⟨-, -, h2⟩ | ⟨h3, -, -⟩⟩⟩
  · exact h1 (h2.symm.trans he)
  · rw [he] at h2; cases h2
  · rw [he] at h2; cases h2
  · exact sch_minute hx.ok.ok hp hi hc hb h0 h1 h3
/-- The rows of a copy of a schedule, as far as the first K are made. -/
def EarR (w : World) (g : Nat) (cs : List Value) (K : Nat) (S : List (List Int)) : Prop := RowK w 23 g cs ∧ cs.length = S.length ∧ (∀ (k : Nat) (x : List Int), k < K → S[k]? = some x → ∃ gk ck, cs[k]? = some (.slice (some ⟨gk, 0, none⟩) x.length ck) ∧ OwnI 3 w (g + 1) (.slice (some ⟨gk, 0, none⟩) x.length ck) x) ∧ ∀ (k k' : Nat) (v v' : Value) (b b' : Nat), k < k' → k' < K → cs[k]? = some v → cs[k']? = some v' → v.ownBlock = some b → v'.ownBlock = some b' → b < b'
theorem earR_step {w W2 : World} {g K : Nat} {cs : List Value} {S : List (List Int)} {x : List Int} {v : Value} (h : EarR w g cs K S) (hK : K < S.length) (hx : S[K]? = some x) (hB : Below w.heap.size w W2) (ho : OwnI 3 W2 w.heap.size v x) (hv : ∃ gk ck, v = .slice (some ⟨gk, 0, none⟩) x.length ck) : EarR (W2.setCell ⟨g, K, none⟩ v) g (cs.set K v) (K + 1) S := by
  obtain ⟨h1, h2, h3, h4⟩ := h
  have hgl := h1.lt
  have hset : ∀ b, b ≠ g → (W2.setCell ⟨g, K, none⟩ v).heap[b]? = W2.heap[b]? := fun b hb => Below.heap_setCell W2 ⟨g, K, none⟩ v b hb
  obtain ⟨gv, cv, hve⟩ := hv
  have hlt := ho.lt
  refine ⟨(h1.below hB).set K v, by simp [h2], fun k y hk hy => ?_, fun k k' u u' b b' hkk hk' hu hu' hb hb' => ?_⟩
  · rcases Nat.lt_or_eq_of_le (Nat.le_of_lt_succ hk) with hlt2 | rfl
    · obtain ⟨gk, ck, e1, e2⟩ := h3 k y hlt2 hy
      refine ⟨gk, ck, by rw [List.getElem?_set_ne (by omega)]; exact e1, (e2.keep hB).keepB fun b hb => hset b ?_⟩
      have := (e2.lt b hb).1
      omega
    · obtain rfl := Option.some.inj (hx.symm.trans hy)
      refine ⟨gv, cv, by rw [List.getElem?_set_self (by omega), hve], ?_⟩
      rw [hve] at ho hlt
      exact (ho.lower hgl).keepB fun b hb => hset b (by have := (hlt b hb).1; omega)
  · rcases Nat.lt_or_eq_of_le (Nat.le_of_lt_succ hk') with hlt2 | rfl
    · rw [List.getElem?_set_ne (by omega)] at hu hu'
      exact h4 k k' u u' b b' hkk hlt2 hu hu' hb hb'
    · rw [List.getElem?_set_ne (by omega)] at hu
      rw [List.getElem?_set_self (by omega)] at hu'
      obtain rfl := Option.some.inj hu'
      obtain ⟨y, hy⟩ : ∃ y, S[k]? = some y := ⟨_, List.getElem?_eq_getElem (by omega)⟩
      obtain ⟨gk, ck, e1, e2⟩ := h3 k y hkk hy
      obtain rfl := Option.some.inj (hu.symm.trans e1)
      have h5 := (e2.lt b hb).2
      have h6 := (hlt b' hb').1
      omega
theorem earR_sl {w : World} {g i c : Nat} {cs : List Value} {S : List (List Int)} {x : List Int} {y : Int} (h : EarR w g cs S.length S) (hx : S[i]? = some x) (hy : x[c]? = some y) : ∃ gi ci, cs[i]? = some (.slice (some ⟨gi, 0, none⟩) x.length ci) ∧ w.cell? ⟨gi, c, none⟩ = some (.int .i64 y) ∧ (∀ q, w.frozen? ⟨gi, q, none⟩ = false) ∧ g < gi ∧ gi < w.heap.size ∧ SlLL (w.setCell ⟨gi, c, none⟩ (.int .i64 (y - 1))) (.slice (some ⟨g, 0, none⟩) S.length S.length) (earlyS S i c) := by
  obtain ⟨h1, h2, h3, h4⟩ := h
  have hil := (List.getElem?_eq_some_iff.1 hx).1
  obtain ⟨gi, ci, e1, e2⟩ := h3 i x hil hx
  have hat := OwnI.at_ e2 rfl
  have hlt := e2.lt gi rfl
  have hes : earlyS S i c = S.set i (x.set c (y - 1)) := by
    unfold earlyS
    rw [hx]
    show S.set i (x.set c (at0 x c - 1)) = _
    rw [at0_some hy]
  have hset : ∀ b, b ≠ gi → (w.setCell ⟨gi, c, none⟩ (.int .i64 (y - 1))).heap[b]? = w.heap[b]? := fun b hb => Below.heap_setCell w ⟨gi, c, none⟩ _ b hb
  refine ⟨gi, ci, e1, by have := hat c y hy; rwa [Nat.zero_add] at this, fun q => ?_, hlt.1, hlt.2, ?_⟩
  · rcases e2.2 with ⟨e, -⟩ | ⟨g', cap, cur, e, -, hg, -⟩
    · cases e
    · injection e with e
      injection e with e
      injection e with e _
      subst e
      exact frozen_of_row w gi q _ _ hg
  · have hl : (earlyS S i c).length = S.length := by rw [hes, List.length_set]
    rw [← hl]
    refine .inr ⟨_, _, rfl, fun _ => ⟨rfl, ?_, fun k z hz => ?_⟩⟩
    · have := h1.lt
      simpa [World.setCell] using this
    · rw [hes] at hz
      have hrow : RowK (w.setCell ⟨gi, c, none⟩ (.int .i64 (y - 1))) 23 g cs := h1.keep (hset g (by have := hlt.1; omega))
      by_cases he : i = k
      · subst he
        rw [List.getElem?_set_self hil] at hz
        obtain rfl := Option.some.inj hz
        have h5 := e2.store rfl (k := c) (y - 1)
        exact ⟨_, by rw [Nat.zero_add]; exact hrow.cell e1, h5.sl⟩
      · rw [List.getElem?_set_ne he] at hz
        have hkl := (List.getElem?_eq_some_iff.1 hz).1
        obtain ⟨gk, ck, f1, f2⟩ := h3 k z hkl hz
        refine ⟨_, by rw [Nat.zero_add]; exact hrow.cell f1, (f2.keepB fun b hb => hset b fun e => ?_).sl⟩
        have hbk : gk = b := by simpa [Value.ownBlock] using hb
        rcases Nat.lt_or_gt_of_ne he with h | h
        · have := h4 i k _ _ gi gk h hkl e1 f1 rfl rfl
          omega
        · have := h4 k i _ _ gk gi h hil f1 e1 rfl rfl
          omega
def busyK (js : List JobT) (c k : Nat) : Bool := decide (∀ j ∈ js.take k, 0 < at0 j.2.1 c)
theorem busyK_succ {js : List JobT} {c k : Nat} {j : JobT} (h : js[k]? = some j) : busyK js c (k + 1) = (busyK js c k && decide (0 < at0 j.2.1 c)) := by
  unfold busyK
  rw [List.take_add_one, h]
  have e : (∀ x ∈ js.take k ++ (some j).toList, 0 < at0 x.2.1 c) ↔ (∀ x ∈ js.take k, 0 < at0 x.2.1 c) ∧ 0 < at0 j.2.1 c := by
    constructor
    · exact fun h => ⟨fun x hx => h x (by simp [hx]), h j (by simp)⟩
    · rintro ⟨h1, h2⟩ x hx
      rcases List.mem_append.1 hx with h | h
      · exact h1 x h
      · obtain rfl : x = j := by simpa using h
        exact h2
  rw [decide_eq_decide.2 e, Bool.decide_and]
theorem flows_in (v vo : Value) (L : List JobV) (js : List JobT) (o : List Int) (pa pb : Int) (w : World) (hgk : GOk gN gRows w) (hl : SlF encJ w v L) (hi : InJ w L js) (hcap : YtokfniicbeemdaaGreatDoor.CapL L) (ho : SlI w vo o) (hn : L.length ≤ 1048576) (hpa : 0 ≤ pa ∧ pa ≤ 255) (hpb : 0 ≤ pb ∧ pb ≤ 255) :
    Calls Tryz.prog 7 #[v, vo, .agg #[.int .u8 pa, .int .u8 pb]] w fun e w' => e = .returned (.bool true) ∧ Below w.heap.size w w' := by
  obtain ⟨n, hx⟩ := jobX_ex js
  have hlj := InJ.slj hl hi
  have hljc : SlJC w v js := ⟨hlj, capJ_of hl hi hcap⟩
  have HLJ := Lib.hid hi.1
  obtain ⟨W0, hW⟩ : ∃ W0, W0 = w.alloc (.cells #[.int .u8 pa, .int .u8 pb] 68) := ⟨_, rfl⟩
  have rp : RowK W0 68 w.heap.size [.int .u8 pa, .int .u8 pb] := by subst hW; exact heap_alloc_new w _
  have hB0 : Below w.heap.size w W0 := by subst hW; exact (Below.refl _ _).alloc (Nat.le_refl _) _
  have kOwn := lawOwn_ok v L W0 (hl.below hB0) hn
  obtain ⟨Al, cl, rfl⟩ := hl.form
  obtain ⟨Ao, co, rfl⟩ := ho.form
  have HRP := Lib.hid rp
  have HPP := Lib.hid (And.intro hpa hpb)
  clear rp hpa hpb
  go_enter Tryz.func7, Tryz.ntmps7
  go_wp2_with fail
  rw [← hW]
  clear hW
  refine kOwn.mono ?_
  rintro e w1 ⟨⟨u, rfl, hu⟩, hB1⟩
  clear kOwn
  have hus := hu.sl encJ_len
  obtain ⟨Au, cu, rfl⟩ := hus.form
  have hB01 := hB0.trans (hB1.mono hB0.size)
  have huj := InJ.slj hus (hi.below hB01)
  have hBw : ∀ V, Below w1.heap.size w1 V → Below w.heap.size w V := fun V h => hB01.trans (h.mono hB01.size)
  have kSh := refShortJ_ok _ L 5 w1 hus
  have HIJ := Lib.hid hi
  rw [HLJ.out] at hlj hljc huj kSh ⊢
  have ksl : ∀ V, Below w1.heap.size w1 V → SlJ V (.slice Al js.length cl) js := fun V h => hlj.below (hBw V h)
  have ksc : ∀ V, Below w1.heap.size w1 V → SlJC V (.slice Al js.length cl) js := fun V h => hljc.below (hBw V h)
  have ksu : ∀ V, Below w1.heap.size w1 V → SlJ V (.slice Au js.length cu) js := fun V h => huj.below h
  have kso : ∀ V, Below w1.heap.size w1 V → SlI V (.slice Ao o.length co) o := fun V h => ho.below (hBw V h)
  have krp : ∀ V, Below w1.heap.size w1 V → V.cell? ⟨w.heap.size, 0, none⟩ = some (.int .u8 pa) ∧ V.cell? ⟨w.heap.size, 1, none⟩ = some (.int .u8 pb) := fun V h => by
    have h2 := (HRP.out.below hB1).below h
    exact ⟨h2.cell (i := 0) rfl, h2.cell (i := 1) rfl⟩
  have HKRP := Lib.hid krp
  have HKSO := Lib.hid kso
  have HKSL := Lib.hid ksl
  have HKSC := Lib.hid ksc
  have HKSU := Lib.hid ksu
  have hX := Below.refl w1.heap.size w1
  clear hu hus hl hi ho hlj huj hljc hcap hB0 hB1 hB01 krp kso ksl ksc ksu
  obtain ⟨b5, hb5⟩ : ∃ b, decide ((5 : Int) < (js.length : Int)) = b := ⟨_, rfl⟩
  obtain ⟨bo5, hbo5⟩ : ∃ b, decide ((5 : Int) < (o.length : Int)) = b := ⟨_, rfl⟩
  have HB5 := Lib.hid hb5
  have HO5 := Lib.hid hbo5
  go_wp2_with fail
  refine kSh.mono ?_
  rintro e V1 ⟨⟨rs, rfl, hSh⟩, hB⟩
  replace hX := hX.trans (hB.mono hX.size)
  clear hB kSh
  cases rs with
  | false =>
    have hBo := hBw _ hX
    clear hSh
    go_wp2_with (go_at_call 10; refine (awake9_ok _ (hgk.below hBo)).mono ?_; rintro e w9 ⟨rfl, hQ9⟩)
    go_ret
    exact ⟨rfl, hBo.trans (hQ9.mono hBo.size)⟩
  | true =>
  have HSH := Lib.hid (hSh rfl)
  clear hSh
  have hs : ∀ j ∈ js, j.2.1.length ≤ 1000 ∧ j.2.2.length ≤ 1000 := fun j hj => by
    obtain ⟨k, hk⟩ := List.mem_iff_getElem?.1 hj
    obtain ⟨nm, A, n1, c, A', n2, c', t, d, h1, h2, h3, h4, h5, h6⟩ := HIJ.out.some_ (List.getElem?_eq_some_iff.1 hk).1
    obtain rfl := Option.some.inj (hk.symm.trans h2)
    have := HSH.out.2.2 k _ h1
    dsimp only at this ⊢
    omega
  have HJS := Lib.hid hs
  have HX := Lib.hid hx
  clear hs hx
  cases b5 with
  | true =>
    have hBo := hBw _ hX
    go_wp2_with (go_at_call 10; refine (awake9_ok _ (hgk.below hBo)).mono ?_; rintro e w9 ⟨rfl, hQ9⟩)
    go_ret
    exact ⟨rfl, hBo.trans (hQ9.mono hBo.size)⟩
  | false =>
  have hl5 : js.length ≤ 5 := by have := of_decide_eq_false HB5.out; omega
  have HL5 := Lib.hid hl5
  clear hl5
  have kC := fun V (h : Below w1.heap.size w1 V) => refJobN_ok js _ n V (HKSU.out V h) HJS.out HX.out
  obtain ⟨bn, hbn⟩ : ∃ bn, (n != 0) = bn := ⟨_, rfl⟩
  have HBN := Lib.hid hbn
  go_wp2_with fail
  refine (kC _ hX).mono ?_
  rintro e V2 ⟨rfl, hB⟩
  replace hX := hX.trans (hB.mono hX.size)
  clear hB kC
  cases bn with
  | true =>
    have hBo := hBw _ hX
    go_wp2_with (go_at_call 10; refine (awake9_ok _ (hgk.below hBo)).mono ?_; rintro e w9 ⟨rfl, hQ9⟩)
    go_ret
    exact ⟨rfl, hBo.trans (hQ9.mono hBo.size)⟩
  | false =>
  obtain rfl : n = 0 := by have := HBN.out; simpa using this
  cases bo5 with
  | true =>
    have hBo := hBw _ hX
    go_wp2_with (go_at_call 10; refine (awake9_ok _ (hgk.below hBo)).mono ?_; rintro e w9 ⟨rfl, hQ9⟩)
    go_ret
    exact ⟨rfl, hBo.trans (hQ9.mono hBo.size)⟩
  | false =>
  have hol : o.length ≤ 5 := by have := of_decide_eq_false HO5.out; omega
  have kO := fun V (h : Below w1.heap.size w1 V) => refCheckOrder_ok o js _ _ V (HKSU.out V h) (HKSO.out V h) (by omega)
  clear hbn
  go_wp2_with fail
  refine (kO _ hX).mono ?_
  rintro e V3 ⟨⟨eo, rfl, heo⟩, hB⟩
  replace hX := hX.trans (hB.mono hX.size)
  clear hB kO hol
  by_cases hz : eo = 0
  case neg =>
    have hzb : (eo != 0) = true := by simpa using hz
    have hBo := hBw _ hX
    clear hz heo
    go_wp2_with (go_at_call 10; refine (awake9_ok _ (hgk.below hBo)).mono ?_; rintro e w9 ⟨rfl, hQ9⟩)
    go_ret
    exact ⟨rfl, hBo.trans (hQ9.mono hBo.size)⟩
  case pos =>
  subst hz
  obtain ⟨p, hop, hp⟩ := heo.ok
  subst hop
  clear heo
  have ok := HX.out.ok
  have hm8 : 0 < stN js ∧ stN js ≤ 8 := by
    obtain ⟨j0, hj0⟩ : ∃ j, js[0]? = some j := ⟨_, List.getElem?_eq_getElem ok.pos⟩
    have hjo0 := ok.ok _ (List.mem_of_getElem? hj0)
    have h1 := hjo0.d
    have h2 := hjo0.few
    omega
  have hil : (ints p).length = js.length := by rw [ints_len, hp.len]
  obtain ⟨o1, b1, -, -, hex, hob, hle⟩ := best_pick (m := stN js) ok.ok
  have hb3 : bestP (stN js) js = some (b1, endP js (stN js) b1) := hex
  have hble := hle p hp
  have hbnd := bound_le hm8.1 ok.ok ok.pos hob (stN js) (Nat.le_refl _)
  have kS := fun V (h : Below w1.heap.size w1 V) => shStsC_ok js p _ _ V (HKSL.out V h) HJS.out HX.out (HKSO.out V h) hp
  have kT := fun V vb (h : Below w1.heap.size w1 V) (hb : SlI V vb (ints b1)) => shStsC_ok js b1 _ vb V (HKSL.out V h) HJS.out HX.out hb hob
  have kB := fun V (h : Below w1.heap.size w1 V) => best_ok js (stN js) _ V (HKSL.out V h) ok (by have := HL5.out; omega) hm8
  have kN := fun V (h : Below w1.heap.size w1 V) => shBound_ok js _ V (HKSC.out V h) HJS.out HX.out
  have kO := fun V vb (h : Below w1.heap.size w1 V) (hb : SlI V vb (ints b1)) => refCheckOrder_ok (ints b1) js _ vb V (HKSU.out V h) hb (by rw [ints_len, hob.len]; have := HL5.out; omega)
  have kCs := fun V S u (h : Below w1.heap.size w1 V) (hS : SlLL V u S) (hn : S.length ≤ 1000) (hns : ∀ x ∈ S, x.length ≤ 1000) => shStarts_ok js S _ u V (HKSL.out V h) hS HJS.out HX.out hn hns
  have hsz : ∀ q, OrdN js.length q → (schP js (stN js) q).length = js.length ∧ (schP js (stN js) q).length ≤ 1000 ∧ ∀ x ∈ schP js (stN js) q, x.length ≤ 1000 := fun q hq => by
    have h1 : (schP js (stN js) q).length = js.length := schK_len ..
    exact ⟨h1, by have := ok.few; omega, fun x hx => by have := (sch_num ok.ok ok.few hq x hx).1; omega⟩
  have hszp := hsz p hp
  have hszb := hsz b1 hob
  have HSZ := Lib.hid (And.intro hszp hszb)
  have HP := Lib.hid hp
  have HOB := Lib.hid hob
  have HB3 := Lib.hid hb3
  have HCMP := Lib.hid (And.intro hble hbnd)
  have HM8 := Lib.hid hm8
  have HIL := Lib.hid hil
  obtain ⟨m, hm⟩ : ∃ m, m = stN js := ⟨_, rfl⟩
  have HMM := Lib.hid hm
  have HKSO : RowKit.Hid (∀ V, Below w1.heap.size w1 V → SlI V (.slice Ao js.length co) (ints p)) := Lib.hid (by have h := HKSO.out; rw [hil] at h; exact h)
  rw [hil] at kS ⊢
  clear ok hm8 hil hex hob hle hb3 hble hbnd hp hsz hszp hszb hm
  go_wp2_with fail
  refine (kS _ hX).mono ?_
  rintro e V4 ⟨⟨gS, rfl, -, hSr⟩, hB⟩
  replace hX := hX.trans (hB.mono hX.size)
  have hSs := SchRow.sl (cap := js.length) hSr
  rw [HSZ.out.1.1] at hSs
  have HSS := Lib.hid hSs
  have hR := Below.refl V4.heap.size V4
  clear hB kS hSr hSs
  go_wp2_with fail
  refine (kCs _ _ _ hX HSS.out HSZ.out.1.2.1 HSZ.out.1.2.2).mono ?_
  rintro e V5 ⟨⟨c1, e1, rfl, hc1⟩, hB⟩
  replace hX := hX.trans (hB.mono hX.size)
  replace hR := hR.trans (hB.mono hR.size)
  obtain ⟨rfl, rfl⟩ := startsX_sch HX.out HP.out hc1
  clear hB hc1
  go_wp2_with fail
  refine (kB _ hX).mono ?_
  rintro e V6 ⟨⟨ub, rfl, hub⟩, hB⟩
  replace hX := hX.trans (hB.mono hX.size)
  replace hR := hR.trans (hB.mono hR.size)
  unfold BestR at hub
  rw [HB3.out] at hub
  have hus := hub.1.sl
  obtain ⟨Ab, cb, hubf⟩ := hus.form
  subst hubf
  have HUS := Lib.hid hus
  have hY := Below.refl V6.heap.size V6
  clear hB kB hub hus
  go_wp2_with fail
  refine (kO _ _ hX (HUS.out.below hY)).mono ?_
  rintro e V7 ⟨⟨x, rfl, hxo⟩, hB⟩
  replace hX := hX.trans (hB.mono hX.size)
  replace hR := hR.trans (hB.mono hR.size)
  replace hY := hY.trans (hB.mono hY.size)
  have hox : OrdX (ints b1) js.length 0 := .inr ⟨by rw [ints_len, HOB.out.len], .inl ⟨⟨b1, rfl, by rw [ints_len, HOB.out.len]; exact HOB.out⟩, rfl⟩⟩
  obtain rfl := hox.same hxo
  clear hB kO hxo hox
  go_wp2_with fail
  refine (kT _ _ hX (HUS.out.below hY)).mono ?_
  rintro e V8 ⟨⟨gT, rfl, -, hTr⟩, hB⟩
  replace hX := hX.trans (hB.mono hX.size)
  replace hR := hR.trans (hB.mono hR.size)
  have hTs := SchRow.sl (cap := js.length) hTr
  rw [HSZ.out.2.1] at hTs
  have HTS := Lib.hid hTs
  clear hB kT hTr hTs hY HUS
  go_wp2_with fail
  refine (kCs _ _ _ hX HTS.out HSZ.out.2.2.1 HSZ.out.2.2.2).mono ?_
  rintro e V9 ⟨⟨c2, e2, rfl, hc2⟩, hB⟩
  replace hX := hX.trans (hB.mono hX.size)
  replace hR := hR.trans (hB.mono hR.size)
  obtain ⟨rfl, rfl⟩ := startsX_sch HX.out HOB.out hc2
  clear hB hc2 HTS
  go_wp2_with fail
  refine (kN _ hX).mono ?_
  rintro e V10 ⟨rfl, hB⟩
  replace hX := hX.trans (hB.mono hX.size)
  replace hR := hR.trans (hB.mono hR.size)
  clear hB kN
  obtain ⟨x1, hx1⟩ : ∃ x, x = endP js (stN js) b1 := ⟨_, rfl⟩
  obtain ⟨x2, hx2⟩ : ∃ x, x = endP js (stN js) p := ⟨_, rfl⟩
  obtain ⟨x3, hx3⟩ : ∃ x, x = bndK js (stN js) := ⟨_, rfl⟩
  have hcm := HCMP.out
  rw [← hx1, ← hx2, ← hx3] at hcm
  rw [← hx1, ← hx2, ← hx3]
  have d1 : decide (x2 < x1) = false := decide_eq_false (by omega)
  have d2 : decide (x1 < x3) = false := decide_eq_false (by omega)
  clear hx1 hx2 hx3 hcm
  obtain ⟨bJ, oJ, cap, hJe, hbJ, -⟩ := (HKSL.out _ hX).addr HX.out.ok.pos
  injection hJe with hJe _ hJc
  subst hJe hJc
  have hK0 := HKSC.out _ hX
  obtain ⟨j0, hj0⟩ : ∃ j, js[0]? = some j := ⟨_, List.getElem?_eq_getElem HX.out.ok.pos⟩
  obtain ⟨-, -, At0, Ad0, ct0, cd0, -, q1, -, -, -, -, -⟩ := hK0.at_ hj0
  have hj0m : j0.2.1.length = stN js := by unfold stN; rw [hj0]
  rw [Nat.zero_mul, Nat.add_zero, hj0m, ← HMM.out] at q1
  have hn1 : (0 : Int) < js.length := by have := HX.out.ok.pos; omega
  have hrow : ∀ (k : Nat) (x : List Int), (schP js (stN js) p)[k]? = some x → x.length = m ∧ ∀ y ∈ x, 0 ≤ y ∧ y ≤ 999999 := fun k x hx => by
    have h := sch_num HX.out.ok.ok HX.out.ok.few HP.out x (List.mem_of_getElem? hx)
    rw [HMM.out]
    exact h
  have HROW := Lib.hid hrow
  have hgap : ∀ (i a a' c : Nat) (x x' : List Int) (j : JobT), p[i]? = some a → p[i + 1]? = some a' → (schP js (stN js) p)[a]? = some x → (schP js (stN js) p)[a']? = some x' → js[a]? = some j → c < m → at0 x c + at0 j.2.1 c ≤ at0 x' c := fun i a a' c x x' j h1 h2 h3 h4 h5 h6 => by
    have g1 := (sch_at HX.out.ok.ok HP.out h1).1
    have g2 := (sch_at HX.out.ok.ok HP.out h2).1
    obtain rfl := Option.some.inj (h3.symm.trans g1)
    obtain rfl := Option.some.inj (h4.symm.trans g2)
    obtain rfl : jobK js a = j := Option.some.inj ((jobK_mem (HP.out.lt a (List.mem_of_getElem? h1))).1.symm.trans h5)
    exact sch_gap HX.out.ok.ok HP.out h1 h2 (by omega) (by rw [← HMM.out]; exact h6)
  have HGAP := Lib.hid hgap
  have hSl := HSS.out.below hR
  have HSV := Lib.hid hSl
  have hm8 := HM8.out
  rw [← HMM.out] at hm8
  have HMB := Lib.hid hm8
  have hZ := Below.refl V10.heap.size V10
  clear hK0 hj0 hj0m hrow hgap hSl hm8
  go_wp2_with fail
  clear d1 d2 q1
  go_loopw [153] (fun i wr => ∃ k : Nat, k ≤ js.length ∧ i = .int .i64 k ∧ wr = V10) (fun i _ => js.length - (intOf i).toNat)
  case atStart => exact ⟨0, Nat.zero_le _, rfl, rfl⟩
  case round =>
    obtain ⟨k, hk, rfl, hwe⟩ := hrel
    obtain rfl : V10 = wr := hwe.symm
    rcases Nat.lt_or_eq_of_le hk with hkn | rfl
    · obtain ⟨bS, oS, x, Ax, cx, e1, hbS, hxk, rS, hxs⟩ := HSV.out.cells (k := k) (by rw [HSZ.out.1.1]; exact hkn)
      injection e1 with e1
      injection e1 with e1 e2
      subst e1 e2
      have hxm := (HROW.out k x hxk).1
      rw [hxm, Nat.zero_add] at rS
      have hi0 : (0 : Int) ≤ k := by omega
      have hi1 : (k : Int) < js.length := by omega
      have HK := Lib.hid (show k + 1 ≤ js.length from hkn)
      have HM := Lib.hid (show js.length - (k + 1) < js.length - k by omega)
      obtain ⟨wk1, wk2⟩ := wrapsV (show k < 1048576 by have := HL5.out; omega)
      clear hxk hxs hxm
      go_wp2_with fail
      go_roundw
      case rel => exact ⟨k + 1, HK.out, by simp, by first | trivial | rfl⟩
      case measure => exact HM.out
    · go_wp2_with fail
      go_loopw [22] (fun i wr => ∃ q : Nat, q + 1 ≤ js.length ∧ i = .int .i64 ((q : Int) + 1) ∧ Below V10.heap.size V10 wr) (fun i _ => js.length + 1 - (intOf i).toNat)
      case atStart => exact ⟨0, HX.out.ok.pos, rfl, hZ⟩
      case round =>
        clear hZ
        obtain ⟨q, hq, rfl, hZ⟩ := hrel
        rename World => v1
        rcases Nat.lt_or_eq_of_le hq with hqn | hqe
        · have HQK := Lib.hid (show q + 1 + 1 ≤ js.length from hqn)
          have HQM := Lib.hid (show js.length + 1 - (q + 1 + 1) < js.length + 1 - (q + 1) by omega)
          have hqq : (q : Int) + 1 < (js.length : Int) := by omega
          go_wp2_with fail
          go_loopw [171] (fun i wr => ∃ c : Nat, c ≤ m ∧ i = .int .i64 c ∧ Below V10.heap.size V10 wr) (fun i _ => m - (intOf i).toNat)
          case atStart => exact ⟨0, Nat.zero_le _, rfl, hZ⟩
          case round =>
            clear hZ
            obtain ⟨c, hc, rfl, hZ⟩ := hrel
            rename World => v2
            rcases Nat.lt_or_eq_of_le hc with hcn | rfl
            · have hXZ := hX.trans (hZ.mono hX.size)
              have hil := HIL.out
              obtain ⟨bo, oo, xo, hA, -, hbo, hxo, rxo⟩ := (HKSO.out _ hXZ).cells (k := q + 1) (by omega)
              subst hA
              obtain ⟨a', ha', rfl⟩ := ints_get hxo
              obtain ⟨bo2, oo2, xo2, hA2, -, -, hxo2, rxo2⟩ := (HKSO.out _ hXZ).cells (k := q) (by omega)
              injection hA2 with hA2
              injection hA2 with hA2 hA3
              subst hA2 hA3
              obtain ⟨a, ha, rfl⟩ := ints_get hxo2
              have hal := HP.out.lt a (List.mem_of_getElem? ha)
              have hal' := HP.out.lt a' (List.mem_of_getElem? ha')
              obtain ⟨bS, oS, x, Ax, cx, e1, hbS, hxk, rS, hxs⟩ := (HSV.out.below hZ).cells (k := a) (by rw [HSZ.out.1.1]; exact hal)
              injection e1 with e1
              injection e1 with e1 e2
              subst e1 e2
              obtain ⟨bS, oS, x', Ax', cx', e1, -, hxk', rS', hxs'⟩ := (HSV.out.below hZ).cells (k := a') (by rw [HSZ.out.1.1]; exact hal')
              injection e1 with e1
              injection e1 with e1 e2
              subst e1 e2
              have hxm := HROW.out a x hxk
              have hxm' := HROW.out a' x' hxk'
              obtain ⟨bx, ox, y, rfl, -, hbx, hy, ry⟩ := hxs.cells (k := c) (by rw [hxm.1]; exact hcn)
              obtain ⟨bx', ox', y', rfl, -, hbx', hy', ry'⟩ := hxs'.cells (k := c) (by rw [hxm'.1]; exact hcn)
              obtain ⟨j, hj⟩ : ∃ j, js[a]? = some j := ⟨_, List.getElem?_eq_getElem hal⟩
              have hjo := HX.out.ok.ok j (List.mem_of_getElem? hj)
              obtain ⟨-, -, At, Ad, ct, cd, -, t1, -, ht, -, -, -⟩ := (HKSC.out _ hXZ).at_ hj
              have htl : j.2.1.length = m := by rw [hjo.t, HMM.out]
              obtain ⟨bt, ot, z, rfl, -, hbt, hz, rz⟩ := ht.cells (k := c) (by rw [htl]; exact hcn)
              have hg := HGAP.out q a a' c x x' j ha ha' hxk hxk' hj hcn
              rw [at0_some hy, at0_some hy', at0_some hz] at hg
              have hyb := hxm.2 y (List.mem_of_getElem? hy)
              have hzb := hjo.tb z (List.mem_of_getElem? hz)
              rw [hxm.1, Nat.zero_add] at rS
              rw [hxm'.1, Nat.zero_add] at rS'
              rw [htl] at t1
              have HG := Lib.hid hg
              have ia0 : (0 : Int) ≤ a := by omega
              have ia1 : (a : Int) < js.length := by omega
              have ib0 : (0 : Int) ≤ a' := by omega
              have ib1 : (a' : Int) < js.length := by omega
              have ic0 : (0 : Int) ≤ c := by omega
              have ic1 : (c : Int) < m := by omega
              have iq0 : (0 : Int) ≤ q := by omega
              have iq1 : (q : Int) < js.length := by omega
              have iq2 : (0 : Int) ≤ (q : Int) + 1 := by omega
              have HCK := Lib.hid (show c + 1 ≤ m from hcn)
              have HCM := Lib.hid (show m - (c + 1) < m - c by omega)
              have HW1 := Lib.hid (wrapsV (show c < 1048576 by have := HMB.out; omega))
              have HW2 := Lib.hid (wrapsJ (j := q) (n := 8) (by have := HL5.out; omega) (by omega))
              have HW3 := Lib.hid (wrapC2 (n := y + z) (by omega))
              have HZ := Lib.hid (below_drewN hZ)
              obtain ⟨wa1, wa2, wa3, wa4, wa5, wa6, wa7, wa8⟩ := HW2.out
              obtain ⟨wb1, wb2⟩ := HW3.out
              obtain ⟨zb, hzb2⟩ : ∃ zb, decide (y' < y + z) = zb := ⟨_, rfl⟩
              have HZB := Lib.hid hzb2
              clear hil hxo ha' hxo2 ha hal hal' hxk hxs hxk' hxs' hxm hxm' hy hy' hj hjo ht htl hz hg hyb hzb hXZ hZ
              go_wp2_with fail
              go_quiet (fail)
              cases zb with
              | true => exact absurd (of_decide_eq_true HZB.out) (by have := HG.out; omega)
              | false =>
                obtain ⟨wc1, wc2⟩ := HW1.out
                go_wp2_with fail
                go_roundw
                case rel => exact ⟨c + 1, HCK.out, by simp, HZ.out _⟩
                case measure => exact HCM.out
            · have HW2 := Lib.hid (wrapsJ (j := q) (n := 8) (by have := HL5.out; omega) (by omega))
              obtain ⟨wa1, wa2, wa3, wa4, wa5, wa6, -, -⟩ := HW2.out
              go_wp2_with fail
              go_roundw
              case rel => exact ⟨q + 1, HQK.out, by simp, hZ⟩
              case measure => first | exact HQM.out | (have := HQM.out; simp only [intOf]; omega)
        · have hqe2 : (js.length : Int) = (q : Int) + 1 := by omega
          have hend : decide ((q : Int) + 1 < (js.length : Int)) = false := decide_eq_false (by omega)
          clear hqe
          go_wp2_with fail
          have hXZ := hX.trans (hZ.mono hX.size)
          obtain ⟨k0, k1⟩ := HKRP.out _ hXZ
          have hm1 : (0 : Int) < m := by have := HMB.out; omega
          have hpp := HPP.out
          clear hXZ hend hqe2
          go_wp2_with fail
          go_quiet (fail)
          rename_i nq
          obtain ⟨i, hi⟩ : ∃ i : Nat, pa % (js.length : Int) = i := ⟨(pa % (js.length : Int)).toNat, (Int.toNat_of_nonneg (Int.emod_nonneg _ (by omega))).symm⟩
          obtain ⟨c, hc⟩ : ∃ c : Nat, pb % (m : Int) = c := ⟨(pb % (m : Int)).toNat, (Int.toNat_of_nonneg (Int.emod_nonneg _ (by omega))).symm⟩
          have hin : i < js.length := by have := Int.emod_lt_of_pos pa hn1; omega
          have hcm : c < m := by have := Int.emod_lt_of_pos pb hm1; omega
          rw [hi, hc]
          obtain ⟨v3, hv3⟩ : ∃ v3, v3 = v1.drewN nq := ⟨_, rfl⟩
          have hZ3 : Below V10.heap.size V10 v3 := by rw [hv3]; exact below_drewN hZ nq
          rw [← hv3]
          obtain ⟨jj, hj, hy0, hy1, hy2⟩ := info_parts (P := Tryz.prog) (e := 23) (z := .slice none 0 0) (size := 1) (bytes := 24) (by kernel_rfl)
          have HIN := Lib.hid (And.intro hin hcm)
          clear hi hc hin hcm hv3 hZ k0 k1 hpp
          have hn32 : js.length ≤ 32 := by have := HL5.out; omega
          go_wp2_with (at_make; refine wpList_make_full _ rfl _ _ 48 rfl v3.heap.size 23 jj _ 1 Tryz.underlying48 hj hy0 hy1 .i64 .i64 _ _ js.length rfl rfl rfl rfl ?c1 ?c2 ?c3 ?_)
          case c1 => rw [hy2]; omega
          case c2 => unfold maxLen; omega
          case c3 => exact Nat.le_refl _
          intro v4 hown hgrow
          have hZ4 : Below v3.heap.size v3 v4 := (Below.refl _ _).grown hgrow (Nat.le_refl _) (fun k hk => by cases hk)
          have hK := RowK.made hown
          have hlen := hown.1
          clear hgrow hown
          generalize (madeCells #[Value.slice none 0 0] js.length).toList = Z at hK hlen
          rw [Nat.mul_one] at hlen
          have hE0 : EarR v4 v3.heap.size Z 0 (schP js (stN js) p) := ⟨hK, by rw [hlen, HSZ.out.1.1], fun k x h => absurd h (Nat.not_lt_zero k), fun k k' _ _ _ _ h h2 => absurd h2 (Nat.not_lt_zero k')⟩
          have hZ34 := hZ3.trans (hZ4.mono hZ3.size)
          clear hK hlen
          go_wp2_with fail
          go_loopw [226] (fun iv wr => ∃ (k : Nat) (cs : List Value), k ≤ js.length ∧ iv = .int .i64 k ∧ EarR wr v3.heap.size cs k (schP js (stN js) p) ∧ Below v3.heap.size v3 wr) (fun iv _ => js.length - (intOf iv).toNat)
          case atStart => exact ⟨0, Z, Nat.zero_le _, rfl, hE0, hZ4⟩
          case round =>
            clear hE0 hZ34 hZ4 Z
            obtain ⟨k, cs, hk, rfl, hE, hQ⟩ := hrel
            rename World => v5
            rcases Nat.lt_or_eq_of_le hk with hkn | rfl
            · have hZ5 := hZ3.trans (hQ.mono hZ3.size)
              obtain ⟨bS, oS, x, Ax, cx, e1, hbS, hxk, rS, hxs⟩ := (HSV.out.below hZ5).cells (k := k) (by rw [HSZ.out.1.1]; exact hkn)
              injection e1 with e1
              injection e1 with e1 e2
              subst e1 e2
              have hxm := (HROW.out k x hxk).1
              have hm1' : 0 < x.length := by rw [hxm]; exact HMB.out.1
              obtain ⟨bx, ox, rfl, hbx, hat⟩ := hxs.addr hm1'
              obtain ⟨W1, hW1⟩ : ∃ W1, W1 = v5.alloc (.cells #[] 3) := ⟨_, rfl⟩
              have hB1 : Below v5.heap.size v5 W1 := by subst hW1; exact (Below.refl _ _).alloc (Nat.le_refl _) _
              have ho1 : OwnI 3 W1 v5.heap.size (.slice (some ⟨v5.heap.size, 0, none⟩) 0 0) [] := by subst hW1; exact World.ownsRow_lit v5 #[] 0 (Nat.le_refl _) (Nat.zero_le _) rfl
              obtain ⟨A2, c2, W2, hap, hown, hg, -, -⟩ := run_append_ints W1 23 v5.heap.size _ [] x ho1 bx ox cx (hat.below hB1 hbx) (fun e => by rw [e] at hm1'; simp at hm1') (by rw [hxm]; show 0 + m ≤ 100000; have := HMB.out; omega) hB1.size
              have hB2 : Below v5.heap.size v5 W2 := hB1.grown hg hB1.size (fun g e => by have := (ho1.lt g e).1; omega)
              simp only [List.length_nil, Nat.zero_add, List.nil_append] at hap hown
              have hvf : ∃ gk ck, (.slice A2 x.length c2 : Value) = .slice (some ⟨gk, 0, none⟩) x.length ck := by
                rcases hown.form with ⟨-, e⟩ | ⟨gk, ck, e, -⟩
                · rw [e] at hm1'; simp at hm1'
                · exact ⟨gk, ck, e⟩
              obtain ⟨w6, hw6⟩ : ∃ w6, w6 = W2.setCell ⟨v3.heap.size, k, none⟩ (.slice A2 x.length c2) := ⟨_, rfl⟩
              have hE2 := earR_step hE (by rw [HSZ.out.1.1]; exact hkn) hxk hB2 hown hvf
              rw [← hw6] at hE2
              have hQ6 : Below v3.heap.size v3 w6 := by rw [hw6]; exact (hQ.trans (hB2.mono hQ.size)).setCell (Nat.le_refl _) _
              have hKW := hE.1.below hB2
              obtain ⟨v0, hv0⟩ : ∃ v0, cs[k]? = some v0 := ⟨_, List.getElem?_eq_getElem (by rw [hE.2.1, HSZ.out.1.1]; exact hkn)⟩
              have o0 := hKW.cell hv0
              have fz := hKW.fz
              rw [Nat.zero_add] at rS
              obtain ⟨xl, hxl⟩ : ∃ xl, xl = x.length := ⟨_, rfl⟩
              rw [← hxl] at rS hap hw6
              have HAP := Lib.hid hap
              have HW1 := Lib.hid hW1
              have HW6 := Lib.hid hw6
              have HR := Lib.hid (And.intro hE2 hQ6)
              have hk0 : (0 : Int) ≤ k := by omega
              have hk1 : (k : Int) < js.length := by omega
              have HK := Lib.hid (show k + 1 ≤ js.length from hkn)
              have HM := Lib.hid (show js.length - (k + 1) < js.length - k by omega)
              have HWK := Lib.hid (wrapsV (show k < 1048576 by have := HL5.out; omega))
              clear hap hW1 hw6 hE2 hQ6 hKW hv0 hvf hown hg ho1 hB1 hB2 hat hm1' hxm hxk hxs hE hQ hZ5 hxl
              obtain ⟨wk1, wk2⟩ := HWK.out
              go_wp2_with (at_builtin; rw [← HW1.out]; refine Lib.wpList_append_run _ rfl _ _ _ _ rfl _ _ rfl rfl _ _ HAP.out ?_)
              rw [← HW6.out]
              go_roundw
              case rel => exact ⟨k + 1, _, HK.out, by simp, HR.out.1, HR.out.2⟩
              case measure => exact HM.out
            · obtain ⟨hin, hcm⟩ := HIN.out
              obtain ⟨x, hx⟩ : ∃ x, (schP js (stN js) p)[i]? = some x := ⟨_, List.getElem?_eq_getElem (by rw [HSZ.out.1.1]; exact hin)⟩
              have hxm := HROW.out i x hx
              obtain ⟨y, hy⟩ : ∃ y, x[c]? = some y := ⟨_, List.getElem?_eq_getElem (by rw [hxm.1]; exact hcm)⟩
              have hyb := hxm.2 y (List.mem_of_getElem? hy)
              rw [← HSZ.out.1.1] at hE
              obtain ⟨gi, ci, e1, e2, e3, e4, e5, e6⟩ := earR_sl hE hx hy
              have r0 := hE.1.cell e1
              rw [hxm.1] at r0
              obtain ⟨v6, hv6⟩ : ∃ v6, v6 = v5.setCell ⟨gi, c, none⟩ (.int .i64 (y - 1)) := ⟨_, rfl⟩
              rw [← hv6] at e6
              rw [HSZ.out.1.1] at e6
              have hQ6 : Below v3.heap.size v3 v6 := by rw [hv6]; exact hQ.setCell (Nat.le_of_lt e4) _
              have hX6 := hX.trans ((hZ3.trans (hQ6.mono hZ3.size)).mono hX.size)
              have hel : (earlyS (schP js (stN js) p) i c).length ≤ 1000 ∧ ∀ z ∈ earlyS (schP js (stN js) p) i c, z.length ≤ 1000 := by
                unfold earlyS
                refine ⟨by rw [List.length_set]; exact HSZ.out.1.2.1, fun z hz => ?_⟩
                rcases List.mem_or_eq_of_mem_set hz with h | h
                · exact HSZ.out.1.2.2 z h
                · rw [h, List.length_set, hx]
                  exact HSZ.out.1.2.2 x (List.mem_of_getElem? hx)
              have hw1 : wrap64 (y - 1) = y - 1 := wrap64_small (by omega)
              have hw2 : IntKind.i64.wrap (y - 1) = y - 1 := wrap_small (by omega)
              have ii0 : (0 : Int) ≤ i := by omega
              have ii1 : (i : Int) < js.length := by omega
              have ic0 : (0 : Int) ≤ c := by omega
              have ic1 : (c : Int) < m := by omega
              have HE6 := Lib.hid e6
              have HEL := Lib.hid hel
              have HX6 := Lib.hid hX6
              have HV6 := Lib.hid hv6
              have fz := e3 c
              clear hx hxm hy hyb hE e1 e3 e6 hv6 hQ6 hX6 hel hQ hin hcm
              go_wp2_with fail
              rw [← HV6.out]
              have hX := HX6.out
              clear r0 e2 fz hw1 hw2
              refine (kCs _ _ _ hX HE6.out HEL.out.1 HEL.out.2).mono ?_
              rintro e V11 ⟨⟨c7, e7, rfl, hc7⟩, hB⟩
              replace hX := hX.trans (hB.mono hX.size)
              have hern : (∀ j ∈ js, 0 < at0 j.2.1 c) → e7 ≠ 0 := fun hb => startsX_early HX.out HP.out HIN.out.1 (by rw [← HMM.out]; exact HIN.out.2) hb hc7
              have HERN := Lib.hid hern
              have hbk0 : busyK js c 0 = true := by unfold busyK; simp
              have HBK0 := Lib.hid hbk0
              clear hB hc7 hern kCs hbk0
              go_wp2_with fail
              have hY := Below.refl V11.heap.size V11
              go_loopw [30, 256] (fun bv iv wr => ∃ k : Nat, k ≤ js.length ∧ iv = .int .i64 k ∧ bv = .bool (busyK js c k) ∧ Below V11.heap.size V11 wr) (fun _ iv _ => js.length - (intOf iv).toNat)
              case atStart => exact ⟨0, Nat.zero_le _, rfl, by rw [HBK0.out], hY⟩
              case round =>
                clear hY
                obtain ⟨k, hk, rfl, rfl, hY⟩ := hrel
                rename World => v7
                rcases Nat.lt_or_eq_of_le hk with hkn | rfl
                · obtain ⟨⟨nm, t, d⟩, hj⟩ : ∃ j, js[k]? = some j := ⟨_, List.getElem?_eq_getElem hkn⟩
                  have hXY := hX.trans (hY.mono hX.size)
                  obtain ⟨-, -, At, Ad, ct, cd, q0, q1, q2, ht, hd, -, -⟩ := (HKSC.out _ hXY).at_ hj
                  dsimp only at q0 q1 q2 ht hd
                  have htl : t.length = m := by rw [(HX.out.ok.ok _ (List.mem_of_getElem? hj)).t, HMM.out]
                  rw [htl] at q1 ht
                  obtain ⟨bt, ot, z, rfl, -, hbt, hz, rz⟩ := ht.cells (k := c) (by rw [htl]; exact HIN.out.2)
                  have hbs := busyK_succ (c := c) hj
                  dsimp only at hbs
                  rw [at0_some hz] at hbs
                  obtain ⟨bb, hbb⟩ : ∃ bb, bb = busyK js c k := ⟨_, rfl⟩
                  rw [← hbb] at hbs ⊢
                  obtain ⟨zb, hzb⟩ : ∃ zb, decide ((0 : Int) < z) = zb := ⟨_, rfl⟩
                  rw [hzb] at hbs
                  have HBS := Lib.hid hbs
                  have HYA := Lib.hid (hY.alloc hY.size (.cells #[.string nm, .slice (some ⟨bt, ot, none⟩) m ct, .slice Ad d.length cd] 70))
                  have hk0 : (0 : Int) ≤ k := by omega
                  have hk1 : (k : Int) < js.length := by omega
                  have ic0 : (0 : Int) ≤ c := by omega
                  have ic1 : (c : Int) < m := by have := HIN.out; omega
                  have hbn : bt ≠ v7.heap.size := Nat.ne_of_lt hbt
                  have HK := Lib.hid (show k + 1 ≤ js.length from hkn)
                  have HM := Lib.hid (show js.length - (k + 1) < js.length - k by omega)
                  obtain ⟨wk1, wk2⟩ := wrapsV (show k < 1048576 by have := HL5.out; omega)
                  clear hj hXY ht hd htl hz hbs hbb hY
                  cases bb with
                  | true =>
                    go_wp2_with fail
                    go_roundw
                    case rel => exact ⟨k + 1, HK.out, by simp, by rw [HBS.out]; rfl, HYA.out⟩
                    case measure => exact HM.out
                  | false =>
                    go_wp2_with fail
                    go_roundw
                    case rel => exact ⟨k + 1, HK.out, by simp, by rw [HBS.out]; rfl, HYA.out⟩
                    case measure => exact HM.out
                · have hXY := hX.trans (hY.mono hX.size)
                  have HXY := Lib.hid hXY
                  clear hX hY hXY
                  by_cases hz7 : e7 = 0
                  case' pos =>
                    have hbf : busyK js c js.length = false := by
                      unfold busyK
                      rw [List.take_length]
                      exact decide_eq_false fun h => HERN.out h hz7
                    subst hz7
                    rw [hbf]
                    clear hbf
                    go_wp2_with fail
                  case' neg =>
                    have hzb7 : (e7 == 0) = false := by simpa using hz7
                    clear hz7
                    go_wp2_with fail
                  all_goals
                    as_aux_lemma =>
                      have hmake := make8 HMB.out.2
                      go_loopw [33, 277] (fun sv iv wr => ∃ k : Nat, k ≤ js.length ∧ iv = .int .i64 k ∧ sv = .int .i64 (costK js (List.replicate m 1) k) ∧ Below w1.heap.size w1 wr) (fun _ iv _ => js.length - (intOf iv).toNat)
                      case atStart => exact ⟨0, Nat.zero_le _, rfl, rfl, HXY.out⟩
                      case round =>
                        obtain ⟨k, hk, rfl, rfl, hX⟩ := hrel
                        rename World => v8
                        have hcb := costK_one HX.out.ok HMB.out.2 k hk
                        rcases Nat.lt_or_eq_of_le hk with hkn | rfl
                        · obtain ⟨⟨nm, t, d⟩, hj⟩ : ∃ j, js[k]? = some j := ⟨_, List.getElem?_eq_getElem hkn⟩
                          obtain ⟨-, -, At, Ad, ct, cd, q0, q1, q2, ht, hd, -, -⟩ := (HKSC.out _ hX).at_ hj
                          dsimp only at q0 q1 q2 ht hd
                          have htl : t.length = m := by rw [(HX.out.ok.ok _ (List.mem_of_getElem? hj)).t, HMM.out]
                          rw [htl] at q1 ht
                          have hcs := costK_succ (r := List.replicate m (1 : Int)) hj
                          rw [List.length_replicate] at hcs
                          have hdb := dotK_one (HX.out.ok.ok _ (List.mem_of_getElem? hj)).tb m m
                          dsimp only at hcs hdb
                          obtain ⟨dk, hdk⟩ : ∃ dk, dk = dotK t (List.replicate m 1) m := ⟨_, rfl⟩
                          rw [← hdk] at hcs hdb
                          obtain ⟨ck, hck⟩ : ∃ ck, ck = costK js (List.replicate m 1) k := ⟨_, rfl⟩
                          rw [← hck] at hcs hcb ⊢
                          have HCS := Lib.hid hcs
                          have hm8 := HMB.out
                          have HWD := Lib.hid (wrapC2 (n := ck + dk) (by omega))
                          obtain ⟨W1, hW1⟩ : ∃ W1, W1 = v8.alloc (.cells #[.string nm, .slice At m ct, .slice Ad d.length cd] 70) := ⟨_, rfl⟩
                          have rb : RowK W1 70 v8.heap.size [.string nm, .slice At m ct, .slice Ad d.length cd] := by subst hW1; exact heap_alloc_new v8 _
                          have hB1 : Below v8.heap.size v8 W1 := by subst hW1; exact (Below.refl _ _).alloc (Nat.le_refl _) _
                          have hXW := hX.trans (hB1.mono hX.size)
                          have ht1 := ht.below hB1
                          have hd1 := hd.below hB1
                          obtain ⟨BX, hBX⟩ : ∃ BX, BX = v8.heap.size := ⟨_, rfl⟩
                          rw [← hBX] at rb
                          have kk : ∀ V, Below W1.heap.size W1 V → V.cell? ⟨BX, 0, none⟩ = some (.string nm) ∧ V.cell? ⟨BX, 1, none⟩ = some (.slice At m ct) ∧ V.cell? ⟨BX, 2, none⟩ = some (.slice Ad d.length cd) := fun V h => ⟨(rb.below h).cell (i := 0) rfl, (rb.below h).cell (i := 1) rfl, (rb.below h).cell (i := 2) rfl⟩
                          have kO := fun V (h : Below W1.heap.size W1 V) b vr x (hrow : RowK V 70 b [.string nm, .slice At m ct, .slice Ad d.length cd]) (hr : SlI V vr (List.replicate m x)) (h01 : x = 0 ∨ x = 1) => costOne_ok HX.out HMM.out.symm hj At Ad ct cd V (ht1.below h) (hd1.below h) b hrow vr x hr h01
                          have kZ := fun V (h : Below W1.heap.size W1 V) b vr hrow hr => kO V h b vr 0 hrow hr (.inl rfl)
                          simp only [dotK_zero] at kZ
                          have kD := fun V (h : Below W1.heap.size W1 V) b vr hrow hr => kO V h b vr 1 hrow hr (.inr rfl)
                          simp only [← hdk] at kD
                          have HKZ := Lib.hid kZ
                          have HKD := Lib.hid kD
                          have HKK := Lib.hid kk
                          have HXW := Lib.hid hXW
                          have hD1 := (Below.refl W1.heap.size W1).drew
                          have hky := kk _ hD1
                          have HW1 := Lib.hid (And.intro hW1 hBX)
                          have hk0 : (0 : Int) ≤ k := by omega
                          have hk1 : (k : Int) < js.length := by omega
                          have HK := Lib.hid (show k + 1 ≤ js.length from hkn)
                          have HM := Lib.hid (show js.length - (k + 1) < js.length - k by omega)
                          have HWK := Lib.hid (wrapsV (show k < 1048576 by have := HL5.out; omega))
                          -- both orders of the two rows
                          obtain ⟨Wa, hWa⟩ : ∃ Wa, Wa = (W1.alloc (.cells #[.string nm, .slice At m ct, .slice Ad d.length cd] 70)).drew := ⟨_, rfl⟩
                          have hBa : Below W1.heap.size W1 Wa := by rw [hWa]; exact ((Below.refl W1.heap.size W1).alloc (Nat.le_refl _) _).drew
                          have hra : RowK Wa 70 W1.heap.size [.string nm, .slice At m ct, .slice Ad d.length cd] := by rw [hWa]; exact heap_alloc_new W1 _
                          obtain ⟨Wb, hWb⟩ : ∃ Wb, Wb = Wa.alloc (.cells (Array.replicate m (Value.int .i64 0)) 3) := ⟨_, rfl⟩
                          have hBb : Below Wa.heap.size Wa Wb := by rw [hWb]; exact (Below.refl _ _).alloc (Nat.le_refl _) _
                          have hzb : SlI Wb (.slice (some ⟨Wa.heap.size, 0, none⟩) m m) (List.replicate m 0) := by
                            have h := (zeros_own hm8.2 Wa Wa.heap.size (Nat.le_refl _)).sl
                            rw [show (List.replicate m (Value.int IntKind.i64 0)).toArray = Array.replicate m (Value.int .i64 0) by simp, ← hWb] at h
                            exact h
                          have hrb := hra.below hBb
                          have hB1b := hBa.trans (hBb.mono hBa.size)
                          obtain ⟨Wc, hWc⟩ : ∃ Wc, Wc = (W1.alloc (.cells (Array.replicate m (Value.int .i64 0)) 3)).drew := ⟨_, rfl⟩
                          have hBc : Below W1.heap.size W1 Wc := by rw [hWc]; exact ((Below.refl W1.heap.size W1).alloc (Nat.le_refl _) _).drew
                          have hzc : SlI Wc (.slice (some ⟨W1.heap.size, 0, none⟩) m m) (List.replicate m 0) := by
                            have h := (zeros_own hm8.2 W1 W1.heap.size (Nat.le_refl _)).sl
                            rw [show (List.replicate m (Value.int IntKind.i64 0)).toArray = Array.replicate m (Value.int .i64 0) by simp] at h
                            rw [hWc]
                            exact h.below (Below.refl _ _).drew
                          obtain ⟨Wd, hWd⟩ : ∃ Wd, Wd = Wc.alloc (.cells #[.string nm, .slice At m ct, .slice Ad d.length cd] 70) := ⟨_, rfl⟩
                          have hBd : Below Wc.heap.size Wc Wd := by rw [hWd]; exact (Below.refl _ _).alloc (Nat.le_refl _) _
                          have hrd : RowK Wd 70 Wc.heap.size [.string nm, .slice At m ct, .slice Ad d.length cd] := by rw [hWd]; exact heap_alloc_new Wc _
                          have hB1d := hBc.trans (hBd.mono hBc.size)
                          have hzd := hzc.below hBd
                          have HA := Lib.hid (And.intro hWa hWb)
                          have HC := Lib.hid (And.intro hWc hWd)
                          have HCA := Lib.hid (HKZ.out Wb hB1b W1.heap.size _ hrb hzb)
                          have HCD := Lib.hid (HKZ.out Wd hB1d Wc.heap.size _ hrd hzd)
                          have HBB := Lib.hid (And.intro hBa (And.intro hB1b (And.intro hBc hB1d)))
                          clear hj ht hd htl hcs hdb hdk hck hcb hX rb hB1 hXW ht1 hd1 kk kO kZ kD hW1 hBX hWa hBa hra hWb hBb hzb hrb hB1b hWc hBc hzc hWd hBd hrd hB1d hzd hm8
                          have hky1 := (HKK.out _ (Below.refl _ _))
                          go_wp2_with fail
                          rw [← HW1.out.1, ← HW1.out.2]
                          clear q0 q1 q2
                          refine wp_region_held_drew (S := fun V => V.cell? ⟨BX, 0, none⟩ = some (.string nm) ∧ V.cell? ⟨BX, 1, none⟩ = some (.slice At m ct) ∧ V.cell? ⟨BX, 2, none⟩ = some (.slice Ad d.length cd)) (by kernel_rfl) hky (fun hHeld => ?_)
                          refine held_yes 0 (some 282) (.agg #[.string nm, .slice At m ct, .slice Ad d.length cd]) rfl rfl (by kernel_rfl) (by kernel_rfl) (by kernel_rfl) (fun _ _ _ h => h) rfl (fun w' hS => by obtain ⟨s0, s1, s2⟩ := hS; go_simp) hHeld ?_
                          try simp only [Act.put, List.setIfInBounds_toArray, List.set_cons_zero, List.set_cons_succ]
                          refine held_yes 2 (some 284) (.int .i64 m) rfl rfl (by kernel_rfl) (by kernel_rfl) (by kernel_rfl) (fun _ _ _ h => h) rfl (fun w' hS => by skip; go_simp) hHeld ?_
                          try simp only [Act.put, List.setIfInBounds_toArray, List.set_cons_zero, List.set_cons_succ]
                          refine wpAnyH_ready (rs := [1, 3]) (by kernel_rfl) (by simp) ?_
                          refine AllReadyH.cons rfl (fun K hK => ?_) (AllReadyH.cons rfl (fun K hK => ?_) AllReadyH.nil)
                          · go_simp
                            rw [← HA.out.1]
                            refine hK.out _ _ (HKK.out _ HBB.out.1) (fun hHeld => ?_)
                            clear hK K
                            try simp only [Act.put, List.setIfInBounds_toArray, List.set_cons_zero, List.set_cons_succ]
                            refine wpAnyH_ready (rs := [3]) (by kernel_rfl) (by simp) ?_
                            refine AllReadyH.cons rfl (fun K hK => ?_) AllReadyH.nil
                            go_simp
                            rw [← HA.out.2]
                            refine hK.out _ _ (HKK.out _ HBB.out.2.1) (fun hHeld => ?_)
                            clear hK K
                            try simp only [Act.put, List.setIfInBounds_toArray, List.set_cons_zero, List.set_cons_succ]
                            refine wpAnyH_ready (rs := [4]) (by kernel_rfl) (by simp) ?_
                            refine AllReadyH.cons rfl (fun K hK => ?_) AllReadyH.nil
                            go_simp
                            refine (HCA.out).mono ?_
                            rintro e VC ⟨rfl, hBC⟩
                            go_wp2_with fail
                            refine hK.out _ _ (HKK.out _ (HBB.out.2.1.trans (hBC.mono HBB.out.2.1.size))) (fun hHeld => ?_)
                            clear hK K
                            try simp only [Act.put, List.setIfInBounds_toArray, List.set_cons_zero, List.set_cons_succ]
                            refine held_yes 5 (some 281) (.tuple #[.int .i64 0, .int .i64 0]) rfl rfl (by kernel_rfl) (by kernel_rfl) (by kernel_rfl) (fun _ _ _ h => h) rfl (fun w' hS => by skip; go_simp) hHeld ?_
                            try simp only [Act.put, List.setIfInBounds_toArray, List.set_cons_zero, List.set_cons_succ]
                            refine held_yes 6 (some 287) (.int .i64 0) rfl rfl (by kernel_rfl) (by kernel_rfl) (by kernel_rfl) (fun _ _ _ h => h) rfl (fun w' hS => by skip; go_simp) hHeld ?_
                            try simp only [Act.put, List.setIfInBounds_toArray, List.set_cons_zero, List.set_cons_succ]
                            refine held_yes 7 (some 288) (.int .i64 0) rfl rfl (by kernel_rfl) (by kernel_rfl) (by kernel_rfl) (fun _ _ _ h => h) rfl (fun w' hS => by skip; go_simp) hHeld ?_
                            try simp only [Act.put, List.setIfInBounds_toArray, List.set_cons_zero, List.set_cons_succ]
                            have hXC := HBB.out.2.1.trans (hBC.mono HBB.out.2.1.size)
                            refine held_yes 8 (some 36) (.int .i64 0) rfl rfl (by kernel_rfl) (by kernel_rfl) (by kernel_rfl) (fun _ _ _ h => h) rfl (fun w' hS => by skip; go_simp) hHeld ?_
                            try simp only [Act.put, List.setIfInBounds_toArray, List.set_cons_zero, List.set_cons_succ]
                            refine held_yes 9 (some 37) (.int .i64 0) rfl rfl (by kernel_rfl) (by kernel_rfl) (by kernel_rfl) (fun _ _ _ h => h) rfl (fun w' hS => by skip; go_simp) hHeld ?_
                            try simp only [Act.put, List.setIfInBounds_toArray, List.set_cons_zero, List.set_cons_succ]
                            refine wpAnyH_done (by kernel_rfl) ?_ _
                            clear hHeld
                            obtain ⟨We, hWe⟩ : ∃ We, We = (VC.alloc (.cells #[.string nm, .slice At m ct, .slice Ad d.length cd] 70)).drew := ⟨_, rfl⟩
                            have hBe : Below VC.heap.size VC We := by rw [hWe]; exact ((Below.refl VC.heap.size VC).alloc (Nat.le_refl _) _).drew
                            have hre : RowK We 70 VC.heap.size [.string nm, .slice At m ct, .slice Ad d.length cd] := by rw [hWe]; exact heap_alloc_new VC _
                            have hXe := hXC.trans (hBe.mono hXC.size)
                            have hXd := hXC.drew
                            have HWE := Lib.hid hWe
                            have HRE := Lib.hid hre
                            have hkyc := HKK.out _ hXd
                            clear hWe hBe hre hBC
                            go_wp2_with fail
                            refine wp_region_held_drew (S := fun V => V.cell? ⟨BX, 0, none⟩ = some (.string nm) ∧ V.cell? ⟨BX, 1, none⟩ = some (.slice At m ct) ∧ V.cell? ⟨BX, 2, none⟩ = some (.slice Ad d.length cd)) (by kernel_rfl) hkyc (fun hHeld => ?_)
                            refine held_yes 0 (some 290) (.agg #[.string nm, .slice At m ct, .slice Ad d.length cd]) rfl rfl (by kernel_rfl) (by kernel_rfl) (by kernel_rfl) (fun _ _ _ h => h) rfl (fun w' hS => by obtain ⟨s0, s1, s2⟩ := hS; go_simp) hHeld ?_
                            try simp only [Act.put, List.setIfInBounds_toArray, List.set_cons_zero, List.set_cons_succ]
                            refine held_yes 2 (some 292) (.int .i64 m) rfl rfl (by kernel_rfl) (by kernel_rfl) (by kernel_rfl) (fun _ _ _ h => h) rfl (fun w' hS => by skip; go_simp) hHeld ?_
                            try simp only [Act.put, List.setIfInBounds_toArray, List.set_cons_zero, List.set_cons_succ]
                            refine wpAnyH_ready (rs := [1, 3]) (by kernel_rfl) (by simp) ?_
                            refine AllReadyH.cons rfl (fun K hK => ?_) (AllReadyH.cons rfl (fun K hK => ?_) AllReadyH.nil)
                            · go_simp
                              rw [← HWE.out]
                              refine hK.out _ _ (HKK.out _ hXe) (fun hHeld => ?_)
                              clear hK K
                              try simp only [Act.put, List.setIfInBounds_toArray, List.set_cons_zero, List.set_cons_succ]
                              refine wpAnyH_ready (rs := [3]) (by kernel_rfl) (by simp) ?_
                              refine AllReadyH.cons rfl (fun K hK => ?_) AllReadyH.nil
                              go_simp
                              refine (lawOnes_ok m HMB.out.2 We).mono ?_
                              rintro e Vo ⟨⟨uo, rfl, huo⟩, hBo⟩
                              go_wp2_with fail
                              refine hK.out _ _ (HKK.out _ (hXe.trans (hBo.mono hXe.size))) (fun hHeld => ?_)
                              clear hK K
                              try simp only [Act.put, List.setIfInBounds_toArray, List.set_cons_zero, List.set_cons_succ]
                              have hXo := hXe.trans (hBo.mono hXe.size)
                              have kF := HKD.out Vo hXo VC.heap.size uo (HRE.out.below hBo) huo
                              refine wpAnyH_ready (rs := [4]) (by kernel_rfl) (by simp) ?_
                              refine AllReadyH.cons rfl (fun K hK => ?_) AllReadyH.nil
                              go_simp
                              refine (kF).mono ?_
                              rintro e VD ⟨rfl, hBD⟩
                              go_wp2_with fail
                              refine hK.out _ _ (HKK.out _ (hXo.trans (hBD.mono hXo.size))) (fun hHeld => ?_)
                              clear hK K
                              try simp only [Act.put, List.setIfInBounds_toArray, List.set_cons_zero, List.set_cons_succ]
                              refine held_yes 5 (some 289) (.tuple #[.int .i64 dk, .int .i64 0]) rfl rfl (by kernel_rfl) (by kernel_rfl) (by kernel_rfl) (fun _ _ _ h => h) rfl (fun w' hS => by skip; go_simp) hHeld ?_
                              try simp only [Act.put, List.setIfInBounds_toArray, List.set_cons_zero, List.set_cons_succ]
                              refine held_yes 6 (some 295) (.int .i64 dk) rfl rfl (by kernel_rfl) (by kernel_rfl) (by kernel_rfl) (fun _ _ _ h => h) rfl (fun w' hS => by skip; go_simp) hHeld ?_
                              try simp only [Act.put, List.setIfInBounds_toArray, List.set_cons_zero, List.set_cons_succ]
                              refine held_yes 7 (some 296) (.int .i64 0) rfl rfl (by kernel_rfl) (by kernel_rfl) (by kernel_rfl) (fun _ _ _ h => h) rfl (fun w' hS => by skip; go_simp) hHeld ?_
                              try simp only [Act.put, List.setIfInBounds_toArray, List.set_cons_zero, List.set_cons_succ]
                              refine held_yes 8 (some 38) (.int .i64 dk) rfl rfl (by kernel_rfl) (by kernel_rfl) (by kernel_rfl) (fun _ _ _ h => h) rfl (fun w' hS => by skip; go_simp) hHeld ?_
                              try simp only [Act.put, List.setIfInBounds_toArray, List.set_cons_zero, List.set_cons_succ]
                              refine held_yes 9 (some 39) (.int .i64 0) rfl rfl (by kernel_rfl) (by kernel_rfl) (by kernel_rfl) (fun _ _ _ h => h) rfl (fun w' hS => by skip; go_simp) hHeld ?_
                              try simp only [Act.put, List.setIfInBounds_toArray, List.set_cons_zero, List.set_cons_succ]
                              refine wpAnyH_done (by kernel_rfl) ?_ _
                              clear hHeld
                              have hXD := hXo.trans (hBD.mono hXo.size)
                              clear kF hBo hBD huo
                              have hXE := HXW.out.trans (hXD.mono HXW.out.size)
                              obtain ⟨wd1, wd2⟩ := HWD.out
                              obtain ⟨wk1, wk2⟩ := HWK.out
                              go_wp2_with fail
                              go_roundw
                              case rel => exact ⟨k + 1, HK.out, by simp, by rw [HCS.out], hXE⟩
                              case measure => exact HM.out
                            · go_simp
                              refine (lawOnes_ok m HMB.out.2 VC.drew).mono ?_
                              rintro e Vo ⟨⟨uo, rfl, huo⟩, hBo⟩
                              go_wp2_with fail
                              refine hK.out _ _ (HKK.out _ (hXd.trans (hBo.mono hXd.size))) (fun hHeld => ?_)
                              clear hK K
                              try simp only [Act.put, List.setIfInBounds_toArray, List.set_cons_zero, List.set_cons_succ]
                              have hXo := hXd.trans (hBo.mono hXd.size)
                              obtain ⟨Wf, hWf⟩ : ∃ Wf, Wf = Vo.alloc (.cells #[.string nm, .slice At m ct, .slice Ad d.length cd] 70) := ⟨_, rfl⟩
                              have hBf : Below Vo.heap.size Vo Wf := by rw [hWf]; exact (Below.refl _ _).alloc (Nat.le_refl _) _
                              have hrf : RowK Wf 70 Vo.heap.size [.string nm, .slice At m ct, .slice Ad d.length cd] := by rw [hWf]; exact heap_alloc_new Vo _
                              have hXf := hXo.trans (hBf.mono hXo.size)
                              have kF := HKD.out Wf hXf Vo.heap.size uo hrf (huo.below hBf)
                              have HWF := Lib.hid hWf
                              clear hWf hBf hrf
                              refine wpAnyH_ready (rs := [1]) (by kernel_rfl) (by simp) ?_
                              refine AllReadyH.cons rfl (fun K hK => ?_) AllReadyH.nil
                              go_simp
                              rw [← HWF.out]
                              refine hK.out _ _ (HKK.out _ hXf) (fun hHeld => ?_)
                              clear hK K
                              try simp only [Act.put, List.setIfInBounds_toArray, List.set_cons_zero, List.set_cons_succ]
                              refine wpAnyH_ready (rs := [4]) (by kernel_rfl) (by simp) ?_
                              refine AllReadyH.cons rfl (fun K hK => ?_) AllReadyH.nil
                              go_simp
                              refine (kF).mono ?_
                              rintro e VD ⟨rfl, hBD⟩
                              go_wp2_with fail
                              refine hK.out _ _ (HKK.out _ (hXf.trans (hBD.mono hXf.size))) (fun hHeld => ?_)
                              clear hK K
                              try simp only [Act.put, List.setIfInBounds_toArray, List.set_cons_zero, List.set_cons_succ]
                              refine held_yes 5 (some 289) (.tuple #[.int .i64 dk, .int .i64 0]) rfl rfl (by kernel_rfl) (by kernel_rfl) (by kernel_rfl) (fun _ _ _ h => h) rfl (fun w' hS => by skip; go_simp) hHeld ?_
                              try simp only [Act.put, List.setIfInBounds_toArray, List.set_cons_zero, List.set_cons_succ]
                              refine held_yes 6 (some 295) (.int .i64 dk) rfl rfl (by kernel_rfl) (by kernel_rfl) (by kernel_rfl) (fun _ _ _ h => h) rfl (fun w' hS => by skip; go_simp) hHeld ?_
                              try simp only [Act.put, List.setIfInBounds_toArray, List.set_cons_zero, List.set_cons_succ]
                              refine held_yes 7 (some 296) (.int .i64 0) rfl rfl (by kernel_rfl) (by kernel_rfl) (by kernel_rfl) (fun _ _ _ h => h) rfl (fun w' hS => by skip; go_simp) hHeld ?_
                              try simp only [Act.put, List.setIfInBounds_toArray, List.set_cons_zero, List.set_cons_succ]
                              refine held_yes 8 (some 38) (.int .i64 dk) rfl rfl (by kernel_rfl) (by kernel_rfl) (by kernel_rfl) (fun _ _ _ h => h) rfl (fun w' hS => by skip; go_simp) hHeld ?_
                              try simp only [Act.put, List.setIfInBounds_toArray, List.set_cons_zero, List.set_cons_succ]
                              refine held_yes 9 (some 39) (.int .i64 0) rfl rfl (by kernel_rfl) (by kernel_rfl) (by kernel_rfl) (fun _ _ _ h => h) rfl (fun w' hS => by skip; go_simp) hHeld ?_
                              try simp only [Act.put, List.setIfInBounds_toArray, List.set_cons_zero, List.set_cons_succ]
                              refine wpAnyH_done (by kernel_rfl) ?_ _
                              clear hHeld
                              have hXD := hXf.trans (hBD.mono hXf.size)
                              clear kF hBo hBD huo
                              have hXE := HXW.out.trans (hXD.mono HXW.out.size)
                              obtain ⟨wd1, wd2⟩ := HWD.out
                              obtain ⟨wk1, wk2⟩ := HWK.out
                              go_wp2_with fail
                              go_roundw
                              case rel => exact ⟨k + 1, HK.out, by simp, by rw [HCS.out], hXE⟩
                              case measure => exact HM.out
                          · go_simp
                            rw [← HC.out.1]
                            refine hK.out _ _ (HKK.out _ HBB.out.2.2.1) (fun hHeld => ?_)
                            clear hK K
                            try simp only [Act.put, List.setIfInBounds_toArray, List.set_cons_zero, List.set_cons_succ]
                            refine wpAnyH_ready (rs := [1]) (by kernel_rfl) (by simp) ?_
                            refine AllReadyH.cons rfl (fun K hK => ?_) AllReadyH.nil
                            go_simp
                            rw [← HC.out.2]
                            refine hK.out _ _ (HKK.out _ HBB.out.2.2.2) (fun hHeld => ?_)
                            clear hK K
                            try simp only [Act.put, List.setIfInBounds_toArray, List.set_cons_zero, List.set_cons_succ]
                            refine wpAnyH_ready (rs := [4]) (by kernel_rfl) (by simp) ?_
                            refine AllReadyH.cons rfl (fun K hK => ?_) AllReadyH.nil
                            go_simp
                            refine (HCD.out).mono ?_
                            rintro e VC ⟨rfl, hBC⟩
                            go_wp2_with fail
                            refine hK.out _ _ (HKK.out _ (HBB.out.2.2.2.trans (hBC.mono HBB.out.2.2.2.size))) (fun hHeld => ?_)
                            clear hK K
                            try simp only [Act.put, List.setIfInBounds_toArray, List.set_cons_zero, List.set_cons_succ]
                            refine held_yes 5 (some 281) (.tuple #[.int .i64 0, .int .i64 0]) rfl rfl (by kernel_rfl) (by kernel_rfl) (by kernel_rfl) (fun _ _ _ h => h) rfl (fun w' hS => by skip; go_simp) hHeld ?_
                            try simp only [Act.put, List.setIfInBounds_toArray, List.set_cons_zero, List.set_cons_succ]
                            refine held_yes 6 (some 287) (.int .i64 0) rfl rfl (by kernel_rfl) (by kernel_rfl) (by kernel_rfl) (fun _ _ _ h => h) rfl (fun w' hS => by skip; go_simp) hHeld ?_
                            try simp only [Act.put, List.setIfInBounds_toArray, List.set_cons_zero, List.set_cons_succ]
                            refine held_yes 7 (some 288) (.int .i64 0) rfl rfl (by kernel_rfl) (by kernel_rfl) (by kernel_rfl) (fun _ _ _ h => h) rfl (fun w' hS => by skip; go_simp) hHeld ?_
                            try simp only [Act.put, List.setIfInBounds_toArray, List.set_cons_zero, List.set_cons_succ]
                            have hXC := HBB.out.2.2.2.trans (hBC.mono HBB.out.2.2.2.size)
                            refine held_yes 8 (some 36) (.int .i64 0) rfl rfl (by kernel_rfl) (by kernel_rfl) (by kernel_rfl) (fun _ _ _ h => h) rfl (fun w' hS => by skip; go_simp) hHeld ?_
                            try simp only [Act.put, List.setIfInBounds_toArray, List.set_cons_zero, List.set_cons_succ]
                            refine held_yes 9 (some 37) (.int .i64 0) rfl rfl (by kernel_rfl) (by kernel_rfl) (by kernel_rfl) (fun _ _ _ h => h) rfl (fun w' hS => by skip; go_simp) hHeld ?_
                            try simp only [Act.put, List.setIfInBounds_toArray, List.set_cons_zero, List.set_cons_succ]
                            refine wpAnyH_done (by kernel_rfl) ?_ _
                            clear hHeld
                            obtain ⟨We, hWe⟩ : ∃ We, We = (VC.alloc (.cells #[.string nm, .slice At m ct, .slice Ad d.length cd] 70)).drew := ⟨_, rfl⟩
                            have hBe : Below VC.heap.size VC We := by rw [hWe]; exact ((Below.refl VC.heap.size VC).alloc (Nat.le_refl _) _).drew
                            have hre : RowK We 70 VC.heap.size [.string nm, .slice At m ct, .slice Ad d.length cd] := by rw [hWe]; exact heap_alloc_new VC _
                            have hXe := hXC.trans (hBe.mono hXC.size)
                            have hXd := hXC.drew
                            have HWE := Lib.hid hWe
                            have HRE := Lib.hid hre
                            have hkyc := HKK.out _ hXd
                            clear hWe hBe hre hBC
                            go_wp2_with fail
                            refine wp_region_held_drew (S := fun V => V.cell? ⟨BX, 0, none⟩ = some (.string nm) ∧ V.cell? ⟨BX, 1, none⟩ = some (.slice At m ct) ∧ V.cell? ⟨BX, 2, none⟩ = some (.slice Ad d.length cd)) (by kernel_rfl) hkyc (fun hHeld => ?_)
                            refine held_yes 0 (some 290) (.agg #[.string nm, .slice At m ct, .slice Ad d.length cd]) rfl rfl (by kernel_rfl) (by kernel_rfl) (by kernel_rfl) (fun _ _ _ h => h) rfl (fun w' hS => by obtain ⟨s0, s1, s2⟩ := hS; go_simp) hHeld ?_
                            try simp only [Act.put, List.setIfInBounds_toArray, List.set_cons_zero, List.set_cons_succ]
                            refine held_yes 2 (some 292) (.int .i64 m) rfl rfl (by kernel_rfl) (by kernel_rfl) (by kernel_rfl) (fun _ _ _ h => h) rfl (fun w' hS => by skip; go_simp) hHeld ?_
                            try simp only [Act.put, List.setIfInBounds_toArray, List.set_cons_zero, List.set_cons_succ]
                            refine wpAnyH_ready (rs := [1, 3]) (by kernel_rfl) (by simp) ?_
                            refine AllReadyH.cons rfl (fun K hK => ?_) (AllReadyH.cons rfl (fun K hK => ?_) AllReadyH.nil)
                            · go_simp
                              rw [← HWE.out]
                              refine hK.out _ _ (HKK.out _ hXe) (fun hHeld => ?_)
                              clear hK K
                              try simp only [Act.put, List.setIfInBounds_toArray, List.set_cons_zero, List.set_cons_succ]
                              refine wpAnyH_ready (rs := [3]) (by kernel_rfl) (by simp) ?_
                              refine AllReadyH.cons rfl (fun K hK => ?_) AllReadyH.nil
                              go_simp
                              refine (lawOnes_ok m HMB.out.2 We).mono ?_
                              rintro e Vo ⟨⟨uo, rfl, huo⟩, hBo⟩
                              go_wp2_with fail
                              refine hK.out _ _ (HKK.out _ (hXe.trans (hBo.mono hXe.size))) (fun hHeld => ?_)
                              clear hK K
                              try simp only [Act.put, List.setIfInBounds_toArray, List.set_cons_zero, List.set_cons_succ]
                              have hXo := hXe.trans (hBo.mono hXe.size)
                              have kF := HKD.out Vo hXo VC.heap.size uo (HRE.out.below hBo) huo
                              refine wpAnyH_ready (rs := [4]) (by kernel_rfl) (by simp) ?_
                              refine AllReadyH.cons rfl (fun K hK => ?_) AllReadyH.nil
                              go_simp
                              refine (kF).mono ?_
                              rintro e VD ⟨rfl, hBD⟩
                              go_wp2_with fail
                              refine hK.out _ _ (HKK.out _ (hXo.trans (hBD.mono hXo.size))) (fun hHeld => ?_)
                              clear hK K
                              try simp only [Act.put, List.setIfInBounds_toArray, List.set_cons_zero, List.set_cons_succ]
                              refine held_yes 5 (some 289) (.tuple #[.int .i64 dk, .int .i64 0]) rfl rfl (by kernel_rfl) (by kernel_rfl) (by kernel_rfl) (fun _ _ _ h => h) rfl (fun w' hS => by skip; go_simp) hHeld ?_
                              try simp only [Act.put, List.setIfInBounds_toArray, List.set_cons_zero, List.set_cons_succ]
                              refine held_yes 6 (some 295) (.int .i64 dk) rfl rfl (by kernel_rfl) (by kernel_rfl) (by kernel_rfl) (fun _ _ _ h => h) rfl (fun w' hS => by skip; go_simp) hHeld ?_
                              try simp only [Act.put, List.setIfInBounds_toArray, List.set_cons_zero, List.set_cons_succ]
                              refine held_yes 7 (some 296) (.int .i64 0) rfl rfl (by kernel_rfl) (by kernel_rfl) (by kernel_rfl) (fun _ _ _ h => h) rfl (fun w' hS => by skip; go_simp) hHeld ?_
                              try simp only [Act.put, List.setIfInBounds_toArray, List.set_cons_zero, List.set_cons_succ]
                              refine held_yes 8 (some 38) (.int .i64 dk) rfl rfl (by kernel_rfl) (by kernel_rfl) (by kernel_rfl) (fun _ _ _ h => h) rfl (fun w' hS => by skip; go_simp) hHeld ?_
                              try simp only [Act.put, List.setIfInBounds_toArray, List.set_cons_zero, List.set_cons_succ]
                              refine held_yes 9 (some 39) (.int .i64 0) rfl rfl (by kernel_rfl) (by kernel_rfl) (by kernel_rfl) (fun _ _ _ h => h) rfl (fun w' hS => by skip; go_simp) hHeld ?_
                              try simp only [Act.put, List.setIfInBounds_toArray, List.set_cons_zero, List.set_cons_succ]
                              refine wpAnyH_done (by kernel_rfl) ?_ _
                              clear hHeld
                              have hXD := hXo.trans (hBD.mono hXo.size)
                              clear kF hBo hBD huo
                              have hXE := HXW.out.trans (hXD.mono HXW.out.size)
                              obtain ⟨wd1, wd2⟩ := HWD.out
                              obtain ⟨wk1, wk2⟩ := HWK.out
                              go_wp2_with fail
                              go_roundw
                              case rel => exact ⟨k + 1, HK.out, by simp, by rw [HCS.out], hXE⟩
                              case measure => exact HM.out
                            · go_simp
                              refine (lawOnes_ok m HMB.out.2 VC.drew).mono ?_
                              rintro e Vo ⟨⟨uo, rfl, huo⟩, hBo⟩
                              go_wp2_with fail
                              refine hK.out _ _ (HKK.out _ (hXd.trans (hBo.mono hXd.size))) (fun hHeld => ?_)
                              clear hK K
                              try simp only [Act.put, List.setIfInBounds_toArray, List.set_cons_zero, List.set_cons_succ]
                              have hXo := hXd.trans (hBo.mono hXd.size)
                              obtain ⟨Wf, hWf⟩ : ∃ Wf, Wf = Vo.alloc (.cells #[.string nm, .slice At m ct, .slice Ad d.length cd] 70) := ⟨_, rfl⟩
                              have hBf : Below Vo.heap.size Vo Wf := by rw [hWf]; exact (Below.refl _ _).alloc (Nat.le_refl _) _
                              have hrf : RowK Wf 70 Vo.heap.size [.string nm, .slice At m ct, .slice Ad d.length cd] := by rw [hWf]; exact heap_alloc_new Vo _
                              have hXf := hXo.trans (hBf.mono hXo.size)
                              have kF := HKD.out Wf hXf Vo.heap.size uo hrf (huo.below hBf)
                              have HWF := Lib.hid hWf
                              clear hWf hBf hrf
                              refine wpAnyH_ready (rs := [1]) (by kernel_rfl) (by simp) ?_
                              refine AllReadyH.cons rfl (fun K hK => ?_) AllReadyH.nil
                              go_simp
                              rw [← HWF.out]
                              refine hK.out _ _ (HKK.out _ hXf) (fun hHeld => ?_)
                              clear hK K
                              try simp only [Act.put, List.setIfInBounds_toArray, List.set_cons_zero, List.set_cons_succ]
                              refine wpAnyH_ready (rs := [4]) (by kernel_rfl) (by simp) ?_
                              refine AllReadyH.cons rfl (fun K hK => ?_) AllReadyH.nil
                              go_simp
                              refine (kF).mono ?_
                              rintro e VD ⟨rfl, hBD⟩
                              go_wp2_with fail
                              refine hK.out _ _ (HKK.out _ (hXf.trans (hBD.mono hXf.size))) (fun hHeld => ?_)
                              clear hK K
                              try simp only [Act.put, List.setIfInBounds_toArray, List.set_cons_zero, List.set_cons_succ]
                              refine held_yes 5 (some 289) (.tuple #[.int .i64 dk, .int .i64 0]) rfl rfl (by kernel_rfl) (by kernel_rfl) (by kernel_rfl) (fun _ _ _ h => h) rfl (fun w' hS => by skip; go_simp) hHeld ?_
                              try simp only [Act.put, List.setIfInBounds_toArray, List.set_cons_zero, List.set_cons_succ]
                              refine held_yes 6 (some 295) (.int .i64 dk) rfl rfl (by kernel_rfl) (by kernel_rfl) (by kernel_rfl) (fun _ _ _ h => h) rfl (fun w' hS => by skip; go_simp) hHeld ?_
                              try simp only [Act.put, List.setIfInBounds_toArray, List.set_cons_zero, List.set_cons_succ]
                              refine held_yes 7 (some 296) (.int .i64 0) rfl rfl (by kernel_rfl) (by kernel_rfl) (by kernel_rfl) (fun _ _ _ h => h) rfl (fun w' hS => by skip; go_simp) hHeld ?_
                              try simp only [Act.put, List.setIfInBounds_toArray, List.set_cons_zero, List.set_cons_succ]
                              refine held_yes 8 (some 38) (.int .i64 dk) rfl rfl (by kernel_rfl) (by kernel_rfl) (by kernel_rfl) (fun _ _ _ h => h) rfl (fun w' hS => by skip; go_simp) hHeld ?_
                              try simp only [Act.put, List.setIfInBounds_toArray, List.set_cons_zero, List.set_cons_succ]
                              refine held_yes 9 (some 39) (.int .i64 0) rfl rfl (by kernel_rfl) (by kernel_rfl) (by kernel_rfl) (fun _ _ _ h => h) rfl (fun w' hS => by skip; go_simp) hHeld ?_
                              try simp only [Act.put, List.setIfInBounds_toArray, List.set_cons_zero, List.set_cons_succ]
                              refine wpAnyH_done (by kernel_rfl) ?_ _
                              clear hHeld
                              have hXD := hXf.trans (hBD.mono hXf.size)
                              clear kF hBo hBD huo
                              have hXE := HXW.out.trans (hXD.mono HXW.out.size)
                              obtain ⟨wd1, wd2⟩ := HWD.out
                              obtain ⟨wk1, wk2⟩ := HWK.out
                              go_wp2_with fail
                              go_roundw
                              case rel => exact ⟨k + 1, HK.out, by simp, by rw [HCS.out], hXE⟩
                              case measure => exact HM.out
                        · have kO1 := lawOnes_ok m HMB.out.2 v8
                          clear hmake
                          go_wp2_with fail
                          refine kO1.mono ?_
                          rintro e Z1 ⟨⟨uo, rfl, huo⟩, hB⟩
                          replace hX := hX.trans (hB.mono hX.size)
                          have kC := costRep_ok js m 1 _ uo Z1 (HKSL.out _ hX) HJS.out HX.out HMM.out.symm HMB.out.2 huo (by omega) (by have := HL5.out; omega)
                          obtain ⟨cc, hcc⟩ : ∃ cc, cc = costK js (List.replicate m 1) js.length := ⟨_, rfl⟩
                          rw [← hcc] at kC ⊢
                          clear hB kO1 huo hcc hcb
                          go_wp2_with fail
                          refine kC.mono ?_
                          rintro e Z2 ⟨rfl, hB⟩
                          replace hX := hX.trans (hB.mono hX.size)
                          clear hB kC
                          have hBo := hBw _ hX
                          go_wp2_with (go_at_call 10; refine (awake9_ok _ (hgk.below hBo)).mono ?_; rintro e w9 ⟨rfl, hQ9⟩)
                          go_ret
                          exact ⟨rfl, hBo.trans (hQ9.mono hBo.size)⟩
end Go.Proofs
end
