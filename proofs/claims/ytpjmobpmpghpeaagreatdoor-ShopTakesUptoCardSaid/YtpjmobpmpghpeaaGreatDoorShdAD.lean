/- TopShadeTabs: the state of the second loop. -/
import Derived.Test.YtpjmobpmpghpeaaGreatDoorShdAC
namespace Go.Proofs
open Go.RowKit Go.MapKept
set_option maxHeartbeats 4000000
set_option maxRecDepth 1000000
def iv (n : Int) : Value := .int .i64 n
theorem rows3 (W : World) (T1 T2 T3 : TypeId) (c1 c2 c3 : List Value) (W6 : World) (h : W6 = ((W.alloc (.cells c1.toArray T1)).alloc (.cells c2.toArray T2)).alloc (.cells c3.toArray T3)) :
    RowK W6 T1 W.heap.size c1 ∧ RowK W6 T2 (W.heap.size + 1) c2 ∧ RowK W6 T3 (W.heap.size + 1 + 1) c3 ∧ Below W.heap.size W W6 ∧ W6.heap.size = W.heap.size + 1 + 1 + 1 := by
  have h2 := heap_alloc_new (W.alloc (.cells c1.toArray T1)) (.cells c2.toArray T2)
  have h3 := heap_alloc_new ((W.alloc (.cells c1.toArray T1)).alloc (.cells c2.toArray T2)) (.cells c3.toArray T3)
  subst h
  refine ⟨(Below.heap_alloc _ _ _ (by simp; omega)).trans ((Below.heap_alloc _ _ _ (by simp)).trans (heap_alloc_new W _)), ?_, ?_, (((Below.refl _ _).alloc (Nat.le_refl _) _).alloc (by simp) _).alloc (by simp; omega) _, by simp⟩
  · refine (Below.heap_alloc _ _ _ (by simp)).trans ?_
    simpa using h2
  · unfold RowK
    simpa using h3
theorem rows2 (W : World) (T1 T2 : TypeId) (c1 c2 : List Value) (W6 : World) (h : W6 = (W.alloc (.cells c1.toArray T1)).alloc (.cells c2.toArray T2)) :
    RowK W6 T1 W.heap.size c1 ∧ RowK W6 T2 (W.heap.size + 1) c2 ∧ Below W.heap.size W W6 ∧ W6.heap.size = W.heap.size + 1 + 1 := by
  have h2 := heap_alloc_new (W.alloc (.cells c1.toArray T1)) (.cells c2.toArray T2)
  subst h
  refine ⟨(Below.heap_alloc _ _ _ (by simp)).trans (heap_alloc_new W _), ?_, ((Below.refl _ _).alloc (Nat.le_refl _) _).alloc (by simp) _, by simp⟩
  unfold RowK
  simpa using h2
def gc16 (x y z : Int) (u0 u1 u2 u3 : Value) : List Value := [.int .i64 x, .int .i64 y, .int .i64 z, u0, .int .i64 x, .int .i64 y, .int .i64 z, u1, .int .i64 x, .int .i64 y, .int .i64 z, u2, .int .i64 x, .int .i64 y, .int .i64 z, u3]
theorem guides4 {x y z : Int} {u0 u1 u2 u3 : Value} {l : List TabT} {ft : TabT} {V5 : World} (h0 : ∀ V, Below V5.heap.size V5 V → SlT V u0 l) (h1 : ∀ V, Below V5.heap.size V5 V → SlT V u1 l.reverse) (h2 : ∀ V, Below V5.heap.size V5 V → SlT V u2 (l.map darkT)) (h3 : ∀ V, Below V5.heap.size V5 V → SlT V u3 (l ++ [ft])) (k : Nat) (hk : k < 4) :
    ∃ u, (gc16 x y z u0 u1 u2 u3)[k * 4]? = some (.int .i64 x) ∧ (gc16 x y z u0 u1 u2 u3)[k * 4 + 1]? = some (.int .i64 y) ∧ (gc16 x y z u0 u1 u2 u3)[k * 4 + 2]? = some (.int .i64 z) ∧ (gc16 x y z u0 u1 u2 u3)[k * 4 + 3]? = some u ∧ ∀ V, Below V5.heap.size V5 V → SlT V u (tabsOf l ft k) := by
  match k, hk with
  | 0, _ => exact ⟨u0, rfl, rfl, rfl, rfl, h0⟩
  | 1, _ => exact ⟨u1, rfl, rfl, rfl, rfl, h1⟩
  | 2, _ => exact ⟨u2, rfl, rfl, rfl, rfl, h2⟩
  | 3, _ => exact ⟨u3, rfl, rfl, rfl, rfl, h3⟩
def NearP (ws c : Cel) (l : List TabT) (ft : TabT) (j : Nat) (m : Int) : Prop := IsMin ws ((tabsOf l ft j).map (·.2)) (atOf c j) m
def MixP (ws c : Cel) (l : List TabT) (ft : TabT) (j : Nat) (m : Int) : Prop := 2 ≤ (tabsOf l ft j).length → MinM ws (tabsOf l ft j) (atOf c j) m
structure L2 (ws c : Cel) (l : List TabT) (ft : TabT) (V5 : World) (T4 TG : TypeId) (gs : List Value) (k : Nat) (nr mx : List Int) (W : World) : Prop where
  rn : RowK W T4 V5.heap.size (nr.map iv)
  rm : RowK W T4 (V5.heap.size + 1) (mx.map iv)
  rg : RowK W TG (V5.heap.size + 1 + 1) gs
  ln : nr.length = 4
  lm : mx.length = 4
  pn : ∀ j, j < k → ∃ m, nr[j]? = some m ∧ NearP ws c l ft j m
  pm : ∀ j, j < k → ∃ m, mx[j]? = some m ∧ MixP ws c l ft j m
  p0 : l.length < 2 → ∀ j, j < 3 → mx[j]? = some 0
  keep : Below V5.heap.size V5 W
  big : V5.heap.size + 1 + 1 < W.heap.size
theorem step_list {P : Nat → Int → Prop} {nr : List Int} {k : Nat} {d : Int} (hk : k < nr.length) (pn : ∀ j, j < k → ∃ m, nr[j]? = some m ∧ P j m) (hd : P k d) : ∀ j, j < k + 1 → ∃ m, (nr.set k d)[j]? = some m ∧ P j m := fun j hj => by
  rcases Nat.lt_or_eq_of_le (Nat.le_of_lt_succ hj) with h | rfl
  · obtain ⟨m, h1, h2⟩ := pn j h
    exact ⟨m, by rw [List.getElem?_set_ne (by omega)]; exact h1, h2⟩
  · exact ⟨d, by rw [List.getElem?_set_self hk], hd⟩
theorem L2.put_near {ws c : Cel} {l : List TabT} {ft : TabT} {V5 : World} {T4 TG : TypeId} {gs : List Value} {k : Nat} {nr mx : List Int} {W V : World} (h : L2 ws c l ft V5 T4 TG gs k nr mx W) (hb : Below W.heap.size W V) (d : Int) :
    RowK (V.setCell ⟨V5.heap.size, k, none⟩ (.int .i64 d)) T4 V5.heap.size ((nr.set k d).map iv) ∧ RowK (V.setCell ⟨V5.heap.size, k, none⟩ (.int .i64 d)) T4 (V5.heap.size + 1) (mx.map iv) ∧ RowK (V.setCell ⟨V5.heap.size, k, none⟩ (.int .i64 d)) TG (V5.heap.size + 1 + 1) gs ∧ Below V5.heap.size V5 (V.setCell ⟨V5.heap.size, k, none⟩ (.int .i64 d)) ∧ (∀ g, W.heap.size ≤ g → (V.setCell ⟨V5.heap.size, k, none⟩ (.int .i64 d)).heap[g]? = V.heap[g]?) ∧ W.heap.size ≤ (V.setCell ⟨V5.heap.size, k, none⟩ (.int .i64 d)).heap.size := by
  have hbig := h.big
  have hs : ∀ g, g ≠ V5.heap.size → (V.setCell ⟨V5.heap.size, k, none⟩ (.int .i64 d)).heap[g]? = V.heap[g]? := fun g hg => Below.heap_setCell V ⟨V5.heap.size, k, none⟩ _ g hg
  refine ⟨?_, ((h.rm.below hb).keep (hs _ (by omega))), ((h.rg.below hb).keep (hs _ (by omega))), (h.keep.trans (hb.mono h.keep.size)).setCell (p := ⟨V5.heap.size, k, none⟩) (Nat.le_refl _) _, fun g hg => hs g (by omega), ?_⟩
  · have := (h.rn.below hb).set k (.int .i64 d)
    rw [List.map_set]
    exact this
  · have := hb.size
    have e : (V.setCell ⟨V5.heap.size, k, none⟩ (.int .i64 d)).heap.size = V.heap.size := by simp [World.setCell]
    omega
theorem L2.old {ws c : Cel} {l : List TabT} {ft : TabT} {V5 : World} {T4 TG : TypeId} {gs : List Value} {k : Nat} {nr mx : List Int} {W V : World} (h : L2 ws c l ft V5 T4 TG gs k nr mx W) (hk : k < 4) (hb : Below W.heap.size W V) : (∃ v, V.cell? ⟨V5.heap.size, k, none⟩ = some v) ∧ V.frozen? ⟨V5.heap.size, k, none⟩ = false := by
  have hl : k < (nr.map iv).length := by rw [List.length_map, h.ln]; exact hk
  exact ⟨⟨_, (h.rn.below hb).cell (List.getElem?_eq_getElem hl)⟩, (h.rn.below hb).fz k⟩
theorem L2.round1 {ws c : Cel} {l : List TabT} {ft : TabT} {V5 : World} {T4 TG : TypeId} {gs : List Value} {k : Nat} {nr mx : List Int} {W V : World} (h : L2 ws c l ft V5 T4 TG gs k nr mx W) (hk : k < 4) {d : Int} (hd : NearP ws c l ft k d)
    (rn : RowK V T4 V5.heap.size ((nr.set k d).map iv)) (rm : RowK V T4 (V5.heap.size + 1) (mx.map iv)) (rg : RowK V TG (V5.heap.size + 1 + 1) gs) (hb : Below V5.heap.size V5 V) (hbig : W.heap.size ≤ V.heap.size) (hsh : (tabsOf l ft k).length < 2) : L2 ws c l ft V5 T4 TG gs (k + 1) (nr.set k d) mx V := by
  refine ⟨rn, rm, rg, by rw [List.length_set, h.ln], h.lm, step_list (by rw [h.ln]; exact hk) h.pn hd, fun j hj => ?_, h.p0, hb, by have := h.big; omega⟩
  rcases Nat.lt_or_eq_of_le (Nat.le_of_lt_succ hj) with h1 | rfl
  · exact h.pm j h1
  · have hl : j < mx.length := by rw [h.lm]; exact hk
    exact ⟨_, List.getElem?_eq_getElem hl, fun h2 => absurd h2 (by omega)⟩
theorem L2.round2 {ws c : Cel} {l : List TabT} {ft : TabT} {V5 : World} {T4 TG : TypeId} {gs : List Value} {k : Nat} {nr mx : List Int} {W V V2 : World} (h : L2 ws c l ft V5 T4 TG gs k nr mx W) (hk : k < 4) {d e : Int} (hd : NearP ws c l ft k d) (he : MixP ws c l ft k e)
    (rn : RowK V T4 V5.heap.size ((nr.set k d).map iv)) (rm : RowK V T4 (V5.heap.size + 1) (mx.map iv)) (rg : RowK V TG (V5.heap.size + 1 + 1) gs) (hb : Below V5.heap.size V5 V) (hbig : W.heap.size ≤ V.heap.size) (hb2 : Below V.heap.size V V2) (hsh : 2 ≤ (tabsOf l ft k).length) : L2 ws c l ft V5 T4 TG gs (k + 1) (nr.set k d) (mx.set k e) (V2.setCell ⟨V5.heap.size + 1, k, none⟩ (.int .i64 e)) := by
  have hbg := h.big
  have hs : ∀ g, g ≠ V5.heap.size + 1 → (V2.setCell ⟨V5.heap.size + 1, k, none⟩ (.int .i64 e)).heap[g]? = V2.heap[g]? := fun g hg => Below.heap_setCell V2 ⟨V5.heap.size + 1, k, none⟩ _ g hg
  refine ⟨(rn.below hb2).keep (hs _ (by omega)), ?_, (rg.below hb2).keep (hs _ (by omega)), by rw [List.length_set, h.ln], by rw [List.length_set, h.lm], step_list (by rw [h.ln]; exact hk) h.pn hd, step_list (by rw [h.lm]; exact hk) h.pm he, fun hl j hj => ?_, (hb.trans (hb2.mono hb.size)).setCell (p := ⟨V5.heap.size + 1, k, none⟩) (Nat.le_succ _) _, ?_⟩
  · have := (rm.below hb2).set k (.int .i64 e)
    rw [List.map_set]
    exact this
  · have hk3 : k = 3 := by
      apply Classical.byContradiction
      intro hne
      have : (tabsOf l ft k).length = l.length := by
        match k, hk, hne with
        | 0, _, _ => rfl
        | 1, _, _ => exact List.length_reverse
        | 2, _, _ => exact List.length_map _
        | 3, _, hne => exact absurd rfl hne
      omega
    rw [List.getElem?_set_ne (by omega)]
    exact h.p0 hl j hj
  · have := hb2.size
    have e : (V2.setCell ⟨V5.heap.size + 1, k, none⟩ (.int .i64 e)).heap.size = V2.heap.size := by simp [World.setCell]
    omega
theorem old_mixed {V V2 : World} {T4 : TypeId} {g k : Nat} {mx : List Int} (rm : RowK V T4 g (mx.map iv)) (lm : mx.length = 4) (hk : k < 4) (hb : Below V.heap.size V V2) : (∃ v, V2.cell? ⟨g, k, none⟩ = some v) ∧ V2.frozen? ⟨g, k, none⟩ = false := by
  have hl : k < (mx.map iv).length := by rw [List.length_map, lm]; exact hk
  exact ⟨⟨_, (rm.below hb).cell (List.getElem?_eq_getElem hl)⟩, (rm.below hb).fz k⟩
theorem L2.start {ws c : Cel} {l : List TabT} {ft : TabT} {V5 W : World} {T4 TG : TypeId} {gs : List Value} (rn : RowK W T4 V5.heap.size [.int .i64 0, .int .i64 0, .int .i64 0, .int .i64 0]) (rm : RowK W T4 (V5.heap.size + 1) [.int .i64 0, .int .i64 0, .int .i64 0, .int .i64 0]) (rg : RowK W TG (V5.heap.size + 1 + 1) gs) (hb : Below V5.heap.size V5 W) : L2 ws c l ft V5 T4 TG gs 0 [0, 0, 0, 0] [0, 0, 0, 0] W :=
  ⟨rn, rm, rg, rfl, rfl, fun j h => absurd h (Nat.not_lt_zero j), fun j h => absurd h (Nat.not_lt_zero j), fun _ j hj => by match j, hj with
    | 0, _ => rfl
    | 1, _ => rfl
    | 2, _ => rfl, hb, rg.lt⟩
theorem L2.below {ws c : Cel} {l : List TabT} {ft : TabT} {V5 : World} {T4 TG : TypeId} {gs : List Value} {k : Nat} {nr mx : List Int} {W V : World} (h : L2 ws c l ft V5 T4 TG gs k nr mx W) (hb : Below W.heap.size W V) : L2 ws c l ft V5 T4 TG gs k nr mx V :=
  ⟨h.rn.below hb, h.rm.below hb, h.rg.below hb, h.ln, h.lm, h.pn, h.pm, h.p0, h.keep.trans (hb.mono h.keep.size), Nat.lt_of_lt_of_le h.big hb.size⟩
theorem twice_row {W : World} {g : Nat} {p q r : Int} {T : TypeId} (h : RowK W T g [.string ⟨#[97]⟩, .int .i64 p, .int .i64 q, .int .i64 r, .string ⟨#[98]⟩, .int .i64 p, .int .i64 q, .int .i64 r]) : SlT W (.slice (some ⟨g, 0, none⟩) 2 2) (twiceL (p, q, r)) := by
  refine SlT.row (l := twiceL (p, q, r)) (fun i t hi => ?_) h.lt
  match i, hi with
  | 0, hi =>
    obtain rfl : (_, (p, q, r)) = t := by simpa [twiceL] using hi
    exact ⟨h.cell (by rfl), h.cell (by rfl), h.cell (by rfl), h.cell (by rfl)⟩
  | 1, hi =>
    obtain rfl : (_, (p, q, r)) = t := by simpa [twiceL] using hi
    exact ⟨h.cell (by rfl), h.cell (by rfl), h.cell (by rfl), h.cell (by rfl)⟩
  | n + 2, hi => simp [twiceL] at hi
/-- What the tables hold at the end. -/
theorem L2.done {ws c : Cel} {l : List TabT} {ft : TabT} {V5 W : World} {T4 TG : TypeId} {gs : List Value} {nr mx : List Int} (h : L2 ws c l ft V5 T4 TG gs 4 nr mx W) (hl : 0 < l.length) :
    ∃ a d m e : Int, RowK W T4 V5.heap.size [.int .i64 a, .int .i64 a, .int .i64 a, .int .i64 d] ∧ RowK W T4 (V5.heap.size + 1) [.int .i64 m, .int .i64 m, .int .i64 m, .int .i64 e] ∧ d ≤ a ∧ (1 < l.length → e ≤ m) := by
  have rn := h.rn
  have rm := h.rm
  have ln := h.ln
  have lm := h.lm
  obtain ⟨n0, i0, p0⟩ := h.pn 0 (by omega)
  obtain ⟨n1, i1, p1⟩ := h.pn 1 (by omega)
  obtain ⟨n2, i2, p2⟩ := h.pn 2 (by omega)
  obtain ⟨n3, i3, p3⟩ := h.pn 3 (by omega)
  obtain ⟨e1, e2, h3⟩ := near_all p0 p1 p2 p3
  rw [e1] at i1
  rw [e2] at i2
  obtain ⟨m0, j0, q0⟩ := h.pm 0 (by omega)
  obtain ⟨m1, j1, q1⟩ := h.pm 1 (by omega)
  obtain ⟨m2, j2, q2⟩ := h.pm 2 (by omega)
  obtain ⟨m3, j3, q3⟩ := h.pm 3 (by omega)
  have hm : m1 = m0 ∧ m2 = m0 ∧ (1 < l.length → m3 ≤ m0) := by
    by_cases h2 : 2 ≤ l.length
    · have a0 := q0 h2
      have a1 := q1 (show 2 ≤ l.reverse.length by rw [List.length_reverse]; exact h2)
      have a2 := q2 (show 2 ≤ (l.map darkT).length by rw [List.length_map]; exact h2)
      have a3 := q3 (show 2 ≤ (l ++ [ft]).length by rw [List.length_append]; omega)
      obtain ⟨b1, b2, b3⟩ := mixed_all a0 a1 a2 a3
      exact ⟨b1, b2, fun _ => b3⟩
    · have z0 := h.p0 (by omega) 0 (by omega)
      have z1 := h.p0 (by omega) 1 (by omega)
      have z2 := h.p0 (by omega) 2 (by omega)
      rw [j0] at z0
      rw [j1] at z1
      rw [j2] at z2
      obtain rfl := Option.some.inj z0
      obtain rfl := Option.some.inj z1
      obtain rfl := Option.some.inj z2
      exact ⟨rfl, rfl, fun h => absurd h (by omega)⟩
  obtain ⟨e3, e4, hm3⟩ := hm
  rw [e3] at j1
  rw [e4] at j2
  refine ⟨n0, n3, m0, m3, ?_, ?_, h3, hm3⟩
  · match nr, ln, i0, i1, i2, i3, rn with
    | [a, b, c, d], _, i0, i1, i2, i3, rn =>
      have ea : a = n0 := by simpa using i0
      have eb : b = n0 := by simpa using i1
      have ec : c = n0 := by simpa using i2
      have ed : d = n3 := by simpa using i3
      rw [ea, eb, ec, ed] at rn
      exact rn
  · match mx, lm, j0, j1, j2, j3, rm with
    | [a, b, c, d], _, j0, j1, j2, j3, rm =>
      have ea : a = m0 := by simpa using j0
      have eb : b = m0 := by simpa using j1
      have ec : c = m0 := by simpa using j2
      have ed : d = m3 := by simpa using j3
      rw [ea, eb, ec, ed] at rm
      exact rm
theorem SlT.tabAt {V : World} {b o n cap : Nat} {T : List TabT} (h : SlT V (.slice (some ⟨b, o, none⟩) n cap) T) (hp : 0 < T.length) : TabAt V b o T := by
  obtain ⟨b', o', e, -, h3⟩ := h.addr hp
  injection e with e
  injection e with e1 e2
  subst e1 e2
  exact h3
theorem wraps4 {k : Nat} (hk : k < 4) : wrap64 ((k : Int) + 1) = (k : Int) + 1 ∧ IntKind.i64.wrap ((k : Int) + 1) = (k : Int) + 1 := ⟨wrap64_small (by omega), wrap_small (by omega)⟩
theorem mixL_few {n : Nat} (h : 2 ≤ n ∧ n ≤ 6) : (mixL n).length ≤ 1000 ∧ 0 < (mixL n).length := by
  have : n = 2 ∨ n = 3 ∨ n = 4 ∨ n = 5 ∨ n = 6 := by omega
  rcases this with rfl | rfl | rfl | rfl | rfl <;> decide
theorem colM_at {T : List TabT} {i k : Nat} {e : Int} {s1 s2 : ByteArray} {c1 c2 : Cel} (h1 : T[i]? = some (s1, c1)) (h2 : T[k]? = some (s2, c2)) : colM T ((i : Int), (k : Int), e) = mixC (8 - e) c1 e c2 := by
  unfold colM
  dsimp only
  simp only [Int.toNat_natCast, h1, h2]
  rfl
theorem col_wide {c : Cel} (h : ColOk c 0 255) : ColOk c (-3000) 3000 := by unfold ColOk at *; omega
theorem wt_wide {c : Cel} (h : ColOk c 1 100) : ColOk c (-100) 100 := by unfold ColOk at *; omega
theorem least_at {T : List TabT} {ws t : Cel} {j : Nat} (h : Least1 (T.map (·.2)) ws t j) : ∃ s a b c, T[j]? = some (s, a, b, c) ∧ IsMin ws (T.map (·.2)) t (distW ws (a, b, c) t) := by
  obtain ⟨c', h1, h2, h3⟩ := h
  have h1' := h1
  rw [List.getElem?_map] at h1
  obtain ⟨⟨s, a, b, c⟩, h4, rfl⟩ := Option.map_eq_some_iff.1 h1
  exact ⟨s, a, b, c, h4, least_min ⟨_, h1', h2, h3⟩ h1'⟩
end Go.Proofs
