/- GridDeals: grid.Shares. -/
import Derived.Test.YtmmedmjjbdopjaaGreatDoorDeB
import Derived.Deep.RegionHeld3
namespace Go.Proofs
open Go.RowKit
set_option maxHeartbeats 8000000
set_option maxRecDepth 1000000
/-- A row of ints, known to the element. -/
def RowX (w : World) (t : TypeId) (g : Nat) (l : List Int) : Prop := w.heap[g]? = some (.cells (l.map valI).toArray t (0, 0))
theorem RowX.lt {w : World} {t : TypeId} {g : Nat} {l : List Int} (h : RowX w t g l) : g < w.heap.size := (Array.getElem?_eq_some_iff.1 h).1
theorem RowX.cell {w : World} {t : TypeId} {g : Nat} {l : List Int} (h : RowX w t g l) {i : Nat} {x : Int} (hi : l[i]? = some x) : w.cell? ⟨g, i, none⟩ = some (.int .i64 x) := by
  rw [cell_of_row w g i _ _ _ h]
  simp [hi, valI]
theorem RowX.at_ {w : World} {t : TypeId} {g : Nat} {l : List Int} (h : RowX w t g l) : IAt w g 0 l := fun i x hi => by
  rw [Nat.zero_add]
  exact h.cell hi
theorem RowX.fz {w : World} {t : TypeId} {g : Nat} {l : List Int} (h : RowX w t g l) (i : Nat) : w.frozen? ⟨g, i, none⟩ = false := frozen_of_row w g i _ _ h
theorem RowX.set {w : World} {t : TypeId} {g : Nat} {l : List Int} (h : RowX w t g l) (i : Nat) (x : Int) : RowX (w.setCell ⟨g, i, none⟩ (.int .i64 x)) t g (l.set i x) := by
  have := heap_setCell_same w g i _ t (.int .i64 x) h
  unfold RowX
  rw [this]
  simp [List.map_set, valI]
theorem RowX.keep {w w' : World} {t : TypeId} {g : Nat} {l : List Int} (h : RowX w t g l) (hb : w'.heap[g]? = w.heap[g]?) : RowX w' t g l := hb.trans h
theorem RowX.below {w w' : World} {t : TypeId} {g : Nat} {l : List Int} (h : RowX w t g l) (hb : Below w.heap.size w w') : RowX w' t g l := h.keep (hb.block g h.lt)
theorem RowX.made {w : World} {t : TypeId} {B g n : Nat} (h : w.ownsRow B t 1 (.slice (some ⟨g, 0, none⟩) n n) n (madeCells #[Value.int .i64 0] n).toList) : RowX w t g (List.replicate n 0) := by
  obtain ⟨-, ⟨h1, -⟩ | ⟨g', cap, cur, h1, -, h2, -, -, h3, h4⟩⟩ := h
  · cases h1
  · injection h1 with e1 e2 e3
    injection e1 with e1
    injection e1 with e1
    subst e1
    subst e3
    unfold RowX
    rw [h2]
    congr 1
    congr 1
    apply Array.ext'
    rw [List.take_of_length_le (by simp [h3])] at h4
    rw [h4]
    refine List.ext_getElem (by simp [madeCells]) fun i h1 h2 => ?_
    simp [madeCells, valI, Nat.mod_one]
/-- The first k values of a row, and zeros. -/
def preL (f : Nat → Int) (k n : Nat) : List Int := (List.range k).map f ++ List.replicate (n - k) 0
theorem preL_zero (f : Nat → Int) (n : Nat) : preL f 0 n = List.replicate n 0 := by simp [preL]
theorem preL_full (f : Nat → Int) (n : Nat) : preL f n n = (List.range n).map f := by simp [preL]
theorem preL_set (f : Nat → Int) {k n : Nat} (h : k < n) : (preL f k n).set k (f k) = preL f (k + 1) n := by
  unfold preL
  rw [List.set_append_right _ _ (by simp), List.range_succ, List.map_append, List.append_assoc]
  congr 1
  rw [List.length_map, List.length_range, Nat.sub_self]
  obtain ⟨r, hr⟩ : ∃ r, n - k = r + 1 := ⟨n - k - 1, by omega⟩
  rw [hr, List.replicate_succ, List.set_cons_zero, show n - (k + 1) = r by omega]
  rfl
theorem preL_get (f : Nat → Int) {k n i : Nat} (hi : i < n) : (preL f k n)[i]? = some (if i < k then f i else 0) := by
  unfold preL
  by_cases h : i < k
  · rw [if_pos h, List.getElem?_append_left (by simpa using h), List.getElem?_map, List.getElem?_range h]
    rfl
  · rw [if_neg h, List.getElem?_append_right (by simp; omega), List.length_map, List.length_range, List.getElem?_replicate, if_pos (by omega)]
theorem cells_two {W : World} {B : Nat} {t : TypeId} {x y : Value} (h : W.heap[B]? = some (.cells #[x, y] t (0, 0))) : W.cell? ⟨B, 0, none⟩ = some x ∧ W.cell? ⟨B, 1, none⟩ = some y := by
  have zl := fun j => cell_of_row W B j _ _ _ h
  have z0 := zl 0
  have z1 := zl 1
  simp at z0 z1
  exact ⟨z0, z1⟩
theorem shQ_bd {ws : List Int} {T : Int} (hT : 0 ≤ T) (hf : FewW ws) (hs : 0 < ws.sum) (i : Nat) : 0 ≤ shQ ws T i ∧ shQ ws T i ≤ T := by
  have hw : 0 ≤ ws.getD i 0 ∧ ws.getD i 0 ≤ ws.sum := by
    by_cases h : i < ws.length
    · exact ⟨(hf.2 _ (getD_mem h)).1, mem_le_sum (fun x hx => (hf.2 x hx).1) _ (getD_mem h)⟩
    · rw [List.getD_eq_getElem?_getD, List.getElem?_eq_none (by omega)]
      simp
      omega
  refine ⟨Int.ediv_nonneg (Int.mul_nonneg hT hw.1) (by omega), ?_⟩
  have h1 : T * ws.getD i 0 ≤ T * ws.sum := Int.mul_le_mul_of_nonneg_left hw.2 hT
  have h2 := Int.ediv_le_ediv hs h1
  rwa [Int.mul_ediv_cancel _ (by omega)] at h2
theorem shQ_sum {ws : List Int} {T : Int} (hT : 0 ≤ T ∧ T ≤ 100000) (hf : FewW ws) (hs : 0 < ws.sum) (k : Nat) (hk : k ≤ 12) : -1000000000000000 ≤ T - ((List.range k).map (shQ ws T)).sum ∧ T - ((List.range k).map (shQ ws T)).sum ≤ 1000000000000000 := by
  have h1 := sum_map_nonneg (shQ ws T) (List.range k) fun i _ => (shQ_bd hT.1 hf hs i).1
  have h2 := sum_map_le (shQ ws T) T (List.range k) fun i _ => (shQ_bd hT.1 hf hs i).2
  rw [List.length_range] at h2
  have h3 : (k : Int) * T ≤ 12 * 100000 := Int.mul_le_mul (by omega) hT.2 hT.1 (by omega)
  omega
theorem share_set {ws : List Int} {T : Int} {p : List Nat} {k i n : Nat} (hnd : p.Nodup) (hk : p[k]? = some i) : ((List.range n).map (shareAt ws T p k)).set i (shareAt ws T p k i + 1) = (List.range n).map (shareAt ws T p (k + 1)) := by
  have hnot : i ∉ p.take k := fun h => by
    obtain ⟨j, hj⟩ := List.mem_iff_getElem?.1 h
    rw [List.getElem?_take] at hj
    have hjk : j < k := by
      refine Classical.byContradiction fun h => ?_
      rw [if_neg h] at hj
      cases hj
    rw [if_pos hjk] at hj
    have hkl : k < p.length := (List.getElem?_eq_some_iff.1 hk).1
    have := (List.getElem?_inj (by omega) hnd).1 (hj.trans hk.symm)
    omega
  have hmem : ∀ j, j ∈ p.take (k + 1) ↔ j ∈ p.take k ∨ j = i := fun j => by
    rw [List.take_add_one, hk]
    simp
  refine List.ext_getElem (by simp) fun j h1 h2 => ?_
  rw [List.getElem_set, List.getElem_map, List.getElem_range, List.getElem_map, List.getElem_range]
  unfold shareAt
  by_cases hji : i = j
  · subst hji
    rw [if_pos rfl, if_neg hnot, if_pos ((hmem i).2 (.inr rfl))]
    omega
  · rw [if_neg hji]
    congr 1
    by_cases h : j ∈ p.take k
    · rw [if_pos h, if_pos ((hmem j).2 (.inl h))]
    · rw [if_neg h, if_neg (fun h' => ((hmem j).1 h').elim h (fun e => hji e.symm))]
/-- What shares give. -/
def SharesE (ws : List Int) (T : Int) (w : World) (e : Ending) (w' : World) : Prop := ∃ B f, e = .returned (.tuple #[.slice (some ⟨B, 0, none⟩) ws.length ws.length, .int .i64 0]) ∧ Shared ws T f ∧ IAt w' B 0 ((List.range ws.length).map f) ∧ B < w'.heap.size ∧ Below w.heap.size w w'
theorem sharesG_ok (ws : List Int) (v : Value) (T : Int) (w : World) (hl : SlI w v ws) (hf : FewW ws) (hs : 0 < ws.sum) (hT : 0 ≤ T ∧ T ≤ 100000) :
    Calls Tryz.prog 7 #[.int .i64 T, v] w (SharesE ws T w) := by
  have hcw := fun W (h : Below w.heap.size w W) => checkWeightsG_ok ws v W (hl.below h) hf hs
  have hsum := fun W (h : Below w.heap.size w W) => sumG_ok ws v W (hl.below h) hf
  have hwi := fun W => within_ok T 0 999999999 W
  rw [show withinI T 0 999999999 = 0 by unfold withinI; rw [if_neg (by omega)]] at hwi
  have hf2 := fun blk W => first2_ok 0 0 blk 2 W
  rw [show orI 0 0 0 = 0 by decide] at hf2
  have hn0 : ws.length ≠ 0 := fun h => by
    have : ws = [] := List.eq_nil_of_length_eq_zero h
    rw [this] at hs
    simp at hs
  have hle := hf.1
  have hst := fun Og Rb Rg W h1 h2 h3 h4 h5 h6 h7 => stable_ok ((List.range ws.length).map (shR ws T)) Og Rb Rg W (by simp; omega) (by simp; omega) h1 h2 h3 h4 h5 h6 h7
  simp only [List.length_map, List.length_range] at hst
  obtain ⟨j0, hj, hy0, hy1, hy2⟩ := info_parts (P := Tryz.prog) (e := 3) (z := .int .i64 0) (size := 1) (bytes := 8) (by kernel_rfl)
  obtain ⟨j1, hj', hz0, hz1, hz2⟩ := info_parts (P := Tryz.prog) (e := 2) (z := .int .i64 0) (size := 1) (bytes := 8) (by kernel_rfl)
  have hqs : ∀ k, k ≤ 12 → -1000000000000000 ≤ T - ((List.range k).map (shQ ws T)).sum ∧ T - ((List.range k).map (shQ ws T)).sum ≤ 1000000000000000 := shQ_sum hT hf hs
  obtain ⟨A, cap, rfl⟩ := hl.form
  go_enter Tryz.func7, Tryz.ntmps7
  go_wp2_with (first
    | (go_at_call 33; refine (hwi _).mono ?_; rintro e w4 ⟨rfl, rfl⟩)
    | (go_at_call 34; refine (hcw _ (Below.refl _ _)).mono ?_; rintro e w5 ⟨rfl, rfl⟩)
    | (go_at_call 32; refine (hf2 _ _ ?_ ?_).mono ?_; (go_simp); (go_simp); rintro e w6 ⟨rfl, rfl⟩))
  have hX0 : Below w5.heap.size w5 (w5.alloc (.cells #[.int .i64 0, .int .i64 0] 28)) := (Below.refl _ _).alloc (Nat.le_refl _) _
  have hl0 := hl.below hX0
  refine (hsum _ hX0).mono ?_
  rintro e w7 ⟨rfl, hw7⟩
  rw [← hw7] at hX0 hl0
  clear hw7 hcw hsum hwi hf2
  go_wp2_with (at_make; refine wpList_make_full _ rfl _ _ 22 rfl w5.heap.size 3 j0 _ 1 Tryz.underlying22 hj hy0 hy1 .i64 .i64 _ _ ws.length rfl rfl rfl rfl ?a1 ?a2 ?a3 ?_)
  case a1 => rw [hy2]; omega
  case a2 => unfold maxLen; omega
  case a3 => exact hX0.size
  intro w1 hown1 hgrow1
  have hS1 := RowX.made hown1
  have hX1 := hX0.grown hgrow1 hX0.size (fun k hk => by cases hk)
  have hl1 := hl0.below ((Below.refl _ _).grown hgrow1 (Nat.le_refl _) (fun k hk => by cases hk))
  have hSg0 : w5.heap.size ≤ w7.heap.size := hX0.size
  generalize w7.heap.size = Sg at hS1 hSg0 ⊢
  clear hown1 hgrow1 hX0 hl0
  go_wp2_with (at_make; refine wpList_make_full _ rfl _ _ 72 rfl w5.heap.size 2 j1 _ 1 Tryz.underlying72 hj' hz0 hz1 .i64 .i64 _ _ ws.length rfl rfl rfl rfl ?b1 ?b2 ?b3 ?_)
  case b1 => rw [hz2]; omega
  case b2 => unfold maxLen; omega
  case b3 => exact hX1.size
  intro w2 hown2 hgrow2
  have hR2 := RowX.made hown2
  have hB2 : Below w1.heap.size w1 w2 := (Below.refl _ _).grown hgrow2 (Nat.le_refl _) (fun k hk => by cases hk)
  have hS2 := hS1.below hB2
  have hX2 := hX1.trans (hB2.mono hX1.size)
  have hSR : Sg < w1.heap.size := hS1.lt
  clear hown2 hgrow2 hl1
  generalize w1.heap.size = Rg at hR2 hSR ⊢
  go_wp2_with (at_make; refine wpList_make_full _ rfl _ _ 22 rfl w5.heap.size 3 j0 _ 1 Tryz.underlying22 hj hy0 hy1 .i64 .i64 _ _ ws.length rfl rfl rfl rfl ?d1 ?d2 ?d3 ?_)
  case d1 => rw [hy2]; omega
  case d2 => unfold maxLen; omega
  case d3 => have := hX2.size; simp; omega
  intro w3 hown3 hgrow3
  have hO3 := RowX.made hown3
  have hBa : Below w2.heap.size w2 (w2.alloc (.cells #[.slice (some ⟨Rg, 0, none⟩) ws.length ws.length] 72)) := (Below.refl _ _).alloc (Nat.le_refl _) _
  have hBb : Below (w2.alloc (.cells #[.slice (some ⟨Rg, 0, none⟩) ws.length ws.length] 72)).heap.size (w2.alloc (.cells #[.slice (some ⟨Rg, 0, none⟩) ws.length ws.length] 72)) w3 := (Below.refl _ _).grown hgrow3 (Nat.le_refl _) (fun k hk => by cases hk)
  have hB3 : Below w2.heap.size w2 w3 := hBa.trans (hBb.mono (by simp))
  have hb3 : w3.heap[w2.heap.size]? = some (.cells #[.slice (some ⟨Rg, 0, none⟩) ws.length ws.length] 72 (0, 0)) := (hBb.block _ (by simp)).trans (heap_alloc_new _ _)
  have hS3 := hS2.below hB3
  have hR3 := hR2.below hB3
  have hX3 := hX2.trans (hB3.mono hX2.size)
  have hRb : Rg < w2.heap.size := hR2.lt
  clear hown3 hgrow3 hBa hBb hB3 hS2 hR2 hX2 hB2 hS1 hX1 hj hy0 hy1 hy2 hj' hz0 hz1 hz2
  generalize w2.heap.size = Rb at hO3 hb3 hRb ⊢
  rw [← preL_zero (shQ ws T)] at hS3
  rw [← preL_zero (shR ws T)] at hR3
  rw [← preL_zero (fun i : Nat => (i : Int))] at hO3
  go_wp2
  go_loopw [11, 40] (fun lft i wr => ∃ k : Nat, k ≤ ws.length ∧ i = .int .i64 k ∧ lft = .int .i64 (T - ((List.range k).map (shQ ws T)).sum) ∧ RowX wr 3 Sg (preL (shQ ws T) k ws.length) ∧ RowX wr 2 Rg (preL (shR ws T) k ws.length) ∧ RowX wr 3 (Rb + 1) (preL (fun i : Nat => (i : Int)) k ws.length) ∧ wr.heap[Rb]? = some (.cells #[.slice (some ⟨Rg, 0, none⟩) ws.length ws.length] 72 (0, 0)) ∧ Below w5.heap.size w5 wr) (fun _ i _ => ws.length - (intOf i).toNat)
  case atStart => exact ⟨0, Nat.zero_le _, rfl, by simp, hS3, hR3, hO3, hb3, hX3⟩
  case round =>
    clear hS3 hR3 hO3 hb3 hX3
    obtain ⟨k, hk, rfl, rfl, hS, hR, hO, hb, hX⟩ := hrel
    rcases Nat.lt_or_eq_of_le hk with hkn | rfl
    · obtain ⟨b, o, x, rfl, -, hbw, hx, r0⟩ := (hl.below hX).cells hkn
      have hi0 : (0 : Int) ≤ k := by omega
      have hi1 : (k : Int) < ws.length := by omega
      have wk := wrapS (n := (k : Int) + 1) (by omega)
      have hxb := hf.2 x (List.mem_of_getElem? hx)
      have hx' : ws.getD k 0 = x := by rw [List.getD_eq_getElem?_getD, hx]; rfl
      have hTx : 0 ≤ T * x ∧ T * x ≤ 100000 * 999999999 := ⟨Int.mul_nonneg hT.1 hxb.1, Int.mul_le_mul hT.2 hxb.2 hxb.1 (by omega)⟩
      have wp := wrapD (n := T * x) (by omega)
      have e1 : T * x / ws.sum = shQ ws T k := by unfold shQ; rw [hx']
      have e2 : T * x % ws.sum = shR ws T k := by unfold shR; rw [hx']
      have q0 : 0 ≤ T * x / ws.sum := Int.ediv_nonneg hTx.1 (Int.le_of_lt hs)
      have q1 : T * x / ws.sum ≤ T * x := Int.ediv_le_self _ hTx.1
      have q2 := shR_bd (ws := ws) (T := T) hs k
      have q3 := (sum_bd hf.2).2
      have wq : IntKind.i64.wrap (Int.tdiv (T * x) ws.sum) = shQ ws T k := by rw [Int.tdiv_eq_ediv_of_nonneg hTx.1, ← e1]; exact wrapD (by omega)
      have wm : Int.tmod (T * x) ws.sum = shR ws T k := by rw [Int.tmod_eq_emod_of_nonneg hTx.1, e2]
      have hs0 : (ws.sum == 0) = false := by rw [beq_eq_false_iff_ne]; omega
      have hs1 : ¬ ws.sum = 0 := by omega
      clear hst hl hf hs hTx e1 e2 q0 q1 q2 q3 hxb hx'
      have s0 := hS.cell (preL_get (shQ ws T) (k := k) hkn)
      have s1 := hR.cell (preL_get (shR ws T) (k := k) hkn)
      have s2 := hO.cell (preL_get (fun i : Nat => (i : Int)) (k := k) hkn)
      have z0 := hS.fz k
      have z1 := hR.fz k
      have z2 := hO.fz k
      have cb := cell_of_row wr Rb 0 _ _ _ hb
      simp at cb
      have n1 : ¬ Sg = Rg := by omega
      have n2 : ¬ Rg = Sg := by omega
      have n3 : ¬ Sg = Rb := by omega
      have n4 : ¬ Rb = Sg := by omega
      have n5 : ¬ Rg = Rb := by omega
      have n6 : ¬ Rb = Rg := by omega
      have n7 : ¬ Sg = Rb + 1 := by omega
      have n8 : ¬ Rb + 1 = Sg := by omega
      have n9 : ¬ Rg = Rb + 1 := by omega
      have n10 : ¬ Rb + 1 = Rg := by omega
      have n11 : ¬ Rb = Rb + 1 := by omega
      have n12 : ¬ Rb + 1 = Rb := by omega
      go_wp2
      go_region_held3 (fun w' => w'.cell? ⟨Rb, 0, none⟩ = some (.slice (some ⟨Rg, 0, none⟩) ws.length ws.length)) (first | exact cb | go_keep) (fail)
      rename_i hHeld
      clear hHeld
      have hS' : RowX (((wr.setCell ⟨Sg, k, none⟩ (.int .i64 (shQ ws T k))).setCell ⟨Rg, k, none⟩ (.int .i64 (shR ws T k))).setCell ⟨Rb + 1, k, none⟩ (.int .i64 (k : Int))).drew 3 Sg (preL (shQ ws T) (k + 1) ws.length) := by
        have h := hS.set k (shQ ws T k)
        rw [preL_set _ hkn] at h
        exact ((h.keep (heap_setCell_other _ ⟨Rg, k, none⟩ Sg _ n1)).keep (heap_setCell_other _ ⟨Rb + 1, k, none⟩ Sg _ n7))
      have hR' : RowX (((wr.setCell ⟨Sg, k, none⟩ (.int .i64 (shQ ws T k))).setCell ⟨Rg, k, none⟩ (.int .i64 (shR ws T k))).setCell ⟨Rb + 1, k, none⟩ (.int .i64 (k : Int))).drew 2 Rg (preL (shR ws T) (k + 1) ws.length) := by
        have h := (hR.keep (heap_setCell_other wr ⟨Sg, k, none⟩ Rg (.int .i64 (shQ ws T k)) n2)).set k (shR ws T k)
        rw [preL_set _ hkn] at h
        exact h.keep (heap_setCell_other _ ⟨Rb + 1, k, none⟩ Rg _ n9)
      have hO' : RowX (((wr.setCell ⟨Sg, k, none⟩ (.int .i64 (shQ ws T k))).setCell ⟨Rg, k, none⟩ (.int .i64 (shR ws T k))).setCell ⟨Rb + 1, k, none⟩ (.int .i64 (k : Int))).drew 3 (Rb + 1) (preL (fun i : Nat => (i : Int)) (k + 1) ws.length) := by
        have h := ((hO.keep (heap_setCell_other wr ⟨Sg, k, none⟩ (Rb + 1) (.int .i64 (shQ ws T k)) n8)).keep (heap_setCell_other _ ⟨Rg, k, none⟩ (Rb + 1) (.int .i64 (shR ws T k)) n10)).set k (k : Int)
        rwa [preL_set (fun i : Nat => (i : Int)) hkn] at h
      have hb' : (((wr.setCell ⟨Sg, k, none⟩ (.int .i64 (shQ ws T k))).setCell ⟨Rg, k, none⟩ (.int .i64 (shR ws T k))).setCell ⟨Rb + 1, k, none⟩ (.int .i64 (k : Int))).drew.heap[Rb]? = some (.cells #[.slice (some ⟨Rg, 0, none⟩) ws.length ws.length] 72 (0, 0)) :=
        (heap_setCell_other _ ⟨Rb + 1, k, none⟩ Rb _ n11).trans ((heap_setCell_other _ ⟨Rg, k, none⟩ Rb _ n6).trans ((heap_setCell_other wr ⟨Sg, k, none⟩ Rb _ n4).trans hb))
      have hX' : Below w5.heap.size w5 (((wr.setCell ⟨Sg, k, none⟩ (.int .i64 (shQ ws T k))).setCell ⟨Rg, k, none⟩ (.int .i64 (shR ws T k))).setCell ⟨Rb + 1, k, none⟩ (.int .i64 (k : Int))).drew :=
        (((hX.setCell (p := ⟨Sg, k, none⟩) hSg0 (.int .i64 (shQ ws T k))).setCell (p := ⟨Rg, k, none⟩) (show w5.heap.size ≤ Rg by omega) (.int .i64 (shR ws T k))).setCell (p := ⟨Rb + 1, k, none⟩) (show w5.heap.size ≤ Rb + 1 by omega) (.int .i64 (k : Int))).drew
      clear hS hR hO hb hX s0 s1 s2 z0 z1 z2 cb n1 n2 n3 n4 n5 n6 n7 n8 n9 n10 n11 n12 wp wq wm r0 hbw
      generalize (((wr.setCell ⟨Sg, k, none⟩ (.int .i64 (shQ ws T k))).setCell ⟨Rg, k, none⟩ (.int .i64 (shR ws T k))).setCell ⟨Rb + 1, k, none⟩ (.int .i64 (k : Int))).drew = W' at hS' hR' hO' hb' hX' ⊢
      have s0 := hS'.cell (preL_get (shQ ws T) (k := k + 1) hkn)
      rw [if_pos (Nat.lt_succ_self k)] at s0
      have hsucc : ((List.range (k + 1)).map (shQ ws T)).sum = ((List.range k).map (shQ ws T)).sum + shQ ws T k := by
        rw [List.range_succ, List.map_append, List.sum_append]
        simp
      have wl : IntKind.i64.wrap (T - ((List.range k).map (shQ ws T)).sum - shQ ws T k) = T - ((List.range (k + 1)).map (shQ ws T)).sum := by
        rw [hsucc, show T - ((List.range k).map (shQ ws T)).sum - shQ ws T k = T - (((List.range k).map (shQ ws T)).sum + shQ ws T k) by omega, ← hsucc]
        exact wrapD (hqs (k + 1) (by omega))
      have Hs := Lib.hid hsucc
      clear hsucc hx
      go_wp2
      exact ⟨⟨k + 1, hkn, rfl, by rw [Hs.out], hS', hR', hO', hb', hX'⟩, by simp [intOf]; omega⟩
    · rw [preL_full] at hS hR hO
      have hL := shL_bd (ws := ws) (T := T) hs
      rw [show T - ((List.range ws.length).map (shQ ws T)).sum = shL ws T from rfl]
      have hON : RowN wr (Rb + 1) (List.range ws.length) := by
        have h := hO
        unfold RowX at h
        rw [List.map_map] at h
        exact h
      have cb := cell_of_row wr Rb 0 _ _ _ hb
      simp at cb
      have q := hst (Rb + 1) Rb Rg wr hON cb hR.at_ (by omega) (by omega) (Array.getElem?_eq_some_iff.1 hb).1 hR.lt
      clear hst hON cb hO
      go_wp2_with (go_at_call 36; refine q.mono ?_; rintro e w8 ⟨p, rfl, hp, hN, hK⟩)
      have hX8 : Below w5.heap.size w5 w8 := hX.trans ⟨hK.os, hK.tape, hK.output, hK.size, fun j hj => hK.block j (by have := hX.size; omega) (by omega)⟩
      have hS8 := hS.keep (hK.block Sg hS.lt (by omega))
      have hpl : p.length = ws.length := by have := hp.1.length_eq; simpa using this
      have hpp : p.Perm (List.range ws.length) := by simpa using hp.1
      have hpd : ∀ (a b i k : Nat), a < b → p[a]? = some i → p[b]? = some k → shR ws T k ≤ shR ws T i := fun a b i k hab ha hb => by
        have h := hp.2 a b i k hab ha hb
        have hi : i < ws.length := List.mem_range.1 (hpp.mem_iff.1 (List.mem_of_getElem? ha))
        have hk : k < ws.length := List.mem_range.1 (hpp.mem_iff.1 (List.mem_of_getElem? hb))
        rw [List.getD_eq_getElem?_getD, List.getD_eq_getElem?_getD, List.getElem?_map, List.getElem?_map, List.getElem?_range hi, List.getElem?_range hk] at h
        exact h
      have hfin := shared_ok hT.1 (fun x hx => (hf.2 x hx).1) hs hpp hpd
      obtain ⟨Ln, hLn⟩ : ∃ Ln : Nat, shL ws T = Ln := ⟨(shL ws T).toNat, by omega⟩
      rw [hLn, Int.toNat_natCast] at hfin
      rw [hLn] at hL
      have hL0 : (0 : Int) ≤ Ln := hL.1
      have hL1 : (Ln : Int) ≤ ws.length := hL.2
      have hnd := nodup_of_perm_range hpp
      have hS9 : RowX w8 3 Sg ((List.range ws.length).map (shareAt ws T p 0)) := by
        have : shareAt ws T p 0 = shQ ws T := funext fun i => by simp [shareAt]
        rw [this]
        exact hS8
      rw [hLn]
      clear q hp hpd hK hS hR hb hX hS8 hk
      go_wp2
      go_loopw [78] (fun i wr => ∃ k : Nat, k ≤ Ln ∧ i = .int .i64 k ∧ RowX wr 3 Sg ((List.range ws.length).map (shareAt ws T p k)) ∧ RowN wr (Rb + 1) p ∧ Below w5.heap.size w5 wr) (fun i _ => Ln - (intOf i).toNat)
      case atStart => exact ⟨0, Nat.zero_le _, rfl, hS9, hN, hX8⟩
      case round =>
        clear hS9 hN hX8
        obtain ⟨k, hk, rfl, hS, hN, hX⟩ := hrel
        rcases Nat.lt_or_eq_of_le hk with hkn | rfl
        · obtain ⟨i, hi⟩ : ∃ i, p[k]? = some i := ⟨_, List.getElem?_eq_getElem (by omega)⟩
          have hin : i < ws.length := List.mem_range.1 (hpp.mem_iff.1 (List.mem_of_getElem? hi))
          have c0 := row_cell hN hi
          have c1 := hS.cell (i := i) (x := shareAt ws T p k i) (by rw [List.getElem?_map, List.getElem?_range hin]; rfl)
          have f1 := hS.fz i
          have hb := shQ_bd hT.1 hf hs i
          have w1 := wrapD (n := shareAt ws T p k i + 1) (by unfold shareAt; split <;> omega)
          have hk0 : (0 : Int) ≤ k := by omega
          have hk1 : (k : Int) < Ln := by omega
          have hi0 : (0 : Int) ≤ i := by omega
          have hi1 : (i : Int) < ws.length := by omega
          have wk := wrapS (n := (k : Int) + 1) (by omega)
          have hS' := hS.set i (shareAt ws T p k i + 1)
          rw [share_set hnd hi] at hS'
          have hN' : RowN (wr.setCell ⟨Sg, i, none⟩ (.int .i64 (shareAt ws T p k i + 1))) (Rb + 1) p := (heap_setCell_other wr ⟨Sg, i, none⟩ (Rb + 1) _ (by show ¬ Rb + 1 = Sg; omega)).trans hN
          have hX' := hX.setCell (p := ⟨Sg, i, none⟩) hSg0 (.int .i64 (shareAt ws T p k i + 1))
          have HS := Lib.hid hS'
          have HN := Lib.hid hN'
          have HX := Lib.hid hX'
          clear hS' hN' hX' hS hN hX hb hi hin hfin hnd hpp hl hf hs
          go_wp2
          exact ⟨⟨k + 1, hkn, rfl, HS.out, HN.out, HX.out⟩, by simp [intOf]; omega⟩
        · have H := Lib.hid hfin
          clear hfin hnd hpp hl hf hs hN
          go_wp2
          go_ret2
          exact ⟨Sg, _, rfl, H.out, hS.at_, hS.lt, hX⟩
end Go.Proofs
