import Derived.Test.YtdiddniddohhgaaGreatDoorShdH
import Derived.Laws.MakeOwn
section
/- Shades: CheckGuide of the program accepts a guide without errors. -/
namespace Go.Proofs
open Go.RowKit Go.MapKept
set_option maxHeartbeats 16000000
set_option maxRecDepth 1000000
theorem four_cells {W : World} {b : Nat} {T : TypeId} {x0 x1 x2 x3 : Value} (h : W.heap[b]? = some (.cells #[x0, x1, x2, x3] T (0, 0))) :
    W.cell? ⟨b, 0, none⟩ = some x0 ∧ W.cell? ⟨b, 1, none⟩ = some x1 ∧ W.cell? ⟨b, 2, none⟩ = some x2 ∧ W.cell? ⟨b, 3, none⟩ = some x3 := by
  have hz := fun j => cell_of_row W b j _ _ _ h
  refine ⟨?_, ?_, ?_, ?_⟩
  · rw [hz 0]; simp
  · rw [hz 1]; simp
  · rw [hz 2]; simp
  · rw [hz 3]; simp
theorem shGuide_ok (ws : Cel) (v : Value) (l : List TabT) (w : World) (hl : SlT w v l) (ok : GuideOk ws l) :
    Calls Tryz.prog 87 #[gdV ws v] w fun e w' => e = .returned (.int .i64 0) ∧ Below w.heap.size w w' := by
  obtain ⟨A, cap, rfl⟩ := hl.form
  have hwt := ok.wt
  have hpos := ok.pos
  have hfew := ok.few
  obtain ⟨x, y, z⟩ := ws
  unfold gdV
  dsimp only
  obtain ⟨W0, hW⟩ : ∃ W0, W0 = (w.alloc (.cells #[.int .i64 x, .int .i64 y, .int .i64 z, .slice A l.length cap] 83)) := ⟨_, rfl⟩
  have hB0 : Below w.heap.size w W0 := by subst hW; exact (Below.refl _ _).alloc (Nat.le_refl _) _
  have hrow : W0.heap[w.heap.size]? = some (.cells #[.int .i64 x, .int .i64 y, .int .i64 z, .slice A l.length cap] 83 (0, 0)) := by subst hW; exact heap_alloc_new w _
  have hlt : w.heap.size < W0.heap.size := (Array.getElem?_eq_some_iff.1 hrow).1
  have kk : ∀ V, Below W0.heap.size W0 V → V.cell? ⟨w.heap.size, 0, none⟩ = some (.int .i64 x) ∧ V.cell? ⟨w.heap.size, 1, none⟩ = some (.int .i64 y) ∧ V.cell? ⟨w.heap.size, 2, none⟩ = some (.int .i64 z) ∧ V.cell? ⟨w.heap.size, 3, none⟩ = some (.slice A l.length cap) := fun V h => four_cells ((h.block _ hlt).trans hrow)
  have hD := (Below.refl W0.heap.size W0).drew
  have hky := kk _ hD
  obtain ⟨c0, c1, c2, c3⟩ := hky
  have hall := shAll3 x y z 1 100 w.heap.size 3 W0.drew c0 c1 c2 hwt
  have hky := kk _ hD
  have hw1 := fun W => shWhen_ok false 12 W
  have hw2 := fun W => shWhen_ok false 5 W
  have hn0 : ((l.length : Int) == 0) = false := by rw [beq_eq_false_iff_ne]; omega
  have hn1 : decide ((32 : Int) < l.length) = false := by simp; omega
  simp only [Bool.false_eq_true, if_false] at hw1 hw2
  have ho := fun blk W => shFirst3 0 0 0 blk 3 W
  rw [show or3 0 0 0 = 0 from rfl] at ho
  have hBF := hB0.drew.alloc hB0.size (.cells #[.int .i64 0, .int .i64 0, .int .i64 0] 28)
  have hkyA := kk _ (hD.alloc hD.size (.cells #[.int .i64 0, .int .i64 0, .int .i64 0] 28))
  clear hwt c0 c1 c2 c3
  go_enter Tryz.func87, Tryz.ntmps87
  go_wp2_with fail
  rw [← hW]
  clear hW
  go_region_held3 (fun w' => w'.cell? ⟨w.heap.size, 0, none⟩ = some (.int .i64 x) ∧ w'.cell? ⟨w.heap.size, 1, none⟩ = some (.int .i64 y) ∧ w'.cell? ⟨w.heap.size, 2, none⟩ = some (.int .i64 z) ∧ w'.cell? ⟨w.heap.size, 3, none⟩ = some (.slice A l.length cap)) (first | exact hky | exact hkyA | go_keep)
    (first
      | (go_at_call 122; refine hall.mono ?_; rintro e w4 ⟨rfl, rfl⟩)
      | (go_at_call 40; (first | with_reducible refine (hw1 _).mono ?_ | with_reducible refine (hw2 _).mono ?_); rintro e w4 ⟨rfl, rfl⟩)
      | (go_at_call 39; refine (ho _ _ ?_ ?_ ?_).mono ?_; (go_simp); (go_simp); (go_simp); rintro e w5 ⟨rfl, rfl⟩))
  rename_i hHeld
  clear hHeld hkyA hky hall hw1 hw2
  have hX1 : Below W0.heap.size W0 (W0.alloc (.cells #[.int .i64 0, .int .i64 0, .int .i64 0] 28)).drew := (hD.alloc hD.size (.cells #[.int .i64 0, .int .i64 0, .int .i64 0] 28))
  generalize (W0.alloc (.cells #[.int .i64 0, .int .i64 0, .int .i64 0] 28)).drew = W1 at hX1 ⊢
  have hB1 := hB0.trans (hX1.mono hB0.size)
  obtain ⟨c0, c1, c2, c3⟩ := kk _ hX1
  have hmk := run_makeMap (P := Tryz.prog) 109 W1
  have hM0 := NMap.made W1
  have hBM : Below w.heap.size w (W1.alloc (.map #[] 0)) := hB1.alloc hB1.size _
  have hne1 : w.heap.size ≠ W1.heap.size := by have := hX1.size; omega
  have hlt1 : w.heap.size < W1.heap.size := by have := hX1.size; omega
  have hzM : W1.heap.size < (W1.alloc (.map #[] 0)).heap.size := by simp
  clear hBF hD kk hrow hB1 hX1
  go_wp2
  clear hmk c0 c1 c2 c3
  go_loopw [30] (fun i wr => ∃ k : Nat, k ≤ l.length ∧ i = .int .i64 k ∧ NMap wr W1.heap.size ((l.take k).map (·.1)) ∧ W1.heap.size < wr.heap.size ∧ Below w.heap.size w wr) (fun i _ => l.length - (intOf i).toNat)
  case atStart => exact ⟨0, Nat.zero_le _, rfl, hM0, hzM, hBM⟩
  case round =>
    clear hM0 hzM hBM
    obtain ⟨k, hk, rfl, hM, hz, hBw⟩ := hrel
    rcases Nat.lt_or_eq_of_le hk with hkn | rfl
    · obtain ⟨b, o, s, x1, y1, z1, rfl, -, hb, hc, r0, r1, r2, r3⟩ := (hl.below hBw).cells hkn
      have hi0 : (0 : Int) ≤ k := by omega
      have hi1 : (k : Int) < l.length := by omega
      obtain ⟨hnm, hcol⟩ := ok.at_ k _ hc
      dsimp only at hnm hcol
      have hnew : s ∉ (l.take k).map (·.1) := fun hm => by
        obtain ⟨t, ht, e⟩ := List.mem_map.1 hm
        obtain ⟨j, hj⟩ := List.mem_iff_getElem?.1 ht
        rw [List.getElem?_take] at hj
        split at hj
        · rename_i hjk
          exact ok.nd k j t _ hjk hj hc e
        · cases hj
      have hsucc : (l.take (k + 1)).map (·.1) = (l.take k).map (·.1) ++ [s] := by
        rw [List.take_add_one, hc]
        simp
      obtain ⟨Wt, hW⟩ : ∃ Wt, Wt = (wr.alloc (.cells #[.string s, .int .i64 x1, .int .i64 y1, .int .i64 z1] 80)) := ⟨_, rfl⟩
      have hb0 : Wt.heap[wr.heap.size]? = some (.cells #[.string s, .int .i64 x1, .int .i64 y1, .int .i64 z1] 80 (0, 0)) := by subst hW; exact heap_alloc_new wr _
      have hzt : wr.heap.size < Wt.heap.size := (Array.getElem?_eq_some_iff.1 hb0).1
      have hYt : Below w.heap.size w Wt := by subst hW; exact hBw.alloc hBw.size _
      have hMt : NMap Wt W1.heap.size ((l.take k).map (·.1)) := by subst hW; exact hM.keep (Below.heap_alloc _ _ _ hz)
      have kz : ∀ V : World, V.heap[wr.heap.size]? = some (.cells #[.string s, .int .i64 x1, .int .i64 y1, .int .i64 z1] 80 (0, 0)) → V.cell? ⟨wr.heap.size, 0, none⟩ = some (.string s) ∧ V.cell? ⟨wr.heap.size, 1, none⟩ = some (.int .i64 x1) ∧ V.cell? ⟨wr.heap.size, 2, none⟩ = some (.int .i64 y1) ∧ V.cell? ⟨wr.heap.size, 3, none⟩ = some (.int .i64 z1) := fun V h => four_cells h
      have hky := kz Wt.drew hb0
      have hcl := fun W => shColour_ok (x1, y1, z1) W hcol
      unfold colV at hcl
      dsimp only at hcl
      have hwB := hBw.size
      have hsl := fun W => shCheckName_ok s W hnm
      clear hM hc ok hnm hl
      go_wp2_with fail
      rw [← hW]
      clear hW r0 r1 r2 r3
      go_region_held3 (fun w' => w'.cell? ⟨wr.heap.size, 0, none⟩ = some (.string s) ∧ w'.cell? ⟨wr.heap.size, 1, none⟩ = some (.int .i64 x1) ∧ w'.cell? ⟨wr.heap.size, 2, none⟩ = some (.int .i64 y1) ∧ w'.cell? ⟨wr.heap.size, 3, none⟩ = some (.int .i64 z1)) (first | exact hky | exact hkyA | go_keep)
        (first
          | (go_at_call 48; refine (hsl _).mono ?_; rintro e v1 ⟨rfl, hQ1⟩; have hb1 := (hQ1.block wr.heap.size hzt).trans hb0; have hm1 := hMt.keep (hQ1.block W1.heap.size (Nat.lt_trans hz hzt)); have hky := kz _ hb1; have hY1 := hYt.drew.trans (hQ1.mono (Nat.le_trans hwB (Nat.le_of_lt hzt))); have hs1 := hQ1.size)
          | (go_at_call 49; refine (shAdd_ok _ _ _ _ hm1 hnew).mono ?_; rintro e v2 ⟨rfl, hm2, hg2⟩; have hb2 := (hg2.block wr.heap.size (Nat.lt_of_lt_of_le hzt hs1) (by simp; omega)).trans hb1; have hky := kz _ hb2; have hY2 := hY1.grown hg2 hY1.size (fun j hj => by injection hj with hj; omega); have hs2 := hg2.size)
          | (go_at_call 88; refine (hcl _).mono ?_; rintro e v3 ⟨rfl, hQ3⟩; have hb3 := (hQ3.block wr.heap.size (Nat.lt_of_lt_of_le (Nat.lt_of_lt_of_le hzt hs1) hs2)).trans hb2; have hm3 := hm2.keep (hQ3.block _ hm2.lt); have hky := kz _ hb3; have hkyA := kz (v3.alloc (.cells #[.int .i64 0, .int .i64 0, .int .i64 0] 28)).drew ((Below.heap_alloc _ _ _ (Array.getElem?_eq_some_iff.1 hb3).1).trans hb3); have hY3 := hY2.trans (hQ3.mono hY2.size))
          | (go_at_call 39; refine (ho _ _ ?_ ?_ ?_).mono ?_; (go_simp); (go_simp); (go_simp); rintro e w5 ⟨rfl, rfl⟩))
      rename_i hHeld
      clear hHeld hkyA hky hcl hsl hb1 hm1 hb2 hb3 kz hb0 hMt hYt hQ1 hQ3 hY1 hY2
      have hm4 : NMap (v3.alloc (.cells #[.int .i64 0, .int .i64 0, .int .i64 0] 28)) W1.heap.size ((l.take (k + 1)).map (·.1)) := by rw [hsucc]; exact hm3.keep (Below.heap_alloc _ _ _ hm3.lt)
      have hY4 := hY3.alloc hY3.size (.cells #[.int .i64 0, .int .i64 0, .int .i64 0] 28)
      have hz4 : W1.heap.size < (v3.alloc (.cells #[.int .i64 0, .int .i64 0, .int .i64 0] 28)).heap.size := by have := hm3.lt; simp; omega
      generalize v3.alloc (.cells #[.int .i64 0, .int .i64 0, .int .i64 0] 28) = v4 at hm4 hY4 hz4 ⊢
      clear hnew hsucc hm3 hY3 hm2 hg2
      go_wp2
      go_roundw
      case rel => exact ⟨k + 1, hkn, by simp, hm4, hz4, hY4⟩
      case measure => simp [intOf]; omega
    · go_wp2
      go_ret
      exact ⟨rfl, hBw⟩
end Go.Proofs
end

section
/- Shades: rows that a call makes, and listOf over colours with a distance; Min and Index. -/
namespace Go.Proofs
open Go.RowKit Go.MapKept
set_option maxHeartbeats 16000000
set_option maxRecDepth 1000000
/-- A block known to the cell. -/
def RowK (w : World) (t : TypeId) (g : Nat) (cs : List Value) : Prop := w.heap[g]? = some (.cells cs.toArray t (0, 0))
theorem RowK.lt {w : World} {t : TypeId} {g : Nat} {cs : List Value} (h : RowK w t g cs) : g < w.heap.size := (Array.getElem?_eq_some_iff.1 h).1
theorem RowK.cell {w : World} {t : TypeId} {g : Nat} {cs : List Value} (h : RowK w t g cs) {i : Nat} {x : Value} (hi : cs[i]? = some x) : w.cell? ⟨g, i, none⟩ = some x := by
  rw [cell_of_row w g i _ _ _ h]
  simp [hi]
theorem RowK.fz {w : World} {t : TypeId} {g : Nat} {cs : List Value} (h : RowK w t g cs) (i : Nat) : w.frozen? ⟨g, i, none⟩ = false := frozen_of_row w g i _ _ h
theorem RowK.set {w : World} {t : TypeId} {g : Nat} {cs : List Value} (h : RowK w t g cs) (i : Nat) (x : Value) : RowK (w.setCell ⟨g, i, none⟩ x) t g (cs.set i x) := by
  have := heap_setCell_same w g i _ t x h
  unfold RowK
  rw [this]
  simp
theorem RowK.keep {w w' : World} {t : TypeId} {g : Nat} {cs : List Value} (h : RowK w t g cs) (hb : w'.heap[g]? = w.heap[g]?) : RowK w' t g cs := hb.trans h
theorem RowK.below {w w' : World} {t : TypeId} {g : Nat} {cs : List Value} (h : RowK w t g cs) (hb : Below w.heap.size w w') : RowK w' t g cs := h.keep (hb.block g h.lt)
theorem RowK.made {w : World} {t : TypeId} {B g n s : Nat} {xs : List Value} (h : w.ownsRow B t s (.slice (some ⟨g, 0, none⟩) n n) n xs) : RowK w t g xs := by
  obtain ⟨h0, ⟨h1, -⟩ | ⟨g', cap, cur, h1, -, h2, -, -, h3, h4⟩⟩ := h
  · cases h1
  · injection h1 with e1 e2 e3
    injection e1 with e1
    injection e1 with e1
    subst e1
    subst e3
    unfold RowK
    rw [h2]
    congr 1
    congr 1
    apply Array.ext'
    rw [List.take_of_length_le (by simp [h3])] at h4
    rw [h4]
/-- A row of ints. -/
def IntsAt (w : World) (b o : Nat) (l : List Int) : Prop := ∀ i x, l[i]? = some x → w.cell? ⟨b, o + i, none⟩ = some (.int .i64 x)
theorem shMin_ok (l : List Int) (b cap : Nat) (w : World) (hl : IntsAt w b 0 l) (h0 : 0 < l.length) (hn : l.length ≤ 100000) :
    Calls Tryz.prog 75 #[.slice (some ⟨b, 0, none⟩) l.length cap] w fun e w' => (∃ m, e = .returned (.int .i64 m) ∧ m ∈ l ∧ ∀ x ∈ l, m ≤ x) ∧ w' = w := by
  obtain ⟨x0, hx0⟩ : ∃ x0, l[0]? = some x0 := ⟨_, List.getElem?_eq_getElem h0⟩
  have r0 := hl 0 x0 hx0
  have hp : (1 : Int) ≤ l.length := by omega
  go_enter Tryz.func75, Tryz.ntmps75
  go_wp2
  go_loopw [3, 4] (fun m i wr => ∃ (k : Nat) (mm : Int), k ≤ l.length ∧ 1 ≤ k ∧ i = .int .i64 k ∧ m = .int .i64 mm ∧ mm ∈ l ∧ (∀ j x, j < k → l[j]? = some x → mm ≤ x) ∧ wr = w) (fun _ i _ => l.length - (intOf i).toNat)
  case atStart => exact ⟨1, x0, by omega, by omega, rfl, rfl, List.mem_of_getElem? hx0, fun j x hj hx => by
    obtain rfl : j = 0 := by omega
    obtain rfl := Option.some.inj (hx0.symm.trans hx)
    exact Int.le_refl _, rfl⟩
  case round =>
    obtain ⟨k, mm, hk, hk1, rfl, rfl, hm, hall, rfl⟩ := hrel
    rcases Nat.lt_or_eq_of_le hk with hkn | rfl
    · obtain ⟨x, hx⟩ : ∃ x, l[k]? = some x := ⟨_, List.getElem?_eq_getElem hkn⟩
      have rk := hl k x hx
      rw [Nat.zero_add] at rk
      have hi0 : (0 : Int) ≤ k := by omega
      have hi1 : (k : Int) < l.length := by omega
      have hwk := wrap64_small (n := (k : Int) + 1) (by omega)
      go_wp2
      refine ⟨⟨k + 1, if x < mm then x else mm, hkn, by omega, by simp, rfl, ?_, fun j y hj hy => ?_, trivial⟩, by simp [intOf]; omega⟩
      · split
        · exact List.mem_of_getElem? hx
        · exact hm
      · rcases Nat.lt_or_eq_of_le (Nat.le_of_lt_succ hj) with h1 | rfl
        · have := hall j y h1 hy
          split <;> omega
        · obtain rfl := Option.some.inj (hx.symm.trans hy)
          split <;> omega
    · go_wp2
      go_ret
      refine ⟨⟨mm, rfl, hm, fun x hx => ?_⟩, rfl⟩
      obtain ⟨j, hj⟩ := List.mem_iff_getElem?.1 hx
      exact hall j x (List.getElem?_eq_some_iff.1 hj).1 hj
theorem shIndex_ok (l : List Int) (m : Int) (b cap : Nat) (w : World) (hl : IntsAt w b 0 l) (hm : m ∈ l) (hn : l.length ≤ 100000) :
    Calls Tryz.prog 119 #[.slice (some ⟨b, 0, none⟩) l.length cap, .int .i64 m] w fun e w' => (∃ j : Nat, e = .returned (.int .i64 j) ∧ l[j]? = some m ∧ ∀ i x, i < j → l[i]? = some x → x ≠ m) ∧ w' = w := by
  go_enter Tryz.func119, Tryz.ntmps119
  go_wp2
  go_loopw [8] (fun i wr => ∃ k : Nat, k ≤ l.length ∧ i = .int .i64 k ∧ (∀ j x, j < k → l[j]? = some x → x ≠ m) ∧ wr = w) (fun i _ => l.length - (intOf i).toNat)
  case atStart => exact ⟨0, Nat.zero_le _, rfl, fun j x hj _ => absurd hj (Nat.not_lt_zero j), rfl⟩
  case round =>
    obtain ⟨k, hk, rfl, hall, rfl⟩ := hrel
    rcases Nat.lt_or_eq_of_le hk with hkn | rfl
    · obtain ⟨x, hx⟩ : ∃ x, l[k]? = some x := ⟨_, List.getElem?_eq_getElem hkn⟩
      have rk := hl k x hx
      rw [Nat.zero_add] at rk
      have hi0 : (0 : Int) ≤ k := by omega
      have hi1 : (k : Int) < l.length := by omega
      have hwk := wrap64_small (n := (k : Int) + 1) (by omega)
      by_cases he : m = x
      · subst he
        go_wp2
        go_ret
        exact ⟨⟨k, rfl, hx, hall⟩, rfl⟩
      · go_wp2
        refine ⟨⟨k + 1, hkn, by simp, fun j y hj hy => ?_, trivial⟩, by simp [intOf]; omega⟩
        rcases Nat.lt_or_eq_of_le (Nat.le_of_lt_succ hj) with h1 | rfl
        · exact hall j y h1 hy
        · obtain rfl := Option.some.inj (hx.symm.trans hy)
          exact fun e => he e.symm
    · exfalso
      obtain ⟨j, hj⟩ := List.mem_iff_getElem?.1 hm
      exact hall j m (List.getElem?_eq_some_iff.1 hj).1 hj rfl
/-- The distances of some colours. -/
theorem shListI_ok (l : List Cel) (ws t : Cel) (b o cap : Nat) (w : World) (hl : RowAt w b o l) (hb : b < w.heap.size) (hn : l.length ≤ 100000) (hw : ColOk ws (-100) 100) (ht : ColOk t (-3000) 3000) (hc : ∀ c ∈ l, ColOk c (-3000) 3000) :
    Calls Tryz.prog 128 #[.slice (some ⟨b, o, none⟩) l.length cap, .func (.func 89) #[tgtV ws t] #[]] w fun e w' => ∃ B, e = .returned (.slice (some ⟨B, 0, none⟩) l.length l.length) ∧ w.heap.size ≤ B ∧ B < w'.heap.size ∧ IntsAt w' B 0 (l.map fun c => distW ws c t) ∧ Below w.heap.size w w' := by
  obtain ⟨j0, hj, hy0, hy1, hy2⟩ := info_parts (P := Tryz.prog) (e := 3) (z := .int .i64 0) (size := 1) (bytes := 8) (by kernel_rfl)
  have hcall : ∀ c ∈ l, ∀ W, Calls Tryz.prog 89 #[tgtV ws t, colV c] W fun e w' => e = .returned (.int .i64 (distW ws c t)) ∧ Below W.heap.size W w' := fun c hm W => shDist_ok ws t c W hw (hc c hm) ht
  clear hw ht hc
  unfold tgtV at hcall ⊢
  go_enter Tryz.func128, Tryz.ntmps128
  go_wp2_with (at_make; refine wpList_make_full _ rfl _ _ 23 rfl w.heap.size 3 j0 _ 1 Tryz.underlying23 hj hy0 hy1 .i64 .i64 _ _ l.length rfl rfl rfl rfl ?c1 ?c2 ?c3 ?_)
  case c1 => rw [hy2]; omega
  case c2 => unfold maxLen; omega
  case c3 => exact Nat.le_refl _
  intro w1 hown hgrow
  have hX2 : Below w.heap.size w w1 := (Below.refl _ _).grown hgrow (Nat.le_refl _) (fun k hk => by cases hk)
  have hK := RowK.made hown
  have hlen := hown.1
  clear hgrow hown
  generalize (madeCells #[Value.int .i64 0] l.length).toList = Z at hK hlen
  rw [Nat.mul_one] at hlen
  go_wp2
  go_loopw [13] (fun i wr => ∃ (k : Nat) (cs : List Value), k ≤ l.length ∧ i = .int .i64 k ∧ RowK wr 3 w.heap.size cs ∧ cs.length = l.length ∧ (∀ j c, j < k → l[j]? = some c → cs[j]? = some (.int .i64 (distW ws c t))) ∧ Below w.heap.size w wr) (fun i _ => l.length - (intOf i).toNat)
  case atStart => exact ⟨0, Z, Nat.zero_le _, rfl, hK, hlen, fun j c hj _ => absurd hj (Nat.not_lt_zero j), hX2⟩
  case round =>
    clear hK hlen hX2 Z
    obtain ⟨k, cs, hk, rfl, hK, hlen, hall, hBw⟩ := hrel
    rcases Nat.lt_or_eq_of_le hk with hkn | rfl
    · obtain ⟨⟨x, y, z⟩, hc⟩ : ∃ c, l[k]? = some c := ⟨_, List.getElem?_eq_getElem hkn⟩
      obtain ⟨r0, r1, r2⟩ := hl k _ hc
      dsimp only at r0 r1 r2
      rw [← hBw.cell (p := ⟨b, _, none⟩) hb] at r0 r1 r2
      have hi0 : (0 : Int) ≤ k := by omega
      have hi1 : (k : Int) < l.length := by omega
      have hwk := wrap64_small (n := (k : Int) + 1) (by omega)
      have hcal := hcall (x, y, z) (List.mem_of_getElem? hc)
      obtain ⟨v0, hv0⟩ : ∃ v0, cs[k]? = some v0 := ⟨_, List.getElem?_eq_getElem (by omega)⟩
      unfold colV at hcal
      dsimp only at hcal
      obtain ⟨Wt, hW⟩ : ∃ Wt, Wt = (wr.alloc (.cells #[.int .i64 x, .int .i64 y, .int .i64 z] 78)) := ⟨_, rfl⟩
      have hQt : Below wr.heap.size wr Wt := by subst hW; exact (Below.refl _ _).alloc (Nat.le_refl _) _
      have hKt := hK.below hQt
      have hBt := hBw.trans (hQt.mono hBw.size)
      have hres : ∀ (q : Int) (j : Nat) (c : Cel), q = distW ws (x, y, z) t → j < k + 1 → l[j]? = some c → (cs.set k (.int .i64 q))[j]? = some (.int .i64 (distW ws c t)) := fun q j c hq hj hcj => by
        rcases Nat.lt_or_eq_of_le (Nat.le_of_lt_succ hj) with h1 | rfl
        · rw [List.getElem?_set_ne (by omega)]
          exact hall j c h1 hcj
        · obtain rfl := Option.some.inj (hc.symm.trans hcj)
          rw [List.getElem?_set_self (by omega), hq]
      clear hcall hl hall
      generalize distW ws (x, y, z) t = q at hcal hres
      have hres := fun j c => hres q j c rfl
      go_wp2_with (go_at_call 89; rw [← hW]; refine (hcal _).mono ?_; rintro e w2 ⟨rfl, hQ2⟩; have hK2 := hKt.below hQ2; have o0 := hK2.cell hv0; have fz := hK2.fz k)
      have hB2 := hBt.trans (hQ2.mono hBt.size)
      go_roundw
      case rel => exact ⟨k + 1, _, hkn, by simp, hK2.set k _, by simp [hlen], hres, hB2.setCell (p := ⟨w.heap.size, k, none⟩) (Nat.le_refl _) _⟩
      case measure => simp [intOf]; omega
    · go_wp2
      go_ret
      refine ⟨w.heap.size, rfl, Nat.le_refl _, hK.lt, fun i x hi => ?_, hBw⟩
      rw [List.getElem?_map] at hi
      obtain ⟨c, hc, rfl⟩ := Option.map_eq_some_iff.1 hi
      rw [Nat.zero_add]
      exact hK.cell (hall i c (List.getElem?_eq_some_iff.1 hc).1 hc)
end Go.Proofs
end
