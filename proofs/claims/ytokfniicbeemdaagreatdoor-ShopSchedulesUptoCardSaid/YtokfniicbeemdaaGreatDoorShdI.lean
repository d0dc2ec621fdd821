/- Shades: CheckGuide of the program accepts a guide without errors. -/
import Derived.Test.YtokfniicbeemdaaGreatDoorShdH
namespace Go.Proofs
open Go.RowKit Go.MapKept
set_option maxHeartbeats 16000000
set_option maxRecDepth 1000000
theorem four_cells {W : World} {b : Nat} {T : TypeId} {x0 x1 x2 x3 : Value} (h : W.heap[b]? = some (.cells #[x0, x1, x2, x3] T (0, 0))) :
    W.cell? ⟨b, 0, none⟩ = some x0 ∧ W.cell? ⟨b, 1, none⟩ = some x1 ∧ W.cell? ⟨b, 2, none⟩ = some x2 ∧ W.cell? ⟨b, 3, none⟩ = some x3 := by
  have hz := fun j => cell_of_row W b j _ _ _ h
  refine ⟨?_, ?_, ?_, ?_⟩
  · rw [hz 0]; simp
  · rw [hz 1]; simp
  · rw [hz 2]; simp
  · rw [hz 3]; simp
theorem shGuide_ok (ws : Cel) (v : Value) (l : List TabT) (w : World) (hl : SlT w v l) (ok : GuideOk ws l) :
    Calls Tryz.prog 106 #[gdV ws v] w fun e w' => e = .returned (.int .i64 0) ∧ Below w.heap.size w w' := by
  obtain ⟨A, cap, rfl⟩ := hl.form
  have hwt := ok.wt
  have hpos := ok.pos
  have hfew := ok.few
  obtain ⟨x, y, z⟩ := ws
  unfold gdV
  dsimp only
  obtain ⟨W0, hW⟩ : ∃ W0, W0 = (w.alloc (.cells #[.int .i64 x, .int .i64 y, .int .i64 z, .slice A l.length cap] 99)) := ⟨_, rfl⟩
  have hB0 : Below w.heap.size w W0 := by subst hW; exact (Below.refl _ _).alloc (Nat.le_refl _) _
  have hrow : W0.heap[w.heap.size]? = some (.cells #[.int .i64 x, .int .i64 y, .int .i64 z, .slice A l.length cap] 99 (0, 0)) := by subst hW; exact heap_alloc_new w _
  have hlt : w.heap.size < W0.heap.size := (Array.getElem?_eq_some_iff.1 hrow).1
  have kk : ∀ V, Below W0.heap.size W0 V → V.cell? ⟨w.heap.size, 0, none⟩ = some (.int .i64 x) ∧ V.cell? ⟨w.heap.size, 1, none⟩ = some (.int .i64 y) ∧ V.cell? ⟨w.heap.size, 2, none⟩ = some (.int .i64 z) ∧ V.cell? ⟨w.heap.size, 3, none⟩ = some (.slice A l.length cap) := fun V h => four_cells ((h.block _ hlt).trans hrow)
  have hD := (Below.refl W0.heap.size W0).drew
  have hky := kk _ hD
  obtain ⟨c0, c1, c2, c3⟩ := hky
  have hall := shAll3 x y z 1 100 w.heap.size 3 W0.drew c0 c1 c2 hwt
  have hky := kk _ hD
  have hw1 := fun W => shWhen_ok false 12 W
  have hw2 := fun W => shWhen_ok false 5 W
  have hn0 : ((l.length : Int) == 0) = false := by rw [beq_eq_false_iff_ne]; omega
  have hn1 : decide ((32 : Int) < l.length) = false := by simp; omega
  simp only [Bool.false_eq_true, if_false] at hw1 hw2
  have ho := fun blk W => shFirst3 0 0 0 blk 3 W
  rw [show or3 0 0 0 = 0 from rfl] at ho
  have hBF := hB0.drew.alloc hB0.size (.cells #[.int .i64 0, .int .i64 0, .int .i64 0] 28)
  have hkyA := kk _ (hD.alloc hD.size (.cells #[.int .i64 0, .int .i64 0, .int .i64 0] 28))
  clear hwt c0 c1 c2 c3
  go_enter Tryz.func106, Tryz.ntmps106
  go_wp2_with fail
  rw [← hW]
  clear hW
  go_region_held3 (fun w' => w'.cell? ⟨w.heap.size, 0, none⟩ = some (.int .i64 x) ∧ w'.cell? ⟨w.heap.size, 1, none⟩ = some (.int .i64 y) ∧ w'.cell? ⟨w.heap.size, 2, none⟩ = some (.int .i64 z) ∧ w'.cell? ⟨w.heap.size, 3, none⟩ = some (.slice A l.length cap)) (first | exact hky | exact hkyA | go_keep)
    (first
      | (go_at_call 121; refine hall.mono ?_; rintro e w4 ⟨rfl, rfl⟩)
      | (go_at_call 55; (first | with_reducible refine (hw1 _).mono ?_ | with_reducible refine (hw2 _).mono ?_); rintro e w4 ⟨rfl, rfl⟩)
      | (go_at_call 54; refine (ho _ _ ?_ ?_ ?_).mono ?_; (go_simp); (go_simp); (go_simp); rintro e w5 ⟨rfl, rfl⟩))
  rename_i hHeld
  clear hHeld hkyA hky hall hw1 hw2
  have hX1 : Below W0.heap.size W0 (W0.alloc (.cells #[.int .i64 0, .int .i64 0, .int .i64 0] 28)).drew := (hD.alloc hD.size (.cells #[.int .i64 0, .int .i64 0, .int .i64 0] 28))
  generalize (W0.alloc (.cells #[.int .i64 0, .int .i64 0, .int .i64 0] 28)).drew = W1 at hX1 ⊢
  have hB1 := hB0.trans (hX1.mono hB0.size)
  obtain ⟨c0, c1, c2, c3⟩ := kk _ hX1
  have hmk := run_makeMap (P := Tryz.prog) 125 W1
  have hM0 := NMap.made W1
  have hBM : Below w.heap.size w (W1.alloc (.map #[] 0)) := hB1.alloc hB1.size _
  have hne1 : w.heap.size ≠ W1.heap.size := by have := hX1.size; omega
  have hlt1 : w.heap.size < W1.heap.size := by have := hX1.size; omega
  have hzM : W1.heap.size < (W1.alloc (.map #[] 0)).heap.size := by simp
  clear hBF hD kk hrow hB1 hX1
  go_wp2
  clear hmk c0 c1 c2 c3
  go_loopw [30] (fun i wr => ∃ k : Nat, k ≤ l.length ∧ i = .int .i64 k ∧ NMap wr W1.heap.size ((l.take k).map (·.1)) ∧ W1.heap.size < wr.heap.size ∧ Below w.heap.size w wr) (fun i _ => l.length - (intOf i).toNat)
  case atStart => exact ⟨0, Nat.zero_le _, rfl, hM0, hzM, hBM⟩
  case round =>
    clear hM0 hzM hBM
    obtain ⟨k, hk, rfl, hM, hz, hBw⟩ := hrel
    rcases Nat.lt_or_eq_of_le hk with hkn | rfl
    · obtain ⟨b, o, s, x1, y1, z1, rfl, -, hb, hc, r0, r1, r2, r3⟩ := (hl.below hBw).cells hkn
      have hi0 : (0 : Int) ≤ k := by omega
      have hi1 : (k : Int) < l.length := by omega
      obtain ⟨hnm, hcol⟩ := ok.at_ k _ hc
      dsimp only at hnm hcol
      have hnew : s ∉ (l.take k).map (·.1) := fun hm => by
        obtain ⟨t, ht, e⟩ := List.mem_map.1 hm
        obtain ⟨j, hj⟩ := List.mem_iff_getElem?.1 ht
        rw [List.getElem?_take] at hj
        split at hj
        · rename_i hjk
          exact ok.nd k j t _ hjk hj hc e
        · cases hj
      have hsucc : (l.take (k + 1)).map (·.1) = (l.take k).map (·.1) ++ [s] := by
        rw [List.take_add_one, hc]
        simp
      obtain ⟨Wt, hW⟩ : ∃ Wt, Wt = (wr.alloc (.cells #[.string s, .int .i64 x1, .int .i64 y1, .int .i64 z1] 96)) := ⟨_, rfl⟩
      have hb0 : Wt.heap[wr.heap.size]? = some (.cells #[.string s, .int .i64 x1, .int .i64 y1, .int .i64 z1] 96 (0, 0)) := by subst hW; exact heap_alloc_new wr _
      have hzt : wr.heap.size < Wt.heap.size := (Array.getElem?_eq_some_iff.1 hb0).1
      have hYt : Below w.heap.size w Wt := by subst hW; exact hBw.alloc hBw.size _
      have hMt : NMap Wt W1.heap.size ((l.take k).map (·.1)) := by subst hW; exact hM.keep (Below.heap_alloc _ _ _ hz)
      have kz : ∀ V : World, V.heap[wr.heap.size]? = some (.cells #[.string s, .int .i64 x1, .int .i64 y1, .int .i64 z1] 96 (0, 0)) → V.cell? ⟨wr.heap.size, 0, none⟩ = some (.string s) ∧ V.cell? ⟨wr.heap.size, 1, none⟩ = some (.int .i64 x1) ∧ V.cell? ⟨wr.heap.size, 2, none⟩ = some (.int .i64 y1) ∧ V.cell? ⟨wr.heap.size, 3, none⟩ = some (.int .i64 z1) := fun V h => four_cells h
      have hky := kz Wt.drew hb0
      have hcl := fun W => shColour_ok (x1, y1, z1) W hcol
      unfold colV at hcl
      dsimp only at hcl
      have hwB := hBw.size
      have hsl := fun W => shCheckName_ok s W hnm
      clear hM hc ok hnm hl
      go_wp2_with fail
      rw [← hW]
      clear hW r0 r1 r2 r3
      go_region_held3 (fun w' => w'.cell? ⟨wr.heap.size, 0, none⟩ = some (.string s) ∧ w'.cell? ⟨wr.heap.size, 1, none⟩ = some (.int .i64 x1) ∧ w'.cell? ⟨wr.heap.size, 2, none⟩ = some (.int .i64 y1) ∧ w'.cell? ⟨wr.heap.size, 3, none⟩ = some (.int .i64 z1)) (first | exact hky | exact hkyA | go_keep)
        (first
          | (go_at_call 63; refine (hsl _).mono ?_; rintro e v1 ⟨rfl, hQ1⟩; have hb1 := (hQ1.block wr.heap.size hzt).trans hb0; have hm1 := hMt.keep (hQ1.block W1.heap.size (Nat.lt_trans hz hzt)); have hky := kz _ hb1; have hY1 := hYt.drew.trans (hQ1.mono (Nat.le_trans hwB (Nat.le_of_lt hzt))); have hs1 := hQ1.size)
          | (go_at_call 64; refine (shAdd_ok _ _ _ _ hm1 hnew).mono ?_; rintro e v2 ⟨rfl, hm2, hg2⟩; have hb2 := (hg2.block wr.heap.size (Nat.lt_of_lt_of_le hzt hs1) (by simp; omega)).trans hb1; have hky := kz _ hb2; have hY2 := hY1.grown hg2 hY1.size (fun j hj => by injection hj with hj; omega); have hs2 := hg2.size)
          | (go_at_call 107; refine (hcl _).mono ?_; rintro e v3 ⟨rfl, hQ3⟩; have hb3 := (hQ3.block wr.heap.size (Nat.lt_of_lt_of_le (Nat.lt_of_lt_of_le hzt hs1) hs2)).trans hb2; have hm3 := hm2.keep (hQ3.block _ hm2.lt); have hky := kz _ hb3; have hkyA := kz (v3.alloc (.cells #[.int .i64 0, .int .i64 0, .int .i64 0] 28)).drew ((Below.heap_alloc _ _ _ (Array.getElem?_eq_some_iff.1 hb3).1).trans hb3); have hY3 := hY2.trans (hQ3.mono hY2.size))
          | (go_at_call 54; refine (ho _ _ ?_ ?_ ?_).mono ?_; (go_simp); (go_simp); (go_simp); rintro e w5 ⟨rfl, rfl⟩))
      rename_i hHeld
      clear hHeld hkyA hky hcl hsl hb1 hm1 hb2 hb3 kz hb0 hMt hYt hQ1 hQ3 hY1 hY2
      have hm4 : NMap (v3.alloc (.cells #[.int .i64 0, .int .i64 0, .int .i64 0] 28)) W1.heap.size ((l.take (k + 1)).map (·.1)) := by rw [hsucc]; exact hm3.keep (Below.heap_alloc _ _ _ hm3.lt)
      have hY4 := hY3.alloc hY3.size (.cells #[.int .i64 0, .int .i64 0, .int .i64 0] 28)
      have hz4 : W1.heap.size < (v3.alloc (.cells #[.int .i64 0, .int .i64 0, .int .i64 0] 28)).heap.size := by have := hm3.lt; simp; omega
      generalize v3.alloc (.cells #[.int .i64 0, .int .i64 0, .int .i64 0] 28) = v4 at hm4 hY4 hz4 ⊢
      clear hnew hsucc hm3 hY3 hm2 hg2
      go_wp2
      go_roundw
      case rel => exact ⟨k + 1, hkn, by simp, hm4, hz4, hY4⟩
      case measure => simp [intOf]; omega
    · go_wp2
      go_ret
      exact ⟨rfl, hBw⟩
end Go.Proofs
