/- Shades, exactly: CheckGuide of the program. -/
import Derived.Test.YtdiddniddohhgaaGreatDoorErrA
namespace Go.Proofs
open Go.RowKit Go.MapKept
set_option maxHeartbeats 16000000
set_option maxRecDepth 1000000
theorem shGuideX_ok (ws : Cel) (v : Value) (l : List TabT) (w : World) (hl : SlT w v l) :
    Calls Tryz.prog 87 #[gdV ws v] w fun e w' => ∃ n, e = .returned (.int .i64 n) ∧ GuideX ws l n ∧ Below w.heap.size w w' := by
  have HG : RowKit.Hid (∀ ga gb gc, (ga = if sumE ws 1 100 ≠ 0 then 3 else 0) → (gb = if (l.length : Int) == 0 then 12 else 0) → (gc = if decide ((32 : Int) < l.length) then 5 else 0) → (or3 ga gb gc ≠ 0 → GuideX ws l (or3 ga gb gc)) ∧ (or3 ga gb gc = 0 → 0 < l.length ∧ l.length ≤ 32 ∧ ∀ n, ScanE l (tabE l) n → GuideX ws l n)) := Lib.hid fun ga gb gc h1 h2 h3 => by
    by_cases ha : sumE ws 1 100 = 0
    · rw [if_neg (fun h => h ha)] at h1
      by_cases hb : l.length = 0
      · rw [if_pos (by simp [hb])] at h2
        subst h1 h2 h3
        exact ⟨fun _ => .inr ⟨ha, .inl ⟨hb, by simp [or3]⟩⟩, fun h => by simp [or3] at h⟩
      · rw [if_neg (by simpa using hb)] at h2
        by_cases hc : 32 < l.length
        · rw [if_pos (by simp; omega)] at h3
          subst h1 h2 h3
          exact ⟨fun _ => .inr ⟨ha, .inr ⟨by omega, .inl ⟨hc, by simp [or3]⟩⟩⟩, fun h => by simp [or3] at h⟩
        · rw [if_neg (by simp; omega)] at h3
          subst h1 h2 h3
          exact ⟨fun h => absurd (by simp [or3]) h, fun _ => ⟨by omega, by omega, fun n hn => .inr ⟨ha, .inr ⟨by omega, .inr ⟨by omega, hn⟩⟩⟩⟩⟩
    · rw [if_pos ha] at h1
      subst h1
      exact ⟨fun _ => .inl ⟨ha, by simp [or3]⟩, fun h => by simp [or3] at h⟩
  generalize GuideX ws l = GX at HG ⊢
  obtain ⟨A, cap, rfl⟩ := hl.form
  obtain ⟨x, y, z⟩ := ws
  unfold gdV
  dsimp only
  obtain ⟨W0, hW⟩ : ∃ W0, W0 = (w.alloc (.cells #[.int .i64 x, .int .i64 y, .int .i64 z, .slice A l.length cap] 83)) := ⟨_, rfl⟩
  have hB0 : Below w.heap.size w W0 := by subst hW; exact (Below.refl _ _).alloc (Nat.le_refl _) _
  have hrow : W0.heap[w.heap.size]? = some (.cells #[.int .i64 x, .int .i64 y, .int .i64 z, .slice A l.length cap] 83 (0, 0)) := by subst hW; exact heap_alloc_new w _
  have hlt : w.heap.size < W0.heap.size := (Array.getElem?_eq_some_iff.1 hrow).1
  have kk : ∀ V, Below W0.heap.size W0 V → V.cell? ⟨w.heap.size, 0, none⟩ = some (.int .i64 x) ∧ V.cell? ⟨w.heap.size, 1, none⟩ = some (.int .i64 y) ∧ V.cell? ⟨w.heap.size, 2, none⟩ = some (.int .i64 z) ∧ V.cell? ⟨w.heap.size, 3, none⟩ = some (.slice A l.length cap) := fun V h => four_cells ((h.block _ hlt).trans hrow)
  have hD := (Below.refl W0.heap.size W0).drew
  have hky := kk _ hD
  obtain ⟨c0, c1, c2, c3⟩ := hky
  have hall := shAll3X x y z 1 100 w.heap.size 3 W0.drew hlt c0 c1 c2
  have hky := kk _ hD
  have HGI := Lib.hid (HG.out _ _ _ rfl rfl rfl)
  clear HG
  obtain ⟨b1, hn0⟩ : ∃ b1, ((l.length : Int) == 0) = b1 := ⟨_, rfl⟩
  obtain ⟨b2, hn1⟩ : ∃ b2, decide ((32 : Int) < l.length) = b2 := ⟨_, rfl⟩
  rw [hn0, hn1] at HGI
  have hw1 := fun W => shWhen_ok b1 12 W
  have hw2 := fun W => shWhen_ok b2 5 W
  generalize (if sumE (x, y, z) 1 100 ≠ 0 then (3 : Int) else 0) = ga at hall HGI
  generalize (if b1 = true then (12 : Int) else 0) = gb at hw1 HGI
  generalize (if b2 = true then (5 : Int) else 0) = gc at hw2 HGI
  have ho := fun blk W => shFirst3 ga gb gc blk 3 W
  generalize or3 ga gb gc = gr at ho HGI
  have hkyA := kk _ (hD.alloc hD.size (.cells #[.int .i64 ga, .int .i64 gb, .int .i64 gc] 28))
  clear c0 c1 c2 c3
  go_enter Tryz.func87, Tryz.ntmps87
  go_wp2_with fail
  rw [← hW]
  clear hW
  go_region_held3 (fun w' => w'.cell? ⟨w.heap.size, 0, none⟩ = some (.int .i64 x) ∧ w'.cell? ⟨w.heap.size, 1, none⟩ = some (.int .i64 y) ∧ w'.cell? ⟨w.heap.size, 2, none⟩ = some (.int .i64 z) ∧ w'.cell? ⟨w.heap.size, 3, none⟩ = some (.slice A l.length cap)) (first | exact hky | exact hkyA | go_keep)
    (first
      | (go_at_call 122; refine hall.mono ?_; rintro e w4 ⟨rfl, rfl⟩)
      | (go_at_call 40; (first | with_reducible refine (hw1 _).mono ?_ | with_reducible refine (hw2 _).mono ?_); rintro e w4 ⟨rfl, rfl⟩)
      | (go_at_call 39; refine (ho _ _ ?_ ?_ ?_).mono ?_; (go_simp); (go_simp); (go_simp); rintro e w5 ⟨rfl, rfl⟩))
  rename_i hHeld
  clear hHeld hkyA hky hall hw1 hw2 ho
  have hX1 : Below W0.heap.size W0 (W0.alloc (.cells #[.int .i64 ga, .int .i64 gb, .int .i64 gc] 28)).drew := (hD.alloc hD.size (.cells #[.int .i64 ga, .int .i64 gb, .int .i64 gc] 28))
  generalize (W0.alloc (.cells #[.int .i64 ga, .int .i64 gb, .int .i64 gc] 28)).drew = W1 at hX1 ⊢
  have hB1 := hB0.trans (hX1.mono hB0.size)
  by_cases hgr : gr = 0
  · subst hgr
    obtain ⟨hp0, hf0, hGX⟩ := HGI.out.2 rfl
    have HGX := Lib.hid hGX
    clear HGI hGX
    obtain ⟨c0, c1, c2, c3⟩ := kk _ hX1
    have hmk := run_makeMap (P := Tryz.prog) 109 W1
    have hM0 := NMX.made W1
    have hBM : Below w.heap.size w (W1.alloc (.map #[] 0)) := hB1.alloc hB1.size _
    have hne1 : w.heap.size ≠ W1.heap.size := by have := hX1.size; omega
    have hlt1 : w.heap.size < W1.heap.size := by have := hX1.size; omega
    have hzM : W1.heap.size < (W1.alloc (.map #[] 0)).heap.size := by simp
    clear hD kk hrow hB1 hX1
    go_wp2
    clear hmk c0 c1 c2 c3
    go_loopw [30] (fun i wr => ∃ k : Nat, k ≤ l.length ∧ i = .int .i64 k ∧ PreE l (tabE l) k ∧ NMX wr W1.heap.size ((l.take k).map (·.1)) ∧ W1.heap.size < wr.heap.size ∧ Below w.heap.size w wr) (fun i _ => l.length - (intOf i).toNat)
    case atStart => exact ⟨0, Nat.zero_le _, rfl, PreE.zero _ _, hM0, hzM, hBM⟩
    case round =>
      clear hM0 hzM hBM
      obtain ⟨k, hk, rfl, hp, hM, hz, hBw⟩ := hrel
      rcases Nat.lt_or_eq_of_le hk with hkn | rfl
      · obtain ⟨b, o, s, x1, y1, z1, rfl, -, hb, hc, r0, r1, r2, r3⟩ := (hl.below hBw).cells hkn
        have hi0 : (0 : Int) ≤ k := by omega
        have hi1 : (k : Int) < l.length := by omega
        have hsucc : (l.take (k + 1)).map (·.1) = (l.take k).map (·.1) ++ [s] := by
          rw [List.take_add_one, hc]
          simp
        obtain ⟨Wt, hW⟩ : ∃ Wt, Wt = (wr.alloc (.cells #[.string s, .int .i64 x1, .int .i64 y1, .int .i64 z1] 80)) := ⟨_, rfl⟩
        have hb0 : Wt.heap[wr.heap.size]? = some (.cells #[.string s, .int .i64 x1, .int .i64 y1, .int .i64 z1] 80 (0, 0)) := by subst hW; exact heap_alloc_new wr _
        have hzt : wr.heap.size < Wt.heap.size := (Array.getElem?_eq_some_iff.1 hb0).1
        have hYt : Below w.heap.size w Wt := by subst hW; exact hBw.alloc hBw.size _
        have hMt : NMX Wt W1.heap.size ((l.take k).map (·.1)) := by subst hW; exact hM.keep (Below.heap_alloc _ _ _ hz)
        have kz : ∀ V : World, V.heap[wr.heap.size]? = some (.cells #[.string s, .int .i64 x1, .int .i64 y1, .int .i64 z1] 80 (0, 0)) → V.cell? ⟨wr.heap.size, 0, none⟩ = some (.string s) ∧ V.cell? ⟨wr.heap.size, 1, none⟩ = some (.int .i64 x1) ∧ V.cell? ⟨wr.heap.size, 2, none⟩ = some (.int .i64 y1) ∧ V.cell? ⟨wr.heap.size, 3, none⟩ = some (.int .i64 z1) := fun V h => four_cells h
        have hky := kz Wt.drew hb0
        have hcl := fun W => shColourX_ok (x1, y1, z1) W
        unfold colV at hcl
        dsimp only at hcl
        have hwB := hBw.size
        have hsl : ∀ W, Calls Tryz.prog 48 #[.string s] W fun e w' => e = .returned (.int .i64 (nameE s)) ∧ Below W.heap.size W w' := fun W => shCheckNameX_ok s W
        have kA := fun W (h : NMX W W1.heap.size ((l.take k).map (·.1))) => shAddX_ok W1.heap.size ((l.take k).map (·.1)) s W h
        have htE : tabE l k (s, x1, y1, z1) = or3 (nameE s) (twiceE s ((l.take k).map (·.1))) (colE (x1, y1, z1)) := by rw [or3_orL]; rfl
        have hr2 : or3 (nameE s) (twiceE s ((l.take k).map (·.1))) (colE (x1, y1, z1)) = 0 → twiceE s ((l.take k).map (·.1)) = 0 := fun h => by
          rw [or3_orL] at h
          exact orL_eq0.1 h _ (by simp)
        generalize nameE s = ea at hsl htE hr2
        generalize twiceE s ((l.take k).map (·.1)) = eb at kA htE hr2
        generalize colE (x1, y1, z1) = ec at hcl htE hr2
        have ho := fun blk W => shFirst3 ea eb ec blk 3 W
        generalize or3 ea eb ec = er at ho htE hr2
        have HP := Lib.hid hp
        have HT := Lib.hid htE
        have HC := Lib.hid hc
        have HR2 := Lib.hid hr2
        clear hM hc hl hp htE hr2
        go_wp2_with fail
        rw [← hW]
        clear hW r0 r1 r2 r3
        go_region_held3 (fun w' => w'.cell? ⟨wr.heap.size, 0, none⟩ = some (.string s) ∧ w'.cell? ⟨wr.heap.size, 1, none⟩ = some (.int .i64 x1) ∧ w'.cell? ⟨wr.heap.size, 2, none⟩ = some (.int .i64 y1) ∧ w'.cell? ⟨wr.heap.size, 3, none⟩ = some (.int .i64 z1)) (first | exact hky | exact hkyA | go_keep)
          (first
            | (go_at_call 48; refine (hsl _).mono ?_; rintro e v1 ⟨rfl, hQ1⟩; have hb1 := (hQ1.block wr.heap.size hzt).trans hb0; have hm1 := hMt.keep (hQ1.block W1.heap.size (Nat.lt_trans hz hzt)); have hky := kz _ hb1; have hY1 := hYt.drew.trans (hQ1.mono (Nat.le_trans hwB (Nat.le_of_lt hzt))); have hs1 := hQ1.size)
            | (go_at_call 49; refine (kA _ hm1).mono ?_; rintro e v2 ⟨rfl, hg2, l2, hm2, hl2⟩; have hb2 := (hg2.block wr.heap.size (Nat.lt_of_lt_of_le hzt hs1) (by simp; omega)).trans hb1; have hky := kz _ hb2; have hY2 := hY1.grown hg2 hY1.size (fun j hj => by injection hj with hj; omega); have hs2 := hg2.size)
            | (go_at_call 88; refine (hcl _).mono ?_; rintro e v3 ⟨rfl, hQ3⟩; have hb3 := (hQ3.block wr.heap.size (Nat.lt_of_lt_of_le (Nat.lt_of_lt_of_le hzt hs1) hs2)).trans hb2; have hm3 := hm2.keep (hQ3.block _ hm2.lt); have hky := kz _ hb3; have hkyA := kz (v3.alloc (.cells #[.int .i64 ea, .int .i64 eb, .int .i64 ec] 28)).drew ((Below.heap_alloc _ _ _ (Array.getElem?_eq_some_iff.1 hb3).1).trans hb3); have hY3 := hY2.trans (hQ3.mono hY2.size))
            | (go_at_call 39; refine (ho _ _ ?_ ?_ ?_).mono ?_; (go_simp); (go_simp); (go_simp); rintro e w5 ⟨rfl, rfl⟩))
        rename_i hHeld
        clear hHeld hkyA hky hcl hsl hb1 hm1 hb2 hb3 kz hb0 hMt hYt hQ1 hQ3 hY1 hY2 ho kA
        have hm4 : NMX (v3.alloc (.cells #[.int .i64 ea, .int .i64 eb, .int .i64 ec] 28)) W1.heap.size l2 := hm3.keep (Below.heap_alloc _ _ _ hm3.lt)
        have hY4 := hY3.alloc hY3.size (.cells #[.int .i64 ea, .int .i64 eb, .int .i64 ec] 28)
        have hz4 : W1.heap.size < (v3.alloc (.cells #[.int .i64 ea, .int .i64 eb, .int .i64 ec] 28)).heap.size := by have := hm3.lt; simp; omega
        generalize v3.alloc (.cells #[.int .i64 ea, .int .i64 eb, .int .i64 ec] 28) = v4 at hm4 hY4 hz4 ⊢
        have HL2 := Lib.hid hl2
        have HS := Lib.hid hsucc
        clear hm3 hY3 hm2 hg2 hl2 hsucc
        by_cases her : er = 0
        · subst her
          have hl3 := HL2.out (HR2.out rfl)
          subst hl3
          rw [← HS.out] at hm4
          go_wp2
          go_roundw
          case rel => exact ⟨k + 1, hkn, by simp, HP.out.step HC.out HT.out, hm4, hz4, hY4⟩
          case measure => simp [intOf]; omega
        · have hre : (er != 0) = true := by simpa using her
          have HR := Lib.hid (HGX.out er (by have := HP.out.bad HC.out (by rw [HT.out]; exact her); rwa [HT.out] at this))
          go_wp2
          go_ret
          exact ⟨er, rfl, HR.out, hY4⟩
      · have HR := Lib.hid (HGX.out 0 (hp.done (Nat.le_refl _)))
        clear hp
        go_wp2
        go_ret
        exact ⟨0, rfl, HR.out, hBw⟩
  · have hre : (gr != 0) = true := by simpa using hgr
    have HR := Lib.hid (HGI.out.1 hgr)
    clear HGI
    go_wp2
    go_ret
    exact ⟨gr, rfl, HR.out, hB1⟩
end Go.Proofs
