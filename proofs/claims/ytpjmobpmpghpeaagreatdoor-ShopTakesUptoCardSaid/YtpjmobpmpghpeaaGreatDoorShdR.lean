/- Shades: Mixed of the program. -/
import Derived.Test.YtpjmobpmpghpeaaGreatDoorShdQ
import Derived.Laws.ResultCell
namespace Go.Proofs
open Go.RowKit Go.MapKept
set_option maxHeartbeats 16000000
set_option maxRecDepth 1000000
theorem results_row_tmp {fn : Func} {p u : Tmp} {ty : TypeId} (h : fn.results = #[.cell p ty, .tmp u]) (tmps : Array Value) (P : Program) (w : World) (g : Nat) (cs : Array Value)
    (hp : tmps.getD p undef = .pointer (some ⟨g, 0, none⟩)) (hl : (loadVar ty ⟨g, 0, none⟩).run P w = .ok (.agg cs) w) :
    (results fn tmps).run P w = .ok (.tuple #[.agg cs, tmps.getD u undef]) w := by
  have hp' : tmps[p]?.getD undef = .pointer (some ⟨g, 0, none⟩) := by simpa using hp
  rw [results_cell_tmp h]
  simp [hp', asAddr, hl, Result.andThen]
theorem rowAt_below {w w' : World} {b o : Nat} {l : List Cel} (h : RowAt w b o l) (hb : b < w.heap.size) (hB : Below w.heap.size w w') : RowAt w' b o l := fun i c hi => by
  obtain ⟨r0, r1, r2⟩ := h i c hi
  exact ⟨(hB.cell (p := ⟨b, _, none⟩) hb).trans r0, (hB.cell (p := ⟨b, _, none⟩) hb).trans r1, (hB.cell (p := ⟨b, _, none⟩) hb).trans r2⟩
def BestM (ws : Cel) (l : List TabT) (c q : Cel) : Prop := ∃ j, (mixL l.length)[j]? = some q ∧ Least1 ((mixL l.length).map (colM l)) ws (mixC 8 c 0 c) j
theorem shBest_ok (ws c : Cel) (v : Value) (l : List TabT) (w : World) (hl : SlT w v l) (ok : GuideOk ws l) (hc : ColOk c 0 255) (h26 : 2 ≤ l.length ∧ l.length ≤ 6) (hML : (mixL l.length).length ≤ 1000 ∧ 0 < (mixL l.length).length) :
    Calls Tryz.prog 23 #[gdV ws v, colV c] w fun e w' => (∃ q : Cel, e = .returned (.tuple #[colV q, .int .i64 0]) ∧ BestM ws l c q) ∧ Below w.heap.size w w' := by
  have kG := fun W (h : SlT W v l) => shGuide_ok ws v l W h ok
  have kC := fun W => shColour_ok c W hc
  have kW := fun W => shWhen_ok false 7 W
  simp only [Bool.false_eq_true, if_false] at kW
  have kX := fun W => shMixes_ok l.length h26 W
  have kMd := fun W => shMixed_ok 8 0 c c W (by omega) (by omega) (by unfold ColOk at *; omega) (by unfold ColOk at *; omega)
  have hco : ∀ (i : Nat) (t : TabT), l[i]? = some t → ColOk t.2 0 255 := fun i t h => (ok.at_ i t h).2
  have kL := fun A cap gb b o mc x y z W (hv : v = .slice A l.length cap) hg (h : SlT W v l) hM hb => shListM_ok l A cap gb b o mc x y z (mixL l.length) W hg (hv ▸ h) hM hb (fun q hq => mixL_ok.1 hq) hco (by omega)
  have hml : ((mixL l.length).map (colM l)).length = (mixL l.length).length := List.length_map _
  have hmc : ∀ q ∈ (mixL l.length).map (colM l), ColOk q (-3000) 3000 := fun q hq => by
    obtain ⟨x, hx, rfl⟩ := List.mem_map.1 hq
    exact colM_ok hco (mixL_ok.1 hx)
  have htt : ColOk (mixC 8 c 0 c) (-3000) 3000 := by unfold mixC; unfold ColOk at *; simp only; omega
  have hwt : ColOk ws (-100) 100 := by have := ok.wt; unfold ColOk at *; omega
  have kN := fun b cap W (h : RowAt W b 0 ((mixL l.length).map (colM l))) (hb : b < W.heap.size) => shNear_ok ((mixL l.length).map (colM l)) ws (mixC 8 c 0 c) b 0 cap W h hb (by omega) (by omega) hwt htt hmc
  rw [hml] at kN
  have kB : ∀ (j : Nat) (q : Cel), (mixL l.length)[j]? = some q → Least1 ((mixL l.length).map (colM l)) ws (mixC 8 c 0 c) j → BestM ws l c q := fun j q h1 h2 => ⟨j, h1, h2⟩
  have kJ : ∀ j, Least1 ((mixL l.length).map (colM l)) ws (mixC 8 c 0 c) j → j < (mixL l.length).length := fun j ⟨c', h, _⟩ => by
    have := (List.getElem?_eq_some_iff.1 h).1
    omega
  generalize mixL l.length = M at kX kL kN kB kJ hML
  generalize M.map (colM l) = m at kL kN kB kJ
  generalize mixC 8 c 0 c = T at kMd kN kB kJ
  clear hmc htt hwt hml ok hc hco
  obtain ⟨A, cap, rfl⟩ := hl.form
  have kL := fun gb b o mc x y z W hg (h : SlT W (.slice A l.length cap) l) hM hb => kL A cap gb b o mc x y z W rfl hg h hM hb
  obtain ⟨x, y, z⟩ := ws
  obtain ⟨p, q, r⟩ := c
  obtain ⟨T0, T1, T2⟩ := T
  have ho := fun blk W => shFirst3 0 0 0 blk 3 W
  rw [show or3 0 0 0 = 0 from rfl] at ho
  have hlt2 : decide ((l.length : Int) < 2) = false := by simp; omega
  unfold gdV colV at *
  unfold tgtV at kN
  dsimp only at *
  obtain ⟨W0, hW⟩ : ∃ W0, W0 = ((w.alloc (.cells #[.int .i64 x, .int .i64 y, .int .i64 z, .slice A l.length cap] 50)).alloc (.cells #[.int .i64 p, .int .i64 q, .int .i64 r] 47)).alloc (.cells #[.int .i64 0, .int .i64 0, .int .i64 0] 60) := ⟨_, rfl⟩
  have hB0 : Below w.heap.size w W0 := by subst hW; exact (((Below.refl _ _).alloc (Nat.le_refl _) _).alloc (by simp) _).alloc (by simp; omega) _
  have hz0 : W0.heap.size = w.heap.size + 1 + 1 + 1 := by subst hW; simp
  have hrow : W0.heap[w.heap.size]? = some (.cells #[.int .i64 x, .int .i64 y, .int .i64 z, .slice A l.length cap] 50 (0, 0)) := by subst hW; exact (Below.heap_alloc _ _ _ (by simp; omega)).trans ((Below.heap_alloc _ _ _ (by simp)).trans (heap_alloc_new w _))
  have hcol : W0.heap[w.heap.size + 1]? = some (.cells #[.int .i64 p, .int .i64 q, .int .i64 r] 47 (0, 0)) := by
    have := heap_alloc_new (w.alloc (.cells #[.int .i64 x, .int .i64 y, .int .i64 z, .slice A l.length cap] 50)) (.cells #[.int .i64 p, .int .i64 q, .int .i64 r] 47)
    rw [hW, Below.heap_alloc _ _ _ (by simp)]
    simpa using this
  have hres : RowK W0 60 (w.heap.size + 1 + 1) [.int .i64 0, .int .i64 0, .int .i64 0] := by
    have := heap_alloc_new ((w.alloc (.cells #[.int .i64 x, .int .i64 y, .int .i64 z, .slice A l.length cap] 50)).alloc (.cells #[.int .i64 p, .int .i64 q, .int .i64 r] 47)) (.cells #[.int .i64 0, .int .i64 0, .int .i64 0] 60)
    rw [← hW] at this
    unfold RowK
    simpa using this
  have kk : ∀ V, Below W0.heap.size W0 V → (V.cell? ⟨w.heap.size, 0, none⟩ = some (.int .i64 x) ∧ V.cell? ⟨w.heap.size, 1, none⟩ = some (.int .i64 y) ∧ V.cell? ⟨w.heap.size, 2, none⟩ = some (.int .i64 z) ∧ V.cell? ⟨w.heap.size, 3, none⟩ = some (.slice A l.length cap)) ∧ V.cell? ⟨w.heap.size + 1, 0, none⟩ = some (.int .i64 p) ∧ V.cell? ⟨w.heap.size + 1, 1, none⟩ = some (.int .i64 q) ∧ V.cell? ⟨w.heap.size + 1, 2, none⟩ = some (.int .i64 r) := fun V h => ⟨four_cells ((h.block _ (by omega)).trans hrow), three_cellsS ((h.block _ (by omega)).trans hcol)⟩
  have hD := (Below.refl W0.heap.size W0).drew
  have hky := kk _ hD
  have ks : ∀ V, Below W0.heap.size W0 V → SlT V (.slice A l.length cap) l := fun V h => hl.below (hB0.trans (h.mono hB0.size))
  have kg : ∀ V, Below W0.heap.size W0 V → V.heap[w.heap.size]? = some (.cells #[.int .i64 x, .int .i64 y, .int .i64 z, .slice A l.length cap] 50 (0, 0)) := fun V h => (h.block _ (by omega)).trans hrow
  have kr : ∀ V, Below W0.heap.size W0 V → RowK V 60 (w.heap.size + 1 + 1) [.int .i64 0, .int .i64 0, .int .i64 0] := fun V h => (h.block _ (by omega)).trans hres
  have hmf := shMake
  clear hl hrow hcol hres
  go_enter Tryz.func23, Tryz.ntmps23
  go_wp2_with fail
  rw [← hW]
  clear hW
  go_region_held3 (fun w' => (w'.cell? ⟨w.heap.size, 0, none⟩ = some (.int .i64 x) ∧ w'.cell? ⟨w.heap.size, 1, none⟩ = some (.int .i64 y) ∧ w'.cell? ⟨w.heap.size, 2, none⟩ = some (.int .i64 z) ∧ w'.cell? ⟨w.heap.size, 3, none⟩ = some (.slice A l.length cap)) ∧ w'.cell? ⟨w.heap.size + 1, 0, none⟩ = some (.int .i64 p) ∧ w'.cell? ⟨w.heap.size + 1, 1, none⟩ = some (.int .i64 q) ∧ w'.cell? ⟨w.heap.size + 1, 2, none⟩ = some (.int .i64 r)) (first | exact hky | exact hkyA | go_keep)
    (first
      | (go_at_call 29; refine (kG _ (ks _ hD)).mono ?_; rintro e v1 ⟨rfl, hQ1⟩; have hX1 := hD.trans (hQ1.mono hD.size); have hky := kk _ hX1)
      | (go_at_call 55; refine (kC _).mono ?_; rintro e v2 ⟨rfl, hQ2⟩; have hX2 := hX1.trans (hQ2.mono hX1.size); have hky := kk _ hX2; have hX3 := hX2.alloc hX2.size (.cells #[.int .i64 0, .int .i64 0, .int .i64 0] 30); have hkyA := kk _ hX3)
      | (go_at_call 60; refine (kW _).mono ?_; rintro e v4 ⟨rfl, rfl⟩)
      | (go_at_call 49; refine (ho _ _ ?_ ?_ ?_).mono ?_; (go_simp); (go_simp); (go_simp); rintro e w5 ⟨rfl, rfl⟩))
  rename_i hHeld
  clear hHeld hkyA hky kG kC kW
  generalize World.alloc _ (.cells #[.int .i64 0, .int .i64 0, .int .i64 0] 30) = v3 at hX3 ⊢
  obtain ⟨⟨c0, c1, c2, c3⟩, d0, d1, d2⟩ := kk _ hX3
  clear hX1 hX2 hQ1 hQ2 hD ho hlt2
  go_wp2_with (go_at_call 61; refine (kX _).mono ?_; rintro e v4 ⟨B, o, mc, rfl, hBl, hRow, hQ4⟩; have hX4 := hX3.trans (hQ4.mono hX3.size); obtain ⟨⟨c0, c1, c2, c3⟩, d0, d1, d2⟩ := kk _ hX4)
  clear kX
  go_wp2_with (go_at_call 62; refine (kL _ _ _ _ _ _ _ _ (kg _ hX4) (ks _ hX4) hRow hBl).mono ?_; rintro e v5 ⟨B2, rfl, hB2l, hRow2, hQ5⟩; have hX5 := hX4.trans (hQ5.mono hX4.size); obtain ⟨⟨c0, c1, c2, c3⟩, d0, d1, d2⟩ := kk _ hX5)
  clear kL kg ks
  have hRow5 := rowAt_below hRow hBl hQ5
  have hBl5 := Nat.lt_of_lt_of_le hBl hQ5.size
  clear hRow hBl hQ4 hX3 hX4
  go_wp2_with (first
    | (go_at_call 64; refine (kMd _).mono ?_; rintro e v6 ⟨rfl, hQ6⟩; have hX6 := hX5.trans (hQ6.mono hX5.size); obtain ⟨⟨c0, c1, c2, c3⟩, d0, d1, d2⟩ := kk _ hX6; have hne1 : w.heap.size ≠ v6.heap.size := (by have := hX6.size; omega); have hlt1 : w.heap.size < v6.heap.size := (by have := hX6.size; omega); have hQ7 : Below v6.heap.size v6 (v6.alloc (.cells #[.int .i64 T0, .int .i64 T1, .int .i64 T2] 47)) := (Below.refl _ _).alloc (Nat.le_refl _) _; have hRow7 := rowAt_below (rowAt_below hRow5 hBl5 hQ6) (Nat.lt_of_lt_of_le hBl5 hQ6.size) hQ7; have hRow72 := rowAt_below (rowAt_below hRow2 hB2l hQ6) (Nat.lt_of_lt_of_le hB2l hQ6.size) hQ7; have hBl7 := Nat.lt_of_lt_of_le (Nat.lt_of_lt_of_le hBl5 hQ6.size) hQ7.size; have hBl72 := Nat.lt_of_lt_of_le (Nat.lt_of_lt_of_le hB2l hQ6.size) hQ7.size; have hX7 := hX6.trans (hQ7.mono hX6.size))
    | (go_at_call 59; refine (kN _ _ _ hRow72 hBl72).mono ?_; rintro e v8 ⟨⟨j, rfl, hj⟩, hQ8⟩; have hX8 := hX7.trans (hQ8.mono hX7.size); have hjl := kJ j hj; obtain ⟨⟨a0, a1, a2⟩, hMj⟩ : ∃ c, M[j]? = some c := ⟨_, List.getElem?_eq_getElem hjl⟩; obtain ⟨r0, r1, r2⟩ := rowAt_below hRow7 hBl7 hQ8 j _ hMj; dsimp only at r0 r1 r2; have hi0 : (0 : Int) ≤ j := (by omega); have hi1 : (j : Int) < M.length := (by omega); have hr8 := kr _ hX8; have z0 : v8.cell? ⟨w.heap.size + 1 + 1, 0, none⟩ = some (.int .i64 0) := hr8.cell (by rfl); have z1 : v8.cell? ⟨w.heap.size + 1 + 1, 1, none⟩ = some (.int .i64 0) := hr8.cell (by rfl); have z2 : v8.cell? ⟨w.heap.size + 1 + 1, 2, none⟩ = some (.int .i64 0) := hr8.cell (by rfl); have f0 := hr8.fz 0; have f1 := hr8.fz 1; have f2 := hr8.fz 2))
  have hF : (((v8.setCell ⟨w.heap.size + 1 + 1, 0, none⟩ (.int .i64 a0)).setCell ⟨w.heap.size + 1 + 1, 1, none⟩ (.int .i64 a1)).setCell ⟨w.heap.size + 1 + 1, 2, none⟩ (.int .i64 a2)).heap[w.heap.size + 1 + 1]? = some (.cells #[.int .i64 a0, .int .i64 a1, .int .i64 a2] 60 (0, 0)) := ((hr8.set 0 (.int .i64 a0)).set 1 (.int .i64 a1)).set 2 (.int .i64 a2)
  have hXw := hB0.trans (hX8.mono hB0.size)
  have hXf : Below w.heap.size w (((v8.setCell ⟨w.heap.size + 1 + 1, 0, none⟩ (.int .i64 a0)).setCell ⟨w.heap.size + 1 + 1, 1, none⟩ (.int .i64 a1)).setCell ⟨w.heap.size + 1 + 1, 2, none⟩ (.int .i64 a2)) := ((hXw.setCell (p := ⟨w.heap.size + 1 + 1, 0, none⟩) (by show w.heap.size ≤ w.heap.size + 1 + 1; omega) _).setCell (p := ⟨w.heap.size + 1 + 1, 1, none⟩) (by show w.heap.size ≤ w.heap.size + 1 + 1; omega) _).setCell (p := ⟨w.heap.size + 1 + 1, 2, none⟩) (by show w.heap.size ≤ w.heap.size + 1 + 1; omega) _
  refine bodyPost_ret (results_row_tmp rfl _ _ _ (w.heap.size + 1 + 1) #[.int .i64 a0, .int .i64 a1, .int .i64 a2] rfl (run_loadVar_row _ _ _ _ _ _ _ hF Tryz.underlying60 rfl (by kernel_rfl))) rfl ?_
  exact ⟨⟨(a0, a1, a2), rfl, kB j _ hMj hj⟩, hXf⟩
theorem shBestErr_ok (ws c : Cel) (v : Value) (l : List TabT) (w : World) (hl : SlT w v l) (ok : GuideOk ws l) (hc : ColOk c 0 255) (h1 : l.length < 2) :
    Calls Tryz.prog 23 #[gdV ws v, colV c] w fun e w' => e = .returned (.tuple #[.agg #[.int .i64 0, .int .i64 0, .int .i64 0], .int .i64 7]) ∧ Below w.heap.size w w' := by
  have kG := fun W (h : SlT W v l) => shGuide_ok ws v l W h ok
  have kC := fun W => shColour_ok c W hc
  have kW := fun W => shWhen_ok true 7 W
  simp only [if_true] at kW
  clear ok hc
  obtain ⟨A, cap, rfl⟩ := hl.form
  obtain ⟨x, y, z⟩ := ws
  obtain ⟨p, q, r⟩ := c
  have ho := fun blk W => shFirst3 0 0 7 blk 3 W
  rw [show or3 0 0 7 = 7 from rfl] at ho
  have hlt2 : decide ((l.length : Int) < 2) = true := by simp; omega
  unfold gdV colV at *
  dsimp only at *
  obtain ⟨W0, hW⟩ : ∃ W0, W0 = ((w.alloc (.cells #[.int .i64 x, .int .i64 y, .int .i64 z, .slice A l.length cap] 50)).alloc (.cells #[.int .i64 p, .int .i64 q, .int .i64 r] 47)).alloc (.cells #[.int .i64 0, .int .i64 0, .int .i64 0] 60) := ⟨_, rfl⟩
  have hB0 : Below w.heap.size w W0 := by subst hW; exact (((Below.refl _ _).alloc (Nat.le_refl _) _).alloc (by simp) _).alloc (by simp; omega) _
  have hz0 : W0.heap.size = w.heap.size + 1 + 1 + 1 := by subst hW; simp
  have hrow : W0.heap[w.heap.size]? = some (.cells #[.int .i64 x, .int .i64 y, .int .i64 z, .slice A l.length cap] 50 (0, 0)) := by subst hW; exact (Below.heap_alloc _ _ _ (by simp; omega)).trans ((Below.heap_alloc _ _ _ (by simp)).trans (heap_alloc_new w _))
  have hcol : W0.heap[w.heap.size + 1]? = some (.cells #[.int .i64 p, .int .i64 q, .int .i64 r] 47 (0, 0)) := by
    have := heap_alloc_new (w.alloc (.cells #[.int .i64 x, .int .i64 y, .int .i64 z, .slice A l.length cap] 50)) (.cells #[.int .i64 p, .int .i64 q, .int .i64 r] 47)
    rw [hW, Below.heap_alloc _ _ _ (by simp)]
    simpa using this
  have hres : RowK W0 60 (w.heap.size + 1 + 1) [.int .i64 0, .int .i64 0, .int .i64 0] := by
    have := heap_alloc_new ((w.alloc (.cells #[.int .i64 x, .int .i64 y, .int .i64 z, .slice A l.length cap] 50)).alloc (.cells #[.int .i64 p, .int .i64 q, .int .i64 r] 47)) (.cells #[.int .i64 0, .int .i64 0, .int .i64 0] 60)
    rw [← hW] at this
    unfold RowK
    simpa using this
  have kk : ∀ V, Below W0.heap.size W0 V → (V.cell? ⟨w.heap.size, 0, none⟩ = some (.int .i64 x) ∧ V.cell? ⟨w.heap.size, 1, none⟩ = some (.int .i64 y) ∧ V.cell? ⟨w.heap.size, 2, none⟩ = some (.int .i64 z) ∧ V.cell? ⟨w.heap.size, 3, none⟩ = some (.slice A l.length cap)) ∧ V.cell? ⟨w.heap.size + 1, 0, none⟩ = some (.int .i64 p) ∧ V.cell? ⟨w.heap.size + 1, 1, none⟩ = some (.int .i64 q) ∧ V.cell? ⟨w.heap.size + 1, 2, none⟩ = some (.int .i64 r) := fun V h => ⟨four_cells ((h.block _ (by omega)).trans hrow), three_cellsS ((h.block _ (by omega)).trans hcol)⟩
  have hD := (Below.refl W0.heap.size W0).drew
  have hky := kk _ hD
  have ks : ∀ V, Below W0.heap.size W0 V → SlT V (.slice A l.length cap) l := fun V h => hl.below (hB0.trans (h.mono hB0.size))
  have kr : ∀ V, Below W0.heap.size W0 V → RowK V 60 (w.heap.size + 1 + 1) [.int .i64 0, .int .i64 0, .int .i64 0] := fun V h => (h.block _ (by omega)).trans hres
  clear hl hrow hcol hres
  go_enter Tryz.func23, Tryz.ntmps23
  go_wp2_with fail
  rw [← hW]
  clear hW
  go_region_held3 (fun w' => (w'.cell? ⟨w.heap.size, 0, none⟩ = some (.int .i64 x) ∧ w'.cell? ⟨w.heap.size, 1, none⟩ = some (.int .i64 y) ∧ w'.cell? ⟨w.heap.size, 2, none⟩ = some (.int .i64 z) ∧ w'.cell? ⟨w.heap.size, 3, none⟩ = some (.slice A l.length cap)) ∧ w'.cell? ⟨w.heap.size + 1, 0, none⟩ = some (.int .i64 p) ∧ w'.cell? ⟨w.heap.size + 1, 1, none⟩ = some (.int .i64 q) ∧ w'.cell? ⟨w.heap.size + 1, 2, none⟩ = some (.int .i64 r)) (first | exact hky | exact hkyA | go_keep)
    (first
      | (go_at_call 29; refine (kG _ (ks _ hD)).mono ?_; rintro e v1 ⟨rfl, hQ1⟩; have hX1 := hD.trans (hQ1.mono hD.size); have hky := kk _ hX1)
      | (go_at_call 55; refine (kC _).mono ?_; rintro e v2 ⟨rfl, hQ2⟩; have hX2 := hX1.trans (hQ2.mono hX1.size); have hky := kk _ hX2; have hX3 := hX2.alloc hX2.size (.cells #[.int .i64 0, .int .i64 0, .int .i64 7] 30); have hkyA := kk _ hX3)
      | (go_at_call 60; refine (kW _).mono ?_; rintro e v4 ⟨rfl, rfl⟩)
      | (go_at_call 49; refine (ho _ _ ?_ ?_ ?_).mono ?_; (go_simp); (go_simp); (go_simp); rintro e w5 ⟨rfl, rfl⟩))
  rename_i hHeld
  clear hHeld hkyA hky kG kC kW
  generalize World.alloc _ (.cells #[.int .i64 0, .int .i64 0, .int .i64 7] 30) = v3 at hX3 ⊢
  have hr8 := kr _ hX3
  have z0 : v3.cell? ⟨w.heap.size + 1 + 1, 0, none⟩ = some (.int .i64 0) := hr8.cell (by rfl)
  have z1 : v3.cell? ⟨w.heap.size + 1 + 1, 1, none⟩ = some (.int .i64 0) := hr8.cell (by rfl)
  have z2 : v3.cell? ⟨w.heap.size + 1 + 1, 2, none⟩ = some (.int .i64 0) := hr8.cell (by rfl)
  have f0 := hr8.fz 0
  have f1 := hr8.fz 1
  have f2 := hr8.fz 2
  have hF : (((v3.setCell ⟨w.heap.size + 1 + 1, 0, none⟩ (.int .i64 0)).setCell ⟨w.heap.size + 1 + 1, 1, none⟩ (.int .i64 0)).setCell ⟨w.heap.size + 1 + 1, 2, none⟩ (.int .i64 0)).heap[w.heap.size + 1 + 1]? = some (.cells #[.int .i64 0, .int .i64 0, .int .i64 0] 60 (0, 0)) := ((hr8.set 0 (.int .i64 0)).set 1 (.int .i64 0)).set 2 (.int .i64 0)
  have hXw := hB0.trans (hX3.mono hB0.size)
  have hXf : Below w.heap.size w (((v3.setCell ⟨w.heap.size + 1 + 1, 0, none⟩ (.int .i64 0)).setCell ⟨w.heap.size + 1 + 1, 1, none⟩ (.int .i64 0)).setCell ⟨w.heap.size + 1 + 1, 2, none⟩ (.int .i64 0)) := ((hXw.setCell (p := ⟨w.heap.size + 1 + 1, 0, none⟩) (by show w.heap.size ≤ w.heap.size + 1 + 1; omega) _).setCell (p := ⟨w.heap.size + 1 + 1, 1, none⟩) (by show w.heap.size ≤ w.heap.size + 1 + 1; omega) _).setCell (p := ⟨w.heap.size + 1 + 1, 2, none⟩) (by show w.heap.size ≤ w.heap.size + 1 + 1; omega) _
  have HF := Lib.hid hF
  have HX := Lib.hid hXf
  clear hF hXf hXw hr8 hX3
  go_wp2
  refine bodyPost_ret (results_row_tmp rfl _ _ _ (w.heap.size + 1 + 1) #[.int .i64 0, .int .i64 0, .int .i64 0] rfl (run_loadVar_row _ _ _ _ _ _ _ HF.out Tryz.underlying60 rfl (by kernel_rfl))) rfl ?_
  exact ⟨rfl, HX.out⟩
end Go.Proofs
