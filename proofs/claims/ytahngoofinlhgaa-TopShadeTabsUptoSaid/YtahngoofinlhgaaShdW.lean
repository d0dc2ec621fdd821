/- TopShadeTabs: the walk. -/
import Derived.Test.YtahngoofinlhgaaShdU
import Derived.Test.YtahngoofinlhgaaHeldF
import Derived.Test.YtahngoofinlhgaaShdAD
import Derived.Deep.Cut
import Derived.Deep.CutRange
import Derived.Lib.AppendZeros
namespace Go.Proofs
open Go.RowKit Go.MapKept
set_option maxHeartbeats 16000000
set_option maxRecDepth 1000000
theorem colE_cases (c : Cel) : (colE c = 0 ∧ ColOk c 0 255) ∨ (colE c = 3 ∧ ¬ ColOk c 0 255) := by
  unfold colE
  have h := sumE_ok c 0 255
  by_cases h0 : sumE c 0 255 = 0
  · exact .inl ⟨by rw [if_neg (by omega)], h.1 h0⟩
  · exact .inr ⟨by rw [if_pos h0], fun h2 => h0 (h.2 h2)⟩
theorem wraps_k {n k j : Nat} (hn : n ≤ 5) (hk : k < n) (hj : (n : Int) - 1 - k = j) : wrap64 ((k : Int) + 1) = (k : Int) + 1 ∧ wrap64 ((n : Int) - 1) = (n : Int) - 1 ∧ IntKind.i64.wrap ((n : Int) - 1) = (n : Int) - 1 ∧ wrap64 ((n : Int) - 1 - k) = j ∧ IntKind.i64.wrap ((n : Int) - 1 - k) = j :=
  ⟨wrap64_small (by omega), wrap64_small (by omega), wrap_small (by omega), (wrap64_small (by omega)).trans hj, (wrap_small (by omega)).trans hj⟩
theorem step_app {w w' : World} {ops : Array Oper} {o : Oper} {a : Act} {K : Act → World → Prop} {Q : Exit → Act → World → Prop} {E : Prop} (hgd : o.guard = none) (s x : Operand) (T : TypeId)
    (ho : o.op = .call { callee := .builtin .append, args := #[s, x], argTypes := #[T, T] }) (vs vx r : Value) (hs : a.eval s = vs) (hx : a.eval x = vx) (hr : (Builtin.append_ #[T, T] o.type #[vs, vx]).run Try.prog w = .ok r w')
    (h : K (a.put o.dst r) w') : if Region.wanted o (yielded ops a.tmps) = true then Oper.wp Try.prog o a w K Q else E := by
  have hw : Region.wanted o (yielded ops a.tmps) = true := by simp [Region.wanted, hgd]
  rw [if_pos hw]
  unfold Oper.wp execOp
  simp only [ho, resolve, invoke, builtin, Sem.run_bind, Sem.run_pure, Result.andThen_ok, List.map_toArray, List.map_cons, List.map_nil, hs, hx, hr]
  exact h
theorem eval_tmp (a : Act) (t : Nat) : a.eval (.tmp t) = a.tmps.getD t undef := by
  first | rfl | simp [Act.eval]
theorem wrap_k1 {k : Nat} (h : k ≤ 32) : IntKind.i64.wrap ((k : Int) + 1) = (k : Int) + 1 := wrap_small (by omega)
theorem rev_take {l : List TabT} {k j : Nat} {t : TabT} (hk : k < l.length) (hj : (l.length : Int) - 1 - k = j) (ht : l[j]? = some t) : l.reverse.take k ++ [t] = l.reverse.take (k + 1) := by
  obtain rfl : j = l.length - 1 - k := by omega
  rw [List.take_add_one, List.getElem?_reverse (by simpa using hk), ht]
  rfl
theorem dark_take {l : List TabT} {k : Nat} {t : TabT} (ht : l[k]? = some t) : (l.map darkT).take k ++ [darkT t] = (l.map darkT).take (k + 1) := by
  rw [List.take_add_one, List.getElem?_map, ht]
  rfl
theorem tabs_in (ws c : Cel) (v : Value) (l : List TabT) (mt : TabT) (w : World) (hl : SlT w v l) (hn : l.length ≤ 1048576) :
    Calls Try.prog 4 #[gdV ws v, colV c, tabV mt] w fun e w' => e = .returned (.bool true) ∧ Below w.heap.size w w' := by
  obtain ⟨x, y, z⟩ := ws
  obtain ⟨p, q, r⟩ := c
  obtain ⟨ms, m0, m1, m2⟩ := mt
  obtain ⟨A, cap, rfl⟩ := hl.form
  have hc := colE_cases (p, q, r)
  have hm := colE_cases (m0, m1, m2)
  have kCc := fun W => refColour_ok (p, q, r) W
  have kCm := fun W => refColour_ok (m0, m1, m2) W
  have kSG := fun W (h : SlT W (.slice A l.length cap) l) => shadeGuide_ok (x, y, z) _ l W h hn
  generalize colE (p, q, r) = ec at hc kCc
  generalize colE (m0, m1, m2) = em at hm kCm
  unfold gdV at kSG
  unfold colV at kCc kCm
  unfold gdV colV tabV
  dsimp only at kSG kCc kCm ⊢
  obtain ⟨W0, hW⟩ : ∃ W0, W0 = ((w.alloc (.cells #[.int .i64 x, .int .i64 y, .int .i64 z, .slice A l.length cap] 47)).alloc (.cells #[.int .i64 p, .int .i64 q, .int .i64 r] 44)).alloc (.cells #[.string ms, .int .i64 m0, .int .i64 m1, .int .i64 m2] 49) := ⟨_, rfl⟩
  have hB0 : Below w.heap.size w W0 := by subst hW; exact (((Below.refl _ _).alloc (Nat.le_refl _) _).alloc (by simp) _).alloc (by simp; omega) _
  have hz0 : W0.heap.size = w.heap.size + 1 + 1 + 1 := by subst hW; simp
  have rg : W0.heap[w.heap.size]? = some (.cells #[.int .i64 x, .int .i64 y, .int .i64 z, .slice A l.length cap] 47 (0, 0)) := by subst hW; exact (Below.heap_alloc _ _ _ (by simp; omega)).trans ((Below.heap_alloc _ _ _ (by simp)).trans (heap_alloc_new w _))
  have rc : W0.heap[w.heap.size + 1]? = some (.cells #[.int .i64 p, .int .i64 q, .int .i64 r] 44 (0, 0)) := by
    have := heap_alloc_new (w.alloc (.cells #[.int .i64 x, .int .i64 y, .int .i64 z, .slice A l.length cap] 47)) (.cells #[.int .i64 p, .int .i64 q, .int .i64 r] 44)
    rw [hW, Below.heap_alloc _ _ _ (by simp)]
    simpa using this
  have rm : W0.heap[w.heap.size + 1 + 1]? = some (.cells #[.string ms, .int .i64 m0, .int .i64 m1, .int .i64 m2] 49 (0, 0)) := by
    have := heap_alloc_new ((w.alloc (.cells #[.int .i64 x, .int .i64 y, .int .i64 z, .slice A l.length cap] 47)).alloc (.cells #[.int .i64 p, .int .i64 q, .int .i64 r] 44)) (.cells #[.string ms, .int .i64 m0, .int .i64 m1, .int .i64 m2] 49)
    rw [← hW] at this
    simpa using this
  obtain ⟨g0, g1, g2, g3⟩ := four_cells rg
  have hl0 := hl.below hB0
  go_enter Try.func4, Try.ntmps4
  go_wp2_with fail
  rw [← hW]
  clear hW
  refine (kSG _ hl0).mono ?_
  rintro e w1 ⟨⟨u, rfl, hu⟩, hQ1⟩
  obtain ⟨Au, cu, rfl⟩ := hu.sl.form
  clear kSG g0 g1 g2 g3 hl0
  obtain ⟨Wx, hWx⟩ : ∃ Wx, Wx = w1.alloc (.cells #[.int .i64 x, .int .i64 y, .int .i64 z, .slice Au l.length cu] 52) := ⟨_, rfl⟩
  have rx : Wx.heap[w1.heap.size]? = some (.cells #[.int .i64 x, .int .i64 y, .int .i64 z, .slice Au l.length cu] 52 (0, 0)) := by subst hWx; exact heap_alloc_new w1 _
  have hxl : w1.heap.size < Wx.heap.size := (Array.getElem?_eq_some_iff.1 rx).1
  have hQx : Below w1.heap.size w1 Wx := by subst hWx; exact (Below.refl _ _).alloc (Nat.le_refl _) _
  have hQ0 : Below W0.heap.size W0 Wx := hQ1.trans (hQx.mono hQ1.size)
  have hux : SlT Wx (.slice Au l.length cu) l := (hu.keep hQx).sl
  have hz1 : W0.heap.size ≤ Wx.heap.size := hQ0.size
  have hBx := hB0.trans (hQ0.mono hB0.size)
  have hBw : ∀ V, Below Wx.heap.size Wx V → Below w.heap.size w V := fun V h => hBx.trans (h.mono hBx.size)
  have ksl : ∀ V, Below Wx.heap.size Wx V → SlT V (.slice A l.length cap) l := fun V h => hl.below (hBw V h)
  have ksu : ∀ V, Below Wx.heap.size Wx V → SlT V (.slice Au l.length cu) l := fun V h => hux.below h
  have kk : ∀ V, Below Wx.heap.size Wx V → (V.cell? ⟨w1.heap.size, 0, none⟩ = some (.int .i64 x) ∧ V.cell? ⟨w1.heap.size, 1, none⟩ = some (.int .i64 y) ∧ V.cell? ⟨w1.heap.size, 2, none⟩ = some (.int .i64 z) ∧ V.cell? ⟨w1.heap.size, 3, none⟩ = some (.slice Au l.length cu)) ∧ (V.cell? ⟨w.heap.size, 0, none⟩ = some (.int .i64 x) ∧ V.cell? ⟨w.heap.size, 1, none⟩ = some (.int .i64 y) ∧ V.cell? ⟨w.heap.size, 2, none⟩ = some (.int .i64 z) ∧ V.cell? ⟨w.heap.size, 3, none⟩ = some (.slice A l.length cap)) ∧ (V.cell? ⟨w.heap.size + 1, 0, none⟩ = some (.int .i64 p) ∧ V.cell? ⟨w.heap.size + 1, 1, none⟩ = some (.int .i64 q) ∧ V.cell? ⟨w.heap.size + 1, 2, none⟩ = some (.int .i64 r)) ∧ V.cell? ⟨w.heap.size + 1 + 1, 0, none⟩ = some (.string ms) ∧ V.cell? ⟨w.heap.size + 1 + 1, 1, none⟩ = some (.int .i64 m0) ∧ V.cell? ⟨w.heap.size + 1 + 1, 2, none⟩ = some (.int .i64 m1) ∧ V.cell? ⟨w.heap.size + 1 + 1, 3, none⟩ = some (.int .i64 m2) := fun V h => by
    have h0 := hQ0.trans (h.mono hQ0.size)
    exact ⟨four_cells ((h.block _ hxl).trans rx), four_cells ((h0.block _ (by omega)).trans rg), three_cellsS ((h0.block _ (by omega)).trans rc), four_cells ((h0.block _ (by omega)).trans rm)⟩
  have kShort := fun n W (h : SlT W (.slice Au l.length cu) l) => refShortG_ok (x, y, z) _ l n W h
  have kGd := fun W (h : SlT W (.slice Au l.length cu) l) => refGuide_ok (x, y, z) _ l W h
  unfold gdV at kShort kGd
  dsimp only at kShort kGd
  go_wp2_with fail
  rw [← hWx]
  clear hWx hux hu hQ1 hQx
  have hX := (Below.refl Wx.heap.size Wx).drew
  obtain ⟨b5, hb5⟩ : ∃ b5, decide ((5 : Int) < (l.length : Int)) = b5 := ⟨_, rfl⟩
  refine wp_region_held_drew (S := fun V => (V.cell? ⟨w1.heap.size, 0, none⟩ = some (.int .i64 x) ∧ V.cell? ⟨w1.heap.size, 1, none⟩ = some (.int .i64 y) ∧ V.cell? ⟨w1.heap.size, 2, none⟩ = some (.int .i64 z) ∧ V.cell? ⟨w1.heap.size, 3, none⟩ = some (.slice Au l.length cu)) ∧ (V.cell? ⟨w.heap.size, 0, none⟩ = some (.int .i64 x) ∧ V.cell? ⟨w.heap.size, 1, none⟩ = some (.int .i64 y) ∧ V.cell? ⟨w.heap.size, 2, none⟩ = some (.int .i64 z) ∧ V.cell? ⟨w.heap.size, 3, none⟩ = some (.slice A l.length cap)) ∧ (V.cell? ⟨w.heap.size + 1, 0, none⟩ = some (.int .i64 p) ∧ V.cell? ⟨w.heap.size + 1, 1, none⟩ = some (.int .i64 q) ∧ V.cell? ⟨w.heap.size + 1, 2, none⟩ = some (.int .i64 r)) ∧ V.cell? ⟨w.heap.size + 1 + 1, 0, none⟩ = some (.string ms) ∧ V.cell? ⟨w.heap.size + 1 + 1, 1, none⟩ = some (.int .i64 m0) ∧ V.cell? ⟨w.heap.size + 1 + 1, 2, none⟩ = some (.int .i64 m1) ∧ V.cell? ⟨w.heap.size + 1 + 1, 3, none⟩ = some (.int .i64 m2)) (by kernel_rfl) (kk _ hX) (fun hHeld => ?_)
  refine held_yes 0 (some 26) (.agg #[.int .i64 x, .int .i64 y, .int .i64 z, .slice Au l.length cu]) rfl rfl (by kernel_rfl) (by kernel_rfl) (by kernel_rfl) (fun _ _ _ h => h) rfl (fun w' hS => by obtain ⟨⟨s0, s1, s2, s3⟩, ⟨s4, s5, s6, s7⟩, ⟨s8, s9, s10⟩, s11, s12, s13, s14⟩ := hS; go_simp) hHeld ?_
  try simp only [Act.put, List.setIfInBounds_toArray, List.set_cons_zero, List.set_cons_succ]
  refine wpAnyH_ready (rs := [1]) (by kernel_rfl) (by simp) ?_
  refine AllReadyH.cons rfl (fun K hK => ?_) AllReadyH.nil
  go_simp
  refine (kShort 5 _ (ksu _ hX)).mono ?_
  rintro e v1 ⟨⟨rs, rfl⟩, hB⟩
  replace hX := hX.trans (hB.mono hX.size)
  go_wp2_with fail
  refine hK.out _ _ (kk _ hX) (fun hHeld => ?_)
  clear hK K hB
  try simp only [Act.put, List.setIfInBounds_toArray, List.set_cons_zero, List.set_cons_succ]
  cases rs with
  | false =>
    refine held_yes 2 (some 28) (.bool true) rfl rfl (by kernel_rfl) (by kernel_rfl) (by kernel_rfl) (fun _ _ _ h => h) rfl (fun w' hS => by obtain ⟨⟨s0, s1, s2, s3⟩, ⟨s4, s5, s6, s7⟩, ⟨s8, s9, s10⟩, s11, s12, s13, s14⟩ := hS; go_simp) hHeld ?_
    try simp only [Act.put, List.setIfInBounds_toArray, List.set_cons_zero, List.set_cons_succ]
    refine held_yes 3 (some 29) (.bool true) rfl rfl (by kernel_rfl) (by kernel_rfl) (by kernel_rfl) (fun _ _ _ h => h) rfl (fun w' hS => by obtain ⟨⟨s0, s1, s2, s3⟩, ⟨s4, s5, s6, s7⟩, ⟨s8, s9, s10⟩, s11, s12, s13, s14⟩ := hS; go_simp) hHeld ?_
    try simp only [Act.put, List.setIfInBounds_toArray, List.set_cons_zero, List.set_cons_succ]
    refine held_no 4 (some 30) rfl rfl (by kernel_rfl) (by kernel_rfl) (by kernel_rfl) (fun _ _ _ h => h) rfl hHeld ?_
    try simp only [Act.put, List.setIfInBounds_toArray, List.set_cons_zero, List.set_cons_succ]
    refine held_no 5 (some 31) rfl rfl (by kernel_rfl) (by kernel_rfl) (by kernel_rfl) (fun _ _ _ h => h) rfl hHeld ?_
    try simp only [Act.put, List.setIfInBounds_toArray, List.set_cons_zero, List.set_cons_succ]
    refine held_no 6 (some 32) rfl rfl (by kernel_rfl) (by kernel_rfl) (by kernel_rfl) (fun _ _ _ h => h) rfl hHeld ?_
    try simp only [Act.put, List.setIfInBounds_toArray, List.set_cons_zero, List.set_cons_succ]
    refine held_no 7 (some 33) rfl rfl (by kernel_rfl) (by kernel_rfl) (by kernel_rfl) (fun _ _ _ h => h) rfl hHeld ?_
    try simp only [Act.put, List.setIfInBounds_toArray, List.set_cons_zero, List.set_cons_succ]
    refine held_yes 8 (some 34) (.bool true) rfl rfl (by kernel_rfl) (by kernel_rfl) (by kernel_rfl) (fun _ _ _ h => h) rfl (fun w' hS => by obtain ⟨⟨s0, s1, s2, s3⟩, ⟨s4, s5, s6, s7⟩, ⟨s8, s9, s10⟩, s11, s12, s13, s14⟩ := hS; go_simp) hHeld ?_
    try simp only [Act.put, List.setIfInBounds_toArray, List.set_cons_zero, List.set_cons_succ]
    refine held_yes 9 (some 35) (.bool true) rfl rfl (by kernel_rfl) (by kernel_rfl) (by kernel_rfl) (fun _ _ _ h => h) rfl (fun w' hS => by obtain ⟨⟨s0, s1, s2, s3⟩, ⟨s4, s5, s6, s7⟩, ⟨s8, s9, s10⟩, s11, s12, s13, s14⟩ := hS; go_simp) hHeld ?_
    try simp only [Act.put, List.setIfInBounds_toArray, List.set_cons_zero, List.set_cons_succ]
    refine held_no 10 (some 36) rfl rfl (by kernel_rfl) (by kernel_rfl) (by kernel_rfl) (fun _ _ _ h => h) rfl hHeld ?_
    try simp only [Act.put, List.setIfInBounds_toArray, List.set_cons_zero, List.set_cons_succ]
    refine held_no 11 (some 37) rfl rfl (by kernel_rfl) (by kernel_rfl) (by kernel_rfl) (fun _ _ _ h => h) rfl hHeld ?_
    try simp only [Act.put, List.setIfInBounds_toArray, List.set_cons_zero, List.set_cons_succ]
    refine held_no 12 (some 38) rfl rfl (by kernel_rfl) (by kernel_rfl) (by kernel_rfl) (fun _ _ _ h => h) rfl hHeld ?_
    try simp only [Act.put, List.setIfInBounds_toArray, List.set_cons_zero, List.set_cons_succ]
    refine held_no 13 (some 39) rfl rfl (by kernel_rfl) (by kernel_rfl) (by kernel_rfl) (fun _ _ _ h => h) rfl hHeld ?_
    try simp only [Act.put, List.setIfInBounds_toArray, List.set_cons_zero, List.set_cons_succ]
    refine held_no 14 (some 40) rfl rfl (by kernel_rfl) (by kernel_rfl) (by kernel_rfl) (fun _ _ _ h => h) rfl hHeld ?_
    try simp only [Act.put, List.setIfInBounds_toArray, List.set_cons_zero, List.set_cons_succ]
    refine held_no 15 (some 41) rfl rfl (by kernel_rfl) (by kernel_rfl) (by kernel_rfl) (fun _ _ _ h => h) rfl hHeld ?_
    try simp only [Act.put, List.setIfInBounds_toArray, List.set_cons_zero, List.set_cons_succ]
    refine held_no 16 (some 42) rfl rfl (by kernel_rfl) (by kernel_rfl) (by kernel_rfl) (fun _ _ _ h => h) rfl hHeld ?_
    try simp only [Act.put, List.setIfInBounds_toArray, List.set_cons_zero, List.set_cons_succ]
    refine held_no 17 (some 43) rfl rfl (by kernel_rfl) (by kernel_rfl) (by kernel_rfl) (fun _ _ _ h => h) rfl hHeld ?_
    try simp only [Act.put, List.setIfInBounds_toArray, List.set_cons_zero, List.set_cons_succ]
    refine held_no 18 (some 44) rfl rfl (by kernel_rfl) (by kernel_rfl) (by kernel_rfl) (fun _ _ _ h => h) rfl hHeld ?_
    try simp only [Act.put, List.setIfInBounds_toArray, List.set_cons_zero, List.set_cons_succ]
    refine held_no 19 (some 45) rfl rfl (by kernel_rfl) (by kernel_rfl) (by kernel_rfl) (fun _ _ _ h => h) rfl hHeld ?_
    try simp only [Act.put, List.setIfInBounds_toArray, List.set_cons_zero, List.set_cons_succ]
    refine held_yes 20 (some 46) (.bool true) rfl rfl (by kernel_rfl) (by kernel_rfl) (by kernel_rfl) (fun _ _ _ h => h) rfl (fun w' hS => by obtain ⟨⟨s0, s1, s2, s3⟩, ⟨s4, s5, s6, s7⟩, ⟨s8, s9, s10⟩, s11, s12, s13, s14⟩ := hS; go_simp) hHeld ?_
    try simp only [Act.put, List.setIfInBounds_toArray, List.set_cons_zero, List.set_cons_succ]
    refine wpAnyH_done (by kernel_rfl) ?_ _
    have hBo := hBw _ hX
    go_wp2_with (go_at_call 9; refine (shadeShop_ok _).mono ?_; rintro e w9 ⟨rfl, hQ9⟩)
    go_ret
    exact ⟨rfl, hBo.trans (hQ9.mono hBo.size)⟩
  | true =>
    refine held_yes 2 (some 28) (.bool false) rfl rfl (by kernel_rfl) (by kernel_rfl) (by kernel_rfl) (fun _ _ _ h => h) rfl (fun w' hS => by obtain ⟨⟨s0, s1, s2, s3⟩, ⟨s4, s5, s6, s7⟩, ⟨s8, s9, s10⟩, s11, s12, s13, s14⟩ := hS; go_simp) hHeld ?_
    try simp only [Act.put, List.setIfInBounds_toArray, List.set_cons_zero, List.set_cons_succ]
    refine held_yes 3 (some 29) (.bool false) rfl rfl (by kernel_rfl) (by kernel_rfl) (by kernel_rfl) (fun _ _ _ h => h) rfl (fun w' hS => by obtain ⟨⟨s0, s1, s2, s3⟩, ⟨s4, s5, s6, s7⟩, ⟨s8, s9, s10⟩, s11, s12, s13, s14⟩ := hS; go_simp) hHeld ?_
    try simp only [Act.put, List.setIfInBounds_toArray, List.set_cons_zero, List.set_cons_succ]
    refine held_yes 4 (some 30) (.pointer (some ⟨w.heap.size, 3, none⟩)) rfl rfl (by kernel_rfl) (by kernel_rfl) (by kernel_rfl) (fun _ _ _ h => h) rfl (fun w' hS => by obtain ⟨⟨s0, s1, s2, s3⟩, ⟨s4, s5, s6, s7⟩, ⟨s8, s9, s10⟩, s11, s12, s13, s14⟩ := hS; go_simp) hHeld ?_
    try simp only [Act.put, List.setIfInBounds_toArray, List.set_cons_zero, List.set_cons_succ]
    refine held_yes 5 (some 31) (.slice A l.length cap) rfl rfl (by kernel_rfl) (by kernel_rfl) (by kernel_rfl) (fun _ _ _ h => h) rfl (fun w' hS => by obtain ⟨⟨s0, s1, s2, s3⟩, ⟨s4, s5, s6, s7⟩, ⟨s8, s9, s10⟩, s11, s12, s13, s14⟩ := hS; go_simp) hHeld ?_
    try simp only [Act.put, List.setIfInBounds_toArray, List.set_cons_zero, List.set_cons_succ]
    refine held_yes 6 (some 32) (.int .i64 l.length) rfl rfl (by kernel_rfl) (by kernel_rfl) (by kernel_rfl) (fun _ _ _ h => h) rfl (fun w' hS => by obtain ⟨⟨s0, s1, s2, s3⟩, ⟨s4, s5, s6, s7⟩, ⟨s8, s9, s10⟩, s11, s12, s13, s14⟩ := hS; go_simp) hHeld ?_
    try simp only [Act.put, List.setIfInBounds_toArray, List.set_cons_zero, List.set_cons_succ]
    refine held_yes 7 (some 33) (.bool b5) rfl rfl (by kernel_rfl) (by kernel_rfl) (by kernel_rfl) (fun _ _ _ h => h) rfl (fun w' hS => by obtain ⟨⟨s0, s1, s2, s3⟩, ⟨s4, s5, s6, s7⟩, ⟨s8, s9, s10⟩, s11, s12, s13, s14⟩ := hS; go_simp) hHeld ?_
    try simp only [Act.put, List.setIfInBounds_toArray, List.set_cons_zero, List.set_cons_succ]
    refine held_yes 8 (some 34) (.bool b5) rfl rfl (by kernel_rfl) (by kernel_rfl) (by kernel_rfl) (fun _ _ _ h => h) rfl (fun w' hS => by obtain ⟨⟨s0, s1, s2, s3⟩, ⟨s4, s5, s6, s7⟩, ⟨s8, s9, s10⟩, s11, s12, s13, s14⟩ := hS; go_simp) hHeld ?_
    try simp only [Act.put, List.setIfInBounds_toArray, List.set_cons_zero, List.set_cons_succ]
    refine held_yes 9 (some 35) (.bool b5) rfl rfl (by kernel_rfl) (by kernel_rfl) (by kernel_rfl) (fun _ _ _ h => h) rfl (fun w' hS => by obtain ⟨⟨s0, s1, s2, s3⟩, ⟨s4, s5, s6, s7⟩, ⟨s8, s9, s10⟩, s11, s12, s13, s14⟩ := hS; go_simp) hHeld ?_
    try simp only [Act.put, List.setIfInBounds_toArray, List.set_cons_zero, List.set_cons_succ]
    cases b5 with
    | true =>
      refine held_no 10 (some 36) rfl rfl (by kernel_rfl) (by kernel_rfl) (by kernel_rfl) (fun _ _ _ h => h) rfl hHeld ?_
      try simp only [Act.put, List.setIfInBounds_toArray, List.set_cons_zero, List.set_cons_succ]
      refine held_no 11 (some 37) rfl rfl (by kernel_rfl) (by kernel_rfl) (by kernel_rfl) (fun _ _ _ h => h) rfl hHeld ?_
      try simp only [Act.put, List.setIfInBounds_toArray, List.set_cons_zero, List.set_cons_succ]
      refine held_no 12 (some 38) rfl rfl (by kernel_rfl) (by kernel_rfl) (by kernel_rfl) (fun _ _ _ h => h) rfl hHeld ?_
      try simp only [Act.put, List.setIfInBounds_toArray, List.set_cons_zero, List.set_cons_succ]
      refine held_no 13 (some 39) rfl rfl (by kernel_rfl) (by kernel_rfl) (by kernel_rfl) (fun _ _ _ h => h) rfl hHeld ?_
      try simp only [Act.put, List.setIfInBounds_toArray, List.set_cons_zero, List.set_cons_succ]
      refine held_no 14 (some 40) rfl rfl (by kernel_rfl) (by kernel_rfl) (by kernel_rfl) (fun _ _ _ h => h) rfl hHeld ?_
      try simp only [Act.put, List.setIfInBounds_toArray, List.set_cons_zero, List.set_cons_succ]
      refine held_no 15 (some 41) rfl rfl (by kernel_rfl) (by kernel_rfl) (by kernel_rfl) (fun _ _ _ h => h) rfl hHeld ?_
      try simp only [Act.put, List.setIfInBounds_toArray, List.set_cons_zero, List.set_cons_succ]
      refine held_no 16 (some 42) rfl rfl (by kernel_rfl) (by kernel_rfl) (by kernel_rfl) (fun _ _ _ h => h) rfl hHeld ?_
      try simp only [Act.put, List.setIfInBounds_toArray, List.set_cons_zero, List.set_cons_succ]
      refine held_no 17 (some 43) rfl rfl (by kernel_rfl) (by kernel_rfl) (by kernel_rfl) (fun _ _ _ h => h) rfl hHeld ?_
      try simp only [Act.put, List.setIfInBounds_toArray, List.set_cons_zero, List.set_cons_succ]
      refine held_no 18 (some 44) rfl rfl (by kernel_rfl) (by kernel_rfl) (by kernel_rfl) (fun _ _ _ h => h) rfl hHeld ?_
      try simp only [Act.put, List.setIfInBounds_toArray, List.set_cons_zero, List.set_cons_succ]
      refine held_no 19 (some 45) rfl rfl (by kernel_rfl) (by kernel_rfl) (by kernel_rfl) (fun _ _ _ h => h) rfl hHeld ?_
      try simp only [Act.put, List.setIfInBounds_toArray, List.set_cons_zero, List.set_cons_succ]
      refine held_yes 20 (some 46) (.bool true) rfl rfl (by kernel_rfl) (by kernel_rfl) (by kernel_rfl) (fun _ _ _ h => h) rfl (fun w' hS => by obtain ⟨⟨s0, s1, s2, s3⟩, ⟨s4, s5, s6, s7⟩, ⟨s8, s9, s10⟩, s11, s12, s13, s14⟩ := hS; go_simp) hHeld ?_
      try simp only [Act.put, List.setIfInBounds_toArray, List.set_cons_zero, List.set_cons_succ]
      refine wpAnyH_done (by kernel_rfl) ?_ _
      have hBo := hBw _ hX
      go_wp2_with (go_at_call 9; refine (shadeShop_ok _).mono ?_; rintro e w9 ⟨rfl, hQ9⟩)
      go_ret
      exact ⟨rfl, hBo.trans (hQ9.mono hBo.size)⟩
    | false =>
      refine held_yes 10 (some 36) (.agg #[.int .i64 x, .int .i64 y, .int .i64 z, .slice Au l.length cu]) rfl rfl (by kernel_rfl) (by kernel_rfl) (by kernel_rfl) (fun _ _ _ h => h) rfl (fun w' hS => by obtain ⟨⟨s0, s1, s2, s3⟩, ⟨s4, s5, s6, s7⟩, ⟨s8, s9, s10⟩, s11, s12, s13, s14⟩ := hS; go_simp) hHeld ?_
      try simp only [Act.put, List.setIfInBounds_toArray, List.set_cons_zero, List.set_cons_succ]
      refine held_yes 12 (some 38) (.agg #[.int .i64 p, .int .i64 q, .int .i64 r]) rfl rfl (by kernel_rfl) (by kernel_rfl) (by kernel_rfl) (fun _ _ _ h => h) rfl (fun w' hS => by obtain ⟨⟨s0, s1, s2, s3⟩, ⟨s4, s5, s6, s7⟩, ⟨s8, s9, s10⟩, s11, s12, s13, s14⟩ := hS; go_simp) hHeld ?_
      try simp only [Act.put, List.setIfInBounds_toArray, List.set_cons_zero, List.set_cons_succ]
      refine held_yes 15 (some 41) (.pointer (some ⟨w.heap.size + 1 + 1, 1, none⟩)) rfl rfl (by kernel_rfl) (by kernel_rfl) (by kernel_rfl) (fun _ _ _ h => h) rfl (fun w' hS => by obtain ⟨⟨s0, s1, s2, s3⟩, ⟨s4, s5, s6, s7⟩, ⟨s8, s9, s10⟩, s11, s12, s13, s14⟩ := hS; go_simp) hHeld ?_
      try simp only [Act.put, List.setIfInBounds_toArray, List.set_cons_zero, List.set_cons_succ]
      refine held_yes 16 (some 42) (.agg #[.int .i64 m0, .int .i64 m1, .int .i64 m2]) rfl rfl (by kernel_rfl) (by kernel_rfl) (by kernel_rfl) (fun _ _ _ h => h) rfl (fun w' hS => by obtain ⟨⟨s0, s1, s2, s3⟩, ⟨s4, s5, s6, s7⟩, ⟨s8, s9, s10⟩, s11, s12, s13, s14⟩ := hS; go_simp) hHeld ?_
      try simp only [Act.put, List.setIfInBounds_toArray, List.set_cons_zero, List.set_cons_succ]
      refine wpAnyH_ready (rs := [11]) (by kernel_rfl) (by simp) ?_
      refine AllReadyH.cons rfl (fun K hK => ?_) AllReadyH.nil
      go_simp
      refine (kGd _ (ksu _ hX)).mono ?_
      rintro e v11 ⟨n, rfl, hn0, hn12, hok, hB⟩
      replace hX := hX.trans (hB.mono hX.size)
      go_wp2_with fail
      refine hK.out _ _ (kk _ hX) (fun hHeld => ?_)
      clear hK K hB
      try simp only [Act.put, List.setIfInBounds_toArray, List.set_cons_zero, List.set_cons_succ]
      have we1 := wrap64_small (n := n + ec) (by rcases hc with h | h <;> omega)
      have we2 := wrap_small (n := n + ec) (by rcases hc with h | h <;> omega)
      have we3 := wrap64_small (n := n + ec + em) (by rcases hc with h | h <;> rcases hm with h2 | h2 <;> omega)
      have we4 := wrap_small (n := n + ec + em) (by rcases hc with h | h <;> rcases hm with h2 | h2 <;> omega)
      refine wpAnyH_ready (rs := [13]) (by kernel_rfl) (by simp) ?_
      refine AllReadyH.cons rfl (fun K hK => ?_) AllReadyH.nil
      go_simp
      refine (kCc _).mono ?_
      rintro e v13 ⟨rfl, hB⟩
      replace hX := hX.trans (hB.mono hX.size)
      go_wp2_with fail
      refine hK.out _ _ (kk _ hX) (fun hHeld => ?_)
      clear hK K hB
      try simp only [Act.put, List.setIfInBounds_toArray, List.set_cons_zero, List.set_cons_succ]
      refine held_yes 14 (some 40) (.int .i64 (n + ec)) rfl rfl (by kernel_rfl) (by kernel_rfl) (by kernel_rfl) (fun _ _ _ h => h) rfl (fun w' hS => by obtain ⟨⟨s0, s1, s2, s3⟩, ⟨s4, s5, s6, s7⟩, ⟨s8, s9, s10⟩, s11, s12, s13, s14⟩ := hS; go_simp) hHeld ?_
      try simp only [Act.put, List.setIfInBounds_toArray, List.set_cons_zero, List.set_cons_succ]
      refine wpAnyH_ready (rs := [17]) (by kernel_rfl) (by simp) ?_
      refine AllReadyH.cons rfl (fun K hK => ?_) AllReadyH.nil
      go_simp
      refine (kCm _).mono ?_
      rintro e v17 ⟨rfl, hB⟩
      replace hX := hX.trans (hB.mono hX.size)
      go_wp2_with fail
      refine hK.out _ _ (kk _ hX) (fun hHeld => ?_)
      clear hK K hB
      try simp only [Act.put, List.setIfInBounds_toArray, List.set_cons_zero, List.set_cons_succ]
      refine held_yes 18 (some 44) (.int .i64 (n + ec + em)) rfl rfl (by kernel_rfl) (by kernel_rfl) (by kernel_rfl) (fun _ _ _ h => h) rfl (fun w' hS => by obtain ⟨⟨s0, s1, s2, s3⟩, ⟨s4, s5, s6, s7⟩, ⟨s8, s9, s10⟩, s11, s12, s13, s14⟩ := hS; go_simp) hHeld ?_
      try simp only [Act.put, List.setIfInBounds_toArray, List.set_cons_zero, List.set_cons_succ]
      obtain ⟨bs, hbs⟩ : ∃ bs, (n + ec + em != 0) = bs := ⟨_, rfl⟩
      refine held_yes 19 (some 45) (.bool bs) rfl rfl (by kernel_rfl) (by kernel_rfl) (by kernel_rfl) (fun _ _ _ h => h) rfl (fun w' hS => by obtain ⟨⟨s0, s1, s2, s3⟩, ⟨s4, s5, s6, s7⟩, ⟨s8, s9, s10⟩, s11, s12, s13, s14⟩ := hS; go_simp) hHeld ?_
      try simp only [Act.put, List.setIfInBounds_toArray, List.set_cons_zero, List.set_cons_succ]
      refine held_yes 20 (some 46) (.bool bs) rfl rfl (by kernel_rfl) (by kernel_rfl) (by kernel_rfl) (fun _ _ _ h => h) rfl (fun w' hS => by obtain ⟨⟨s0, s1, s2, s3⟩, ⟨s4, s5, s6, s7⟩, ⟨s8, s9, s10⟩, s11, s12, s13, s14⟩ := hS; go_simp) hHeld ?_
      try simp only [Act.put, List.setIfInBounds_toArray, List.set_cons_zero, List.set_cons_succ]
      cases bs with
      | true =>
        refine wpAnyH_done (by kernel_rfl) ?_ _
        have hBo := hBw _ hX
        go_wp2_with (go_at_call 9; refine (shadeShop_ok _).mono ?_; rintro e w9 ⟨rfl, hQ9⟩)
        go_ret
        exact ⟨rfl, hBo.trans (hQ9.mono hBo.size)⟩
      | false =>
        have hs0 : n + ec + em = 0 := by simpa using hbs
        have hgok : GuideOk (x, y, z) l := hok (by rcases hc with h | h <;> rcases hm with h2 | h2 <;> omega)
        have hcok : ColOk (p, q, r) 0 255 := by rcases hc with h | h <;> rcases hm with h2 | h2 <;> first | exact h.2 | (exfalso; omega)
        have hmok : ColOk (m0, m1, m2) 0 255 := by rcases hc with h | h <;> rcases hm with h2 | h2 <;> first | exact h2.2 | (exfalso; omega)
        have hl5 : l.length ≤ 5 := by simp at hb5; omega
        refine wpAnyH_done (by kernel_rfl) ?_ _
        clear hbs we1 we2 we3 we4 hs0 hok hn0 hn12 hc hm kCc kCm kShort hHeld hb5
        have hXg := hX
        generalize hVg : v17 = Vg at hX hXg ⊢
        clear hVg hX
        have kkg : ∀ V, Below Vg.heap.size Vg V → Below Wx.heap.size Wx V := fun V h => hXg.trans (h.mono hXg.size)
        have hD := (Below.refl Vg.heap.size Vg).drew
        have hHeld := kk _ (kkg _ hD)
        go_wp2_with fail
        refine wp_region_held_drew (S := fun V => (V.cell? ⟨w1.heap.size, 0, none⟩ = some (.int .i64 x) ∧ V.cell? ⟨w1.heap.size, 1, none⟩ = some (.int .i64 y) ∧ V.cell? ⟨w1.heap.size, 2, none⟩ = some (.int .i64 z) ∧ V.cell? ⟨w1.heap.size, 3, none⟩ = some (.slice Au l.length cu)) ∧ (V.cell? ⟨w.heap.size, 0, none⟩ = some (.int .i64 x) ∧ V.cell? ⟨w.heap.size, 1, none⟩ = some (.int .i64 y) ∧ V.cell? ⟨w.heap.size, 2, none⟩ = some (.int .i64 z) ∧ V.cell? ⟨w.heap.size, 3, none⟩ = some (.slice A l.length cap)) ∧ (V.cell? ⟨w.heap.size + 1, 0, none⟩ = some (.int .i64 p) ∧ V.cell? ⟨w.heap.size + 1, 1, none⟩ = some (.int .i64 q) ∧ V.cell? ⟨w.heap.size + 1, 2, none⟩ = some (.int .i64 r)) ∧ V.cell? ⟨w.heap.size + 1 + 1, 0, none⟩ = some (.string ms) ∧ V.cell? ⟨w.heap.size + 1 + 1, 1, none⟩ = some (.int .i64 m0) ∧ V.cell? ⟨w.heap.size + 1 + 1, 2, none⟩ = some (.int .i64 m1) ∧ V.cell? ⟨w.heap.size + 1 + 1, 3, none⟩ = some (.int .i64 m2)) (by kernel_rfl) hHeld (fun hHeld => ?_)
        refine held_yes 0 (some 48) (.agg #[.int .i64 x, .int .i64 y, .int .i64 z, .slice A l.length cap]) rfl rfl (by kernel_rfl) (by kernel_rfl) (by kernel_rfl) (fun _ _ _ h => h) rfl (fun w' hS => by obtain ⟨⟨s0, s1, s2, s3⟩, ⟨s4, s5, s6, s7⟩, ⟨s8, s9, s10⟩, s11, s12, s13, s14⟩ := hS; go_simp) hHeld ?_
        try simp only [Act.put, List.setIfInBounds_toArray, List.set_cons_zero, List.set_cons_succ]
        refine held_yes 1 (some 49) (.agg #[.int .i64 x, .int .i64 y, .int .i64 z, .slice A l.length cap]) rfl rfl (by kernel_rfl) (by kernel_rfl) (by kernel_rfl) (fun _ _ _ h => h) rfl (fun w' hS => by obtain ⟨⟨s0, s1, s2, s3⟩, ⟨s4, s5, s6, s7⟩, ⟨s8, s9, s10⟩, s11, s12, s13, s14⟩ := hS; go_simp) hHeld ?_
        try simp only [Act.put, List.setIfInBounds_toArray, List.set_cons_zero, List.set_cons_succ]
        refine held_yes 2 (some 50) (.agg #[.int .i64 x, .int .i64 y, .int .i64 z, .slice A l.length cap]) rfl rfl (by kernel_rfl) (by kernel_rfl) (by kernel_rfl) (fun _ _ _ h => h) rfl (fun w' hS => by obtain ⟨⟨s0, s1, s2, s3⟩, ⟨s4, s5, s6, s7⟩, ⟨s8, s9, s10⟩, s11, s12, s13, s14⟩ := hS; go_simp) hHeld ?_
        try simp only [Act.put, List.setIfInBounds_toArray, List.set_cons_zero, List.set_cons_succ]
        refine alloc3 Vg _ (fun V h => kk _ (kkg _ h)) rfl rfl rfl ?e3 rfl rfl rfl ?e4 rfl rfl rfl ?e5 (by kernel_rfl) (by kernel_rfl) (by kernel_rfl) (by kernel_rfl) (by kernel_rfl) (by kernel_rfl) (by kernel_rfl) ?fin _ hD
        case e3 =>
          intro a V
          unfold ptrG zG
          go_simp
        case e4 =>
          intro a V
          unfold ptrG zG
          go_simp
        case e5 =>
          intro a V
          unfold ptrG zG
          go_simp
        case fin =>
          clear hD hHeld
          intro b8 b9 b10 Va n8 n9 n10 d89 d8a d9a hVa
          obtain ⟨n8, l8⟩ := n8
          obtain ⟨n9, l9⟩ := n9
          obtain ⟨n10, l10⟩ := n10
          unfold ptrG
          try simp only [Act.put, List.setIfInBounds_toArray, List.set_cons_zero, List.set_cons_succ]
          have z0 : Va.cell? ⟨b8, 0, none⟩ = some (.int .i64 0) := n8.cell (by rfl)
          have z1 : Va.cell? ⟨b8, 1, none⟩ = some (.int .i64 0) := n8.cell (by rfl)
          have z2 : Va.cell? ⟨b8, 2, none⟩ = some (.int .i64 0) := n8.cell (by rfl)
          have z3 : Va.cell? ⟨b8, 3, none⟩ = some (.slice none 0 0) := n8.cell (by rfl)
          have f0 := n8.fz 0
          have f1 := n8.fz 1
          have f2 := n8.fz 2
          have f3 := n8.fz 3
          have r8 : RowK ((((Va.setCell ⟨b8, 0, none⟩ (.int .i64 x)).setCell ⟨b8, 1, none⟩ (.int .i64 y)).setCell ⟨b8, 2, none⟩ (.int .i64 z)).setCell ⟨b8, 3, none⟩ (.slice A l.length cap)) 47 b8 [.int .i64 x, .int .i64 y, .int .i64 z, .slice A l.length cap] := (((n8.set 0 (.int .i64 x)).set 1 (.int .i64 y)).set 2 (.int .i64 z)).set 3 (.slice A l.length cap)
          have hs : ∀ g, g ≠ b8 → ((((Va.setCell ⟨b8, 0, none⟩ (.int .i64 x)).setCell ⟨b8, 1, none⟩ (.int .i64 y)).setCell ⟨b8, 2, none⟩ (.int .i64 z)).setCell ⟨b8, 3, none⟩ (.slice A l.length cap)).heap[g]? = Va.heap[g]? := fun g hg => (Below.heap_setCell _ ⟨b8, 3, none⟩ _ g hg).trans ((Below.heap_setCell _ ⟨b8, 2, none⟩ _ g hg).trans ((Below.heap_setCell _ ⟨b8, 1, none⟩ _ g hg).trans (Below.heap_setCell _ ⟨b8, 0, none⟩ _ g hg)))
          have hV2 := (((hVa.setCell (p := ⟨b8, 0, none⟩) l8 (.int .i64 x)).setCell (p := ⟨b8, 1, none⟩) l8 (.int .i64 y)).setCell (p := ⟨b8, 2, none⟩) l8 (.int .i64 z)).setCell (p := ⟨b8, 3, none⟩) l8 (.slice A l.length cap)
          replace n9 := n9.keep (hs _ (Ne.symm d89))
          replace n10 := n10.keep (hs _ (Ne.symm d8a))
          clear hs n8
          refine wpAnyH_ready (rs := [6]) (by kernel_rfl) (by simp) ?_
          refine AllReadyH.cons rfl (fun K hK => ?_) AllReadyH.nil
          go_simp
          refine hK.out _ _ (kk _ (kkg _ hV2)) (fun _ => ?_)
          clear hK K z0 z1 z2 z3 f0 f1 f2 f3
          generalize (((Va.setCell ⟨b8, 0, none⟩ (.int .i64 x)).setCell ⟨b8, 1, none⟩ (.int .i64 y)).setCell ⟨b8, 2, none⟩ (.int .i64 z)).setCell ⟨b8, 3, none⟩ (.slice A l.length cap) = Vb at r8 n9 n10 hV2 ⊢
          have hVb := hV2
          clear hV2
          have z0 : Vb.cell? ⟨b9, 0, none⟩ = some (.int .i64 0) := n9.cell (by rfl)
          have z1 : Vb.cell? ⟨b9, 1, none⟩ = some (.int .i64 0) := n9.cell (by rfl)
          have z2 : Vb.cell? ⟨b9, 2, none⟩ = some (.int .i64 0) := n9.cell (by rfl)
          have z3 : Vb.cell? ⟨b9, 3, none⟩ = some (.slice none 0 0) := n9.cell (by rfl)
          have f0 := n9.fz 0
          have f1 := n9.fz 1
          have f2 := n9.fz 2
          have f3 := n9.fz 3
          have r9 : RowK ((((Vb.setCell ⟨b9, 0, none⟩ (.int .i64 x)).setCell ⟨b9, 1, none⟩ (.int .i64 y)).setCell ⟨b9, 2, none⟩ (.int .i64 z)).setCell ⟨b9, 3, none⟩ (.slice A l.length cap)) 47 b9 [.int .i64 x, .int .i64 y, .int .i64 z, .slice A l.length cap] := (((n9.set 0 (.int .i64 x)).set 1 (.int .i64 y)).set 2 (.int .i64 z)).set 3 (.slice A l.length cap)
          have hs : ∀ g, g ≠ b9 → ((((Vb.setCell ⟨b9, 0, none⟩ (.int .i64 x)).setCell ⟨b9, 1, none⟩ (.int .i64 y)).setCell ⟨b9, 2, none⟩ (.int .i64 z)).setCell ⟨b9, 3, none⟩ (.slice A l.length cap)).heap[g]? = Vb.heap[g]? := fun g hg => (Below.heap_setCell _ ⟨b9, 3, none⟩ _ g hg).trans ((Below.heap_setCell _ ⟨b9, 2, none⟩ _ g hg).trans ((Below.heap_setCell _ ⟨b9, 1, none⟩ _ g hg).trans (Below.heap_setCell _ ⟨b9, 0, none⟩ _ g hg)))
          have hV2 := (((hVb.setCell (p := ⟨b9, 0, none⟩) l9 (.int .i64 x)).setCell (p := ⟨b9, 1, none⟩) l9 (.int .i64 y)).setCell (p := ⟨b9, 2, none⟩) l9 (.int .i64 z)).setCell (p := ⟨b9, 3, none⟩) l9 (.slice A l.length cap)
          replace r8 := r8.keep (hs _ d89)
          replace n10 := n10.keep (hs _ (Ne.symm d9a))
          clear hs n9
          refine wpAnyH_ready (rs := [7]) (by kernel_rfl) (by simp) ?_
          refine AllReadyH.cons rfl (fun K hK => ?_) AllReadyH.nil
          go_simp
          refine hK.out _ _ (kk _ (kkg _ hV2)) (fun _ => ?_)
          clear hK K z0 z1 z2 z3 f0 f1 f2 f3
          generalize (((Vb.setCell ⟨b9, 0, none⟩ (.int .i64 x)).setCell ⟨b9, 1, none⟩ (.int .i64 y)).setCell ⟨b9, 2, none⟩ (.int .i64 z)).setCell ⟨b9, 3, none⟩ (.slice A l.length cap) = Vc at r9 r8 n10 hV2 ⊢
          have hVc := hV2
          clear hV2
          have z0 : Vc.cell? ⟨b10, 0, none⟩ = some (.int .i64 0) := n10.cell (by rfl)
          have z1 : Vc.cell? ⟨b10, 1, none⟩ = some (.int .i64 0) := n10.cell (by rfl)
          have z2 : Vc.cell? ⟨b10, 2, none⟩ = some (.int .i64 0) := n10.cell (by rfl)
          have z3 : Vc.cell? ⟨b10, 3, none⟩ = some (.slice none 0 0) := n10.cell (by rfl)
          have f0 := n10.fz 0
          have f1 := n10.fz 1
          have f2 := n10.fz 2
          have f3 := n10.fz 3
          have r10 : RowK ((((Vc.setCell ⟨b10, 0, none⟩ (.int .i64 x)).setCell ⟨b10, 1, none⟩ (.int .i64 y)).setCell ⟨b10, 2, none⟩ (.int .i64 z)).setCell ⟨b10, 3, none⟩ (.slice A l.length cap)) 47 b10 [.int .i64 x, .int .i64 y, .int .i64 z, .slice A l.length cap] := (((n10.set 0 (.int .i64 x)).set 1 (.int .i64 y)).set 2 (.int .i64 z)).set 3 (.slice A l.length cap)
          have hs : ∀ g, g ≠ b10 → ((((Vc.setCell ⟨b10, 0, none⟩ (.int .i64 x)).setCell ⟨b10, 1, none⟩ (.int .i64 y)).setCell ⟨b10, 2, none⟩ (.int .i64 z)).setCell ⟨b10, 3, none⟩ (.slice A l.length cap)).heap[g]? = Vc.heap[g]? := fun g hg => (Below.heap_setCell _ ⟨b10, 3, none⟩ _ g hg).trans ((Below.heap_setCell _ ⟨b10, 2, none⟩ _ g hg).trans ((Below.heap_setCell _ ⟨b10, 1, none⟩ _ g hg).trans (Below.heap_setCell _ ⟨b10, 0, none⟩ _ g hg)))
          have hV2 := (((hVc.setCell (p := ⟨b10, 0, none⟩) l10 (.int .i64 x)).setCell (p := ⟨b10, 1, none⟩) l10 (.int .i64 y)).setCell (p := ⟨b10, 2, none⟩) l10 (.int .i64 z)).setCell (p := ⟨b10, 3, none⟩) l10 (.slice A l.length cap)
          replace r8 := r8.keep (hs _ d8a)
          replace r9 := r9.keep (hs _ d9a)
          clear hs n10
          refine wpAnyH_ready (rs := [8]) (by kernel_rfl) (by simp) ?_
          refine AllReadyH.cons rfl (fun K hK => ?_) AllReadyH.nil
          go_simp
          refine hK.out _ _ (kk _ (kkg _ hV2)) (fun _ => ?_)
          clear hK K z0 z1 z2 z3 f0 f1 f2 f3
          generalize (((Vc.setCell ⟨b10, 0, none⟩ (.int .i64 x)).setCell ⟨b10, 1, none⟩ (.int .i64 y)).setCell ⟨b10, 2, none⟩ (.int .i64 z)).setCell ⟨b10, 3, none⟩ (.slice A l.length cap) = Vd at r10 r8 r9 hV2 ⊢
          have hVd := hV2
          clear hV2
          refine wpAnyH_done (by kernel_rfl) ?_ _
          obtain ⟨b0, o0, hA, -, -⟩ := hl.addr hgok.pos
          have hfew := hgok.few
          have htA : ∀ V, Below Wx.heap.size Wx V → TabAt V b0 o0 l := fun V h => by
            obtain ⟨b', o', hA', -, hT⟩ := (ksl V h).addr hgok.pos
            rw [hA] at hA'
            injection hA' with hA'
            injection hA' with e1 e2
            subst e1 e2
            exact hT
          obtain ⟨We, hWe⟩ : ∃ We, We = Vd.alloc (.cells #[] 49) := ⟨_, rfl⟩
          obtain ⟨be, hbe⟩ : ∃ be, be = Vd.heap.size := ⟨_, rfl⟩
          have hVe : Below Vg.heap.size Vg We := by subst hWe; exact hVd.alloc hVd.size _
          have hWeE := kkg _ hVe
          have ownE : OwnT 49 We be (.slice (some ⟨be, 0, none⟩) 0 0) [] := by subst hWe hbe; exact own_empty Vd
          have q8 : RowK We 47 b8 [.int .i64 x, .int .i64 y, .int .i64 z, .slice A l.length cap] := by subst hWe; exact r8.keep (Below.heap_alloc _ _ _ r8.lt)
          have q9 : RowK We 47 b9 [.int .i64 x, .int .i64 y, .int .i64 z, .slice A l.length cap] := by subst hWe; exact r9.keep (Below.heap_alloc _ _ _ r9.lt)
          have q10 : RowK We 47 b10 [.int .i64 x, .int .i64 y, .int .i64 z, .slice A l.length cap] := by subst hWe; exact r10.keep (Below.heap_alloc _ _ _ r10.lt)
          have hbeV : Vg.heap.size ≤ be := by rw [hbe]; exact hVd.size
          have hbeW : be ≤ We.heap.size := by rw [hbe, hWe]; simp
          obtain ⟨Ap, cp, Wp, hap, ownP, hgP, -⟩ := run_append_tab We 45 be _ [] l ownE b0 o0 cap (htA _ hWeE) (by simp; omega) hbeW
          have hVp : Below Vg.heap.size Vg Wp := hVe.grown hgP hVe.size (fun g e => by have := (ownE.lt g e).1; omega)
          have n8 := ownE.ne_ q8 (by decide)
          have n9 := ownE.ne_ q9 (by decide)
          have n10 := ownE.ne_ q10 (by decide)
          replace q8 := q8.keep (hgP.block _ q8.lt (fun e => n8 e.symm))
          replace q9 := q9.keep (hgP.block _ q9.lt (fun e => n9 e.symm))
          replace q10 := q10.keep (hgP.block _ q10.lt (fun e => n10 e.symm))
          rw [← hA] at hap
          simp only [List.length_nil, Nat.zero_add, List.nil_append] at hap ownP
          have o8 : Wp.cell? ⟨b8, 3, none⟩ = some (.slice A l.length cap) := q8.cell (by rfl)
          have o9 : Wp.cell? ⟨b9, 3, none⟩ = some (.slice A l.length cap) := q9.cell (by rfl)
          have o10 : Wp.cell? ⟨b10, 3, none⟩ = some (.slice A l.length cap) := q10.cell (by rfl)
          have f8 := q8.fz 3
          have f9 := q9.fz 3
          have f10 := q10.fz 3
          have c3 := (kk _ (kkg _ hVd)).2.1.2.2.2
          have c3e := (kk _ hWeE).2.1.2.2.2
          rw [hbe] at hap
          have hltVd : w.heap.size < Vd.heap.size := by have := hXg.size; have := hVd.size; omega
          have hneVd : w.heap.size ≠ Vd.heap.size := Nat.ne_of_lt hltVd
          have c3p := (kk _ (kkg _ hVp)).2.1.2.2.2
          have hgl : w.heap.size < Vg.heap.size := by have := hXg.size; omega
          have hq8 : w.heap.size ≠ b8 := by omega
          have hq9 : w.heap.size ≠ b9 := by omega
          have hq10 : w.heap.size ≠ b10 := by omega
          have HWe := Lib.hid hWe
          have HA := Lib.hid hA
          have HAP := Lib.hid hap
          have HBE := Lib.hid hbe
          clear r8 r9 r10 c3e hap hA hWe hbe
          go_wp2_with (at_builtin; rw [← HWe.out]; refine Lib.wpList_append_run _ rfl _ _ _ _ rfl _ _ rfl rfl _ _ HAP.out ?_)
          have t8 : RowK (((Wp.setCell ⟨b8, 3, none⟩ (.slice none 0 0)).setCell ⟨b9, 3, none⟩ (.slice none 0 0)).setCell ⟨b10, 3, none⟩ (.slice Ap l.length cp)) 47 b8 [.int .i64 x, .int .i64 y, .int .i64 z, .slice none 0 0] := RowK.keep (RowK.keep (q8.set 3 (.slice none 0 0)) (Below.heap_setCell _ ⟨b9, 3, none⟩ _ b8 d89)) (Below.heap_setCell _ ⟨b10, 3, none⟩ _ b8 d8a)
          have t9 : RowK (((Wp.setCell ⟨b8, 3, none⟩ (.slice none 0 0)).setCell ⟨b9, 3, none⟩ (.slice none 0 0)).setCell ⟨b10, 3, none⟩ (.slice Ap l.length cp)) 47 b9 [.int .i64 x, .int .i64 y, .int .i64 z, .slice none 0 0] := RowK.keep ((q9.keep (Below.heap_setCell Wp ⟨b8, 3, none⟩ (.slice none 0 0) b9 (Ne.symm d89))).set 3 (.slice none 0 0)) (Below.heap_setCell _ ⟨b10, 3, none⟩ _ b9 d9a)
          have t10 : RowK (((Wp.setCell ⟨b8, 3, none⟩ (.slice none 0 0)).setCell ⟨b9, 3, none⟩ (.slice none 0 0)).setCell ⟨b10, 3, none⟩ (.slice Ap l.length cp)) 47 b10 [.int .i64 x, .int .i64 y, .int .i64 z, .slice Ap l.length cp] := ((q10.keep (Below.heap_setCell Wp ⟨b8, 3, none⟩ (.slice none 0 0) b10 (Ne.symm d8a))).keep (Below.heap_setCell _ ⟨b9, 3, none⟩ (.slice none 0 0) b10 (Ne.symm d9a))).set 3 (.slice Ap l.length cp)
          have nP8 := ownP.ne_ q8 (by decide)
          have nP9 := ownP.ne_ q9 (by decide)
          have nP10 := ownP.ne_ q10 (by decide)
          have tP : OwnT 49 (((Wp.setCell ⟨b8, 3, none⟩ (.slice none 0 0)).setCell ⟨b9, 3, none⟩ (.slice none 0 0)).setCell ⟨b10, 3, none⟩ (.slice Ap l.length cp)) be (.slice Ap l.length cp) l := ownP.keepB fun g e => (Below.heap_setCell _ ⟨b10, 3, none⟩ _ g (fun e' => nP10 (by rw [e, e']))).trans ((Below.heap_setCell _ ⟨b9, 3, none⟩ _ g (fun e' => nP9 (by rw [e, e']))).trans (Below.heap_setCell _ ⟨b8, 3, none⟩ _ g (fun e' => nP8 (by rw [e, e']))))
          have hVq : Below Vg.heap.size Vg (((Wp.setCell ⟨b8, 3, none⟩ (.slice none 0 0)).setCell ⟨b9, 3, none⟩ (.slice none 0 0)).setCell ⟨b10, 3, none⟩ (.slice Ap l.length cp)) := ((hVp.setCell (p := ⟨b8, 3, none⟩) l8 (.slice none 0 0)).setCell (p := ⟨b9, 3, none⟩) l9 (.slice none 0 0)).setCell (p := ⟨b10, 3, none⟩) l10 (.slice Ap l.length cp)
          have hL0 : L1 Vg x y z b8 b9 b10 (.slice none 0 0) (.slice none 0 0) (.slice Ap l.length cp) (l.reverse.take 0) ((l.map darkT).take 0) l (((Wp.setCell ⟨b8, 3, none⟩ (.slice none 0 0)).setCell ⟨b9, 3, none⟩ (.slice none 0 0)).setCell ⟨b10, 3, none⟩ (.slice Ap l.length cp)) := ⟨t8, t9, t10, OwnT.nil _ _ _, OwnT.nil _ _ _, tP.lower hbeV, fun g e => (by cases e), fun g e => (by cases e), fun g e => (by cases e), hVq⟩
          have hA := HA.out
          clear t8 t9 t10 tP hVq nP8 nP9 nP10 HWe HAP HBE o8 o9 o10 f8 f9 f10 q8 q9 q10 ownP hVp c3 c3p hltVd hneVd n8 n9 n10 hgP ownE hWeE hVe hbeW hq8 hq9 hq10
          clear HA
          subst hA
          generalize (((Wp.setCell ⟨b8, 3, none⟩ (.slice none 0 0)).setCell ⟨b9, 3, none⟩ (.slice none 0 0)).setCell ⟨b10, 3, none⟩ (.slice Ap l.length cp)) = Wq at hL0 ⊢
          go_loopw [61] (fun i wr => ∃ (k : Nat) (u8 u9 : Value), k ≤ l.length ∧ i = .int .i64 k ∧ L1 Vg x y z b8 b9 b10 u8 u9 (.slice Ap l.length cp) (l.reverse.take k) ((l.map darkT).take k) l wr) (fun i _ => l.length - (intOf i).toNat)
          case atStart => exact ⟨0, _, _, Nat.zero_le _, rfl, hL0⟩
          case round =>
            clear hL0
            obtain ⟨k, u8, u9, hk, rfl, hL⟩ := hrel
            rcases Nat.lt_or_eq_of_le hk with hkn | rfl
            · obtain ⟨j, hj⟩ : ∃ j : Nat, (l.length : Int) - 1 - k = (j : Int) := ⟨l.length - 1 - k, by omega⟩
              have hjn : j < l.length := by omega
              obtain ⟨⟨sj, xj, yj, zj⟩, htj⟩ : ∃ t, l[j]? = some t := ⟨_, List.getElem?_eq_getElem hjn⟩
              obtain ⟨⟨sk, xk, yk, zk⟩, htk⟩ : ∃ t, l[k]? = some t := ⟨_, List.getElem?_eq_getElem hkn⟩
              have kk9 : ∀ V, Below Vg.heap.size Vg V → (V.cell? ⟨w.heap.size, 3, none⟩ = some (.slice (some ⟨b0, o0, none⟩) l.length cap)) ∧ (V.cell? ⟨b0, o0 + j * 4, none⟩ = some (.string sj) ∧ V.cell? ⟨b0, o0 + j * 4 + 1, none⟩ = some (.int .i64 xj) ∧ V.cell? ⟨b0, o0 + j * 4 + 2, none⟩ = some (.int .i64 yj) ∧ V.cell? ⟨b0, o0 + j * 4 + 3, none⟩ = some (.int .i64 zj)) ∧ V.cell? ⟨b0, o0 + k * 4, none⟩ = some (.string sk) ∧ V.cell? ⟨b0, o0 + k * 4 + 1, none⟩ = some (.int .i64 xk) ∧ V.cell? ⟨b0, o0 + k * 4 + 1 + 1, none⟩ = some (.int .i64 yk) ∧ V.cell? ⟨b0, o0 + k * 4 + 1 + 2, none⟩ = some (.int .i64 zk) := fun V h => ⟨(kk _ (kkg _ h)).2.1.2.2.2, htA V (kkg _ h) j _ htj, htA V (kkg _ h) k _ htk⟩
              have hi0 : (0 : Int) ≤ k := by omega
              have hi1 : (k : Int) < l.length := by omega
              have hj0 : (0 : Int) ≤ j := by omega
              have hj1 : (j : Int) < l.length := by omega
              have hb8 : (l.reverse.take k).length + 1 = k + 1 := by rw [List.length_take, List.length_reverse]; omega
              have hb9 : ((l.map darkT).take k).length + 1 = k + 1 := by rw [List.length_take, List.length_map]; omega
              have hm8 : k + 1 ≤ 100000 := by omega
              have hk1 : k + 1 ≤ l.length := hkn
              have hme : l.length - (k + 1) < l.length - k := by omega
              obtain ⟨wk1, wj1, wj2, wj3, wj4⟩ := wraps_k hl5 hkn hj
              have hr8 := rev_take hkn hj htj
              have hr9 := dark_take htk
              have hcol : ColOk (xk, yk, zk) 0 255 := (hgok.at_ k _ htk).2
              clear hj htj htk
              have hHeld := kk9 _ hL.keep.drew
              go_wp2_with fail
              refine wp_region_held_drew (S := fun V => (V.cell? ⟨w.heap.size, 3, none⟩ = some (.slice (some ⟨b0, o0, none⟩) l.length cap)) ∧ (V.cell? ⟨b0, o0 + j * 4, none⟩ = some (.string sj) ∧ V.cell? ⟨b0, o0 + j * 4 + 1, none⟩ = some (.int .i64 xj) ∧ V.cell? ⟨b0, o0 + j * 4 + 2, none⟩ = some (.int .i64 yj) ∧ V.cell? ⟨b0, o0 + j * 4 + 3, none⟩ = some (.int .i64 zj)) ∧ V.cell? ⟨b0, o0 + k * 4, none⟩ = some (.string sk) ∧ V.cell? ⟨b0, o0 + k * 4 + 1, none⟩ = some (.int .i64 xk) ∧ V.cell? ⟨b0, o0 + k * 4 + 1 + 1, none⟩ = some (.int .i64 yk) ∧ V.cell? ⟨b0, o0 + k * 4 + 1 + 2, none⟩ = some (.int .i64 zk)) (by kernel_rfl) hHeld (fun hHeld => ?_)
              refine held_yes 0 (some 64) (.pointer (some ⟨b8, 3, none⟩)) rfl rfl (by kernel_rfl) (by kernel_rfl) (by kernel_rfl) (fun _ _ _ h => h) rfl (fun w' hS => by obtain ⟨s0, ⟨s1, s2, s3, s4⟩, s5, s6, s7, s8⟩ := hS; go_simp) hHeld ?_
              try simp only [Act.put, List.setIfInBounds_toArray, List.set_cons_zero, List.set_cons_succ]
              refine held_yes 2 (some 66) (.pointer (some ⟨w.heap.size, 3, none⟩)) rfl rfl (by kernel_rfl) (by kernel_rfl) (by kernel_rfl) (fun _ _ _ h => h) rfl (fun w' hS => by obtain ⟨s0, ⟨s1, s2, s3, s4⟩, s5, s6, s7, s8⟩ := hS; go_simp) hHeld ?_
              try simp only [Act.put, List.setIfInBounds_toArray, List.set_cons_zero, List.set_cons_succ]
              refine held_yes 3 (some 67) (.slice (some ⟨b0, o0, none⟩) l.length cap) rfl rfl (by kernel_rfl) (by kernel_rfl) (by kernel_rfl) (fun _ _ _ h => h) rfl (fun w' hS => by obtain ⟨s0, ⟨s1, s2, s3, s4⟩, s5, s6, s7, s8⟩ := hS; go_simp) hHeld ?_
              try simp only [Act.put, List.setIfInBounds_toArray, List.set_cons_zero, List.set_cons_succ]
              refine held_yes 4 (some 68) (.pointer (some ⟨w.heap.size, 3, none⟩)) rfl rfl (by kernel_rfl) (by kernel_rfl) (by kernel_rfl) (fun _ _ _ h => h) rfl (fun w' hS => by obtain ⟨s0, ⟨s1, s2, s3, s4⟩, s5, s6, s7, s8⟩ := hS; go_simp) hHeld ?_
              try simp only [Act.put, List.setIfInBounds_toArray, List.set_cons_zero, List.set_cons_succ]
              refine held_yes 5 (some 69) (.slice (some ⟨b0, o0, none⟩) l.length cap) rfl rfl (by kernel_rfl) (by kernel_rfl) (by kernel_rfl) (fun _ _ _ h => h) rfl (fun w' hS => by obtain ⟨s0, ⟨s1, s2, s3, s4⟩, s5, s6, s7, s8⟩ := hS; go_simp) hHeld ?_
              try simp only [Act.put, List.setIfInBounds_toArray, List.set_cons_zero, List.set_cons_succ]
              refine held_yes 6 (some 70) (.int .i64 l.length) rfl rfl (by kernel_rfl) (by kernel_rfl) (by kernel_rfl) (fun _ _ _ h => h) rfl (fun w' hS => by obtain ⟨s0, ⟨s1, s2, s3, s4⟩, s5, s6, s7, s8⟩ := hS; go_simp) hHeld ?_
              try simp only [Act.put, List.setIfInBounds_toArray, List.set_cons_zero, List.set_cons_succ]
              refine held_yes 7 (some 71) (.int .i64 ((l.length : Int) - 1)) rfl rfl (by kernel_rfl) (by kernel_rfl) (by kernel_rfl) (fun _ _ _ h => h) rfl (fun w' hS => by obtain ⟨s0, ⟨s1, s2, s3, s4⟩, s5, s6, s7, s8⟩ := hS; go_simp) hHeld ?_
              try simp only [Act.put, List.setIfInBounds_toArray, List.set_cons_zero, List.set_cons_succ]
              refine held_yes 8 (some 72) (.int .i64 k) rfl rfl (by kernel_rfl) (by kernel_rfl) (by kernel_rfl) (fun _ _ _ h => h) rfl (fun w' hS => by obtain ⟨s0, ⟨s1, s2, s3, s4⟩, s5, s6, s7, s8⟩ := hS; go_simp) hHeld ?_
              try simp only [Act.put, List.setIfInBounds_toArray, List.set_cons_zero, List.set_cons_succ]
              refine held_yes 9 (some 73) (.int .i64 j) rfl rfl (by kernel_rfl) (by kernel_rfl) (by kernel_rfl) (fun _ _ _ h => h) rfl (fun w' hS => by obtain ⟨s0, ⟨s1, s2, s3, s4⟩, s5, s6, s7, s8⟩ := hS; go_simp) hHeld ?_
              try simp only [Act.put, List.setIfInBounds_toArray, List.set_cons_zero, List.set_cons_succ]
              refine held_yes 10 (some 74) (.pointer (some ⟨b0, o0 + j * 4, none⟩)) rfl rfl (by kernel_rfl) (by kernel_rfl) (by kernel_rfl) (fun _ _ _ h => h) rfl (fun w' hS => by obtain ⟨s0, ⟨s1, s2, s3, s4⟩, s5, s6, s7, s8⟩ := hS; go_simp) hHeld ?_
              try simp only [Act.put, List.setIfInBounds_toArray, List.set_cons_zero, List.set_cons_succ]
              refine held_yes 11 (some 75) (.agg #[.string sj, .int .i64 xj, .int .i64 yj, .int .i64 zj]) rfl rfl (by kernel_rfl) (by kernel_rfl) (by kernel_rfl) (fun _ _ _ h => h) rfl (fun w' hS => by obtain ⟨s0, ⟨s1, s2, s3, s4⟩, s5, s6, s7, s8⟩ := hS; go_simp) hHeld ?_
              try simp only [Act.put, List.setIfInBounds_toArray, List.set_cons_zero, List.set_cons_succ]
              refine flo9 wr _ u8 (sj, xj, yj, zj) (fun V h => kk9 V (hL.below h).keep) (by simp) rfl rfl rfl ?e1 rfl rfl rfl ?e12 (by kernel_rfl) (by kernel_rfl) (by kernel_rfl) ?fin9 _ (Below.refl wr.heap.size wr).drew
              case e1 =>
                intro a V hV ha
                have h2 : a.tmps[64]?.getD undef = .pointer (some ⟨b8, 3, none⟩) := by simpa using ha
                have c8 : V.cell? ⟨b8, 3, none⟩ = some u8 := (hL.below hV).r8.cell (by rfl)
                go_simp
              case e12 =>
                intro a V ha
                have h2 : a.tmps[75]?.getD undef = .agg #[.string sj, .int .i64 xj, .int .i64 yj, .int .i64 zj] := by simpa using ha
                have hen : (encT (sj, xj, yj, zj)).toArray = #[.string sj, .int .i64 xj, .int .i64 yj, .int .i64 zj] := rfl
                rw [hen]
                go_simp
              case fin9 =>
                clear hHeld
                intro g W hR hgg hW
                have hLW := hL.below hW
                obtain ⟨A2, c2, W2, hap, hown2, hg2, hv2⟩ := run_append_tab W 45 Vg.heap.size u8 (l.reverse.take k) [(sj, xj, yj, zj)] hLW.o8 g 0 1 (row_tab hR) (by rw [List.length_singleton, hb8]; exact hm8) hLW.keep.size
                have hV2 : Below Vg.heap.size Vg W2 := hLW.keep.grown hg2 hLW.keep.size (fun g e => (hLW.o8.lt g e).1)
                rw [hr8] at hown2
                rw [List.length_singleton, hb8] at hap hown2 hv2
                have hL2 := hLW.put d89 d8a l8 hown2 hg2 hv2
                have q8 := hLW.r8.keep (hg2.block _ hLW.r8.lt (fun e => hLW.o8.ne_ hLW.r8 (by decide) e.symm))
                have s8 : W2.cell? ⟨b8, 3, none⟩ = some u8 := q8.cell (by rfl)
                have f8 := q8.fz 3
                clear hr8 hown2 hg2 hv2 hLW hL hW hR q8
                have HAP := Lib.hid hap
                clear hap
                refine wpAnyH_ready (rs := [13]) (by kernel_rfl) (by simp) ?_
                refine AllReadyH.cons rfl (fun K hK => ?_) AllReadyH.nil
                refine step_app (w' := W2) rfl (.tmp 65) (.tmp 76) _ rfl u8 (.slice (some ⟨g, 0, none⟩) 1 1) (.slice A2 (k + 1) c2) ?ev1 ?ev2 HAP.out ?_
                case ev1 =>
                  rw [eval_tmp]
                  refine (put_other _ 76 65 _ (by decide)).trans (put_same _ 65 _ ?_)
                  first | (show 65 < (Array.size _); simp; done) | decide | (unfold Act.put; simp; done) | trace_state
                case ev2 =>
                  rw [eval_tmp]
                  refine put_same _ 76 _ ?_
                  rw [put_size]
                  first | (simp; done) | decide | (unfold Act.put; simp; done) | trace_state
                refine hK.out _ _ (kk9 _ hV2) (fun hHeld => ?_)
                clear hK K HAP
                try simp only [Act.put, List.setIfInBounds_toArray, List.set_cons_zero, List.set_cons_succ]
                refine held_yes 14 (some 78) (.pointer (some ⟨b8, 3, none⟩)) rfl rfl (by kernel_rfl) (by kernel_rfl) (by kernel_rfl) (fun _ _ _ h => h) rfl (fun w' hS => by obtain ⟨s0, ⟨s1, s2, s3, s4⟩, s5, s6, s7, s8⟩ := hS; go_simp) hHeld ?_
                try simp only [Act.put, List.setIfInBounds_toArray, List.set_cons_zero, List.set_cons_succ]
                refine wpAnyH_ready (rs := [15]) (by kernel_rfl) (by simp) ?_
                refine AllReadyH.cons rfl (fun K hK => ?_) AllReadyH.nil
                go_simp
                refine hK.out _ _ (kk9 _ hL2.keep) (fun _ => ?_)
                clear hK K s8 f8 hHeld hV2
                generalize W2.setCell ⟨b8, 3, none⟩ (.slice A2 (k + 1) c2) = Wn at hL2 ⊢
                refine wpAnyH_done (by kernel_rfl) ?_ _
                have hHeld := kk9 _ hL2.keep.drew
                go_wp2_with fail
                refine wp_region_held_drew (S := fun V => (V.cell? ⟨w.heap.size, 3, none⟩ = some (.slice (some ⟨b0, o0, none⟩) l.length cap)) ∧ (V.cell? ⟨b0, o0 + j * 4, none⟩ = some (.string sj) ∧ V.cell? ⟨b0, o0 + j * 4 + 1, none⟩ = some (.int .i64 xj) ∧ V.cell? ⟨b0, o0 + j * 4 + 2, none⟩ = some (.int .i64 yj) ∧ V.cell? ⟨b0, o0 + j * 4 + 3, none⟩ = some (.int .i64 zj)) ∧ V.cell? ⟨b0, o0 + k * 4, none⟩ = some (.string sk) ∧ V.cell? ⟨b0, o0 + k * 4 + 1, none⟩ = some (.int .i64 xk) ∧ V.cell? ⟨b0, o0 + k * 4 + 1 + 1, none⟩ = some (.int .i64 yk) ∧ V.cell? ⟨b0, o0 + k * 4 + 1 + 2, none⟩ = some (.int .i64 zk)) (by kernel_rfl) hHeld (fun hHeld => ?_)
                refine held_yes 0 (some 79) (.pointer (some ⟨b9, 3, none⟩)) rfl rfl (by kernel_rfl) (by kernel_rfl) (by kernel_rfl) (fun _ _ _ h => h) rfl (fun w' hS => by obtain ⟨s0, ⟨s1, s2, s3, s4⟩, s5, s6, s7, s8⟩ := hS; go_simp) hHeld ?_
                try simp only [Act.put, List.setIfInBounds_toArray, List.set_cons_zero, List.set_cons_succ]
                refine held_yes 2 (some 81) (.pointer (some ⟨w.heap.size, 3, none⟩)) rfl rfl (by kernel_rfl) (by kernel_rfl) (by kernel_rfl) (fun _ _ _ h => h) rfl (fun w' hS => by obtain ⟨s0, ⟨s1, s2, s3, s4⟩, s5, s6, s7, s8⟩ := hS; go_simp) hHeld ?_
                try simp only [Act.put, List.setIfInBounds_toArray, List.set_cons_zero, List.set_cons_succ]
                refine held_yes 3 (some 82) (.slice (some ⟨b0, o0, none⟩) l.length cap) rfl rfl (by kernel_rfl) (by kernel_rfl) (by kernel_rfl) (fun _ _ _ h => h) rfl (fun w' hS => by obtain ⟨s0, ⟨s1, s2, s3, s4⟩, s5, s6, s7, s8⟩ := hS; go_simp) hHeld ?_
                try simp only [Act.put, List.setIfInBounds_toArray, List.set_cons_zero, List.set_cons_succ]
                refine held_yes 4 (some 83) (.int .i64 k) rfl rfl (by kernel_rfl) (by kernel_rfl) (by kernel_rfl) (fun _ _ _ h => h) rfl (fun w' hS => by obtain ⟨s0, ⟨s1, s2, s3, s4⟩, s5, s6, s7, s8⟩ := hS; go_simp) hHeld ?_
                try simp only [Act.put, List.setIfInBounds_toArray, List.set_cons_zero, List.set_cons_succ]
                refine held_yes 5 (some 84) (.pointer (some ⟨b0, o0 + k * 4, none⟩)) rfl rfl (by kernel_rfl) (by kernel_rfl) (by kernel_rfl) (fun _ _ _ h => h) rfl (fun w' hS => by obtain ⟨s0, ⟨s1, s2, s3, s4⟩, s5, s6, s7, s8⟩ := hS; go_simp) hHeld ?_
                try simp only [Act.put, List.setIfInBounds_toArray, List.set_cons_zero, List.set_cons_succ]
                refine held_yes 6 (some 85) (.pointer (some ⟨b0, o0 + k * 4, none⟩)) rfl rfl (by kernel_rfl) (by kernel_rfl) (by kernel_rfl) (fun _ _ _ h => h) rfl (fun w' hS => by obtain ⟨s0, ⟨s1, s2, s3, s4⟩, s5, s6, s7, s8⟩ := hS; go_simp) hHeld ?_
                try simp only [Act.put, List.setIfInBounds_toArray, List.set_cons_zero, List.set_cons_succ]
                refine held_yes 7 (some 86) (.string sk) rfl rfl (by kernel_rfl) (by kernel_rfl) (by kernel_rfl) (fun _ _ _ h => h) rfl (fun w' hS => by obtain ⟨s0, ⟨s1, s2, s3, s4⟩, s5, s6, s7, s8⟩ := hS; go_simp) hHeld ?_
                try simp only [Act.put, List.setIfInBounds_toArray, List.set_cons_zero, List.set_cons_succ]
                refine held_yes 8 (some 87) (.pointer (some ⟨w.heap.size, 3, none⟩)) rfl rfl (by kernel_rfl) (by kernel_rfl) (by kernel_rfl) (fun _ _ _ h => h) rfl (fun w' hS => by obtain ⟨s0, ⟨s1, s2, s3, s4⟩, s5, s6, s7, s8⟩ := hS; go_simp) hHeld ?_
                try simp only [Act.put, List.setIfInBounds_toArray, List.set_cons_zero, List.set_cons_succ]
                refine held_yes 9 (some 88) (.slice (some ⟨b0, o0, none⟩) l.length cap) rfl rfl (by kernel_rfl) (by kernel_rfl) (by kernel_rfl) (fun _ _ _ h => h) rfl (fun w' hS => by obtain ⟨s0, ⟨s1, s2, s3, s4⟩, s5, s6, s7, s8⟩ := hS; go_simp) hHeld ?_
                try simp only [Act.put, List.setIfInBounds_toArray, List.set_cons_zero, List.set_cons_succ]
                refine held_yes 10 (some 89) (.int .i64 k) rfl rfl (by kernel_rfl) (by kernel_rfl) (by kernel_rfl) (fun _ _ _ h => h) rfl (fun w' hS => by obtain ⟨s0, ⟨s1, s2, s3, s4⟩, s5, s6, s7, s8⟩ := hS; go_simp) hHeld ?_
                try simp only [Act.put, List.setIfInBounds_toArray, List.set_cons_zero, List.set_cons_succ]
                refine held_yes 11 (some 90) (.pointer (some ⟨b0, o0 + k * 4, none⟩)) rfl rfl (by kernel_rfl) (by kernel_rfl) (by kernel_rfl) (fun _ _ _ h => h) rfl (fun w' hS => by obtain ⟨s0, ⟨s1, s2, s3, s4⟩, s5, s6, s7, s8⟩ := hS; go_simp) hHeld ?_
                try simp only [Act.put, List.setIfInBounds_toArray, List.set_cons_zero, List.set_cons_succ]
                refine held_yes 12 (some 91) (.pointer (some ⟨b0, o0 + k * 4 + 1, none⟩)) rfl rfl (by kernel_rfl) (by kernel_rfl) (by kernel_rfl) (fun _ _ _ h => h) rfl (fun w' hS => by obtain ⟨s0, ⟨s1, s2, s3, s4⟩, s5, s6, s7, s8⟩ := hS; go_simp) hHeld ?_
                try simp only [Act.put, List.setIfInBounds_toArray, List.set_cons_zero, List.set_cons_succ]
                refine held_yes 13 (some 92) (.agg #[.int .i64 xk, .int .i64 yk, .int .i64 zk]) rfl rfl (by kernel_rfl) (by kernel_rfl) (by kernel_rfl) (fun _ _ _ h => h) rfl (fun w' hS => by obtain ⟨s0, ⟨s1, s2, s3, s4⟩, s5, s6, s7, s8⟩ := hS; go_simp) hHeld ?_
                try simp only [Act.put, List.setIfInBounds_toArray, List.set_cons_zero, List.set_cons_succ]
                have hLs := hL2.swap
                clear hL2
                refine flo10 Wn _ u9 (colV (lessC (xk, yk, zk))) (.agg (encT (darkT (sk, xk, yk, zk))).toArray) (darkT (sk, xk, yk, zk)) (fun V h => kk9 V (hLs.below h).keep) (by simp) rfl rfl rfl ?e1 rfl rfl ?e14 rfl rfl rfl ?e15 rfl rfl rfl ?e16 (by kernel_rfl) (by kernel_rfl) (by kernel_rfl) (by kernel_rfl) (by kernel_rfl) (by kernel_rfl) (by kernel_rfl) ?fin10 _ (Below.refl Wn.heap.size Wn).drew
                case e1 =>
                  intro a V hV ha
                  have h2 : a.tmps[79]?.getD undef = .pointer (some ⟨b9, 3, none⟩) := by simpa using ha
                  have c9 : V.cell? ⟨b9, 3, none⟩ = some u9 := (hLs.below hV).r8.cell (by rfl)
                  go_simp
                case e14 =>
                  intro a V K ha hK
                  have h2 : a.tmps[92]?.getD undef = .agg #[.int .i64 xk, .int .i64 yk, .int .i64 zk] := by simpa using ha
                  have kc := shadeLess_ok (xk, yk, zk) V hcol
                  unfold colV at kc
                  dsimp only at kc
                  go_simp
                  refine kc.mono ?_
                  rintro e w2 ⟨rfl, hB⟩
                  exact hK w2 hB
                case e15 =>
                  intro a V ha hb
                  have h2 : a.tmps[86]?.getD undef = .string sk := by simpa using ha
                  have h3 : a.tmps[93]?.getD undef = colV (lessC (xk, yk, zk)) := by simpa using hb
                  unfold colV at h3
                  go_simp
                  rfl
                case e16 =>
                  intro a V ha
                  have hen : (encT (darkT (sk, xk, yk, zk))).toArray = #[.string sk, .int .i64 (lessC (xk, yk, zk)).1, .int .i64 (lessC (xk, yk, zk)).2.1, .int .i64 (lessC (xk, yk, zk)).2.2] := rfl
                  rw [hen] at ha ⊢
                  have h2 : a.tmps[94]?.getD undef = .agg #[.string sk, .int .i64 (lessC (xk, yk, zk)).1, .int .i64 (lessC (xk, yk, zk)).2.1, .int .i64 (lessC (xk, yk, zk)).2.2] := by simpa using ha
                  clear ha hen
                  go_simp
                case fin10 =>
                  clear hHeld
                  intro g W hR hgg hW
                  have hLW := hLs.below hW
                  obtain ⟨A3, c3, W3, hap, hown2, hg2, hv2⟩ := run_append_tab W 45 Vg.heap.size u9 ((l.map darkT).take k) [darkT (sk, xk, yk, zk)] hLW.o8 g 0 1 (row_tab hR) (by rw [List.length_singleton, hb9]; exact hm8) hLW.keep.size
                  have hV2 : Below Vg.heap.size Vg W3 := hLW.keep.grown hg2 hLW.keep.size (fun g e => (hLW.o8.lt g e).1)
                  rw [hr9] at hown2
                  rw [List.length_singleton, hb9] at hap hown2 hv2
                  have hL3 := hLW.put (Ne.symm d89) d9a l9 hown2 hg2 hv2
                  have q9 := hLW.r8.keep (hg2.block _ hLW.r8.lt (fun e => hLW.o8.ne_ hLW.r8 (by decide) e.symm))
                  have s9 : W3.cell? ⟨b9, 3, none⟩ = some u9 := q9.cell (by rfl)
                  have f9 := q9.fz 3
                  clear hr9 hown2 hg2 hv2 hLW hLs hW hR q9
                  have HAP := Lib.hid hap
                  clear hap
                  refine wpAnyH_ready (rs := [17]) (by kernel_rfl) (by simp) ?_
                  refine AllReadyH.cons rfl (fun K hK => ?_) AllReadyH.nil
                  refine step_app (w' := W3) rfl (.tmp 80) (.tmp 95) _ rfl u9 (.slice (some ⟨g, 0, none⟩) 1 1) (.slice A3 (k + 1) c3) ?ev1 ?ev2 HAP.out ?_
                  case ev1 =>
                    rw [eval_tmp]
                    refine (put_other _ 95 80 _ (by decide)).trans ((put_other _ 94 80 _ (by decide)).trans ((put_other _ 93 80 _ (by decide)).trans (put_same _ 80 _ ?_)))
                    first | (show 80 < (Array.size _); simp; done) | decide | (unfold Act.put; simp; done) | trace_state
                  case ev2 =>
                    rw [eval_tmp]
                    refine put_same _ 95 _ ?_
                    rw [put_size, put_size, put_size]
                    first | (simp; done) | decide | (unfold Act.put; simp; done) | trace_state
                  refine hK.out _ _ (kk9 _ hV2) (fun hHeld => ?_)
                  clear hK K HAP
                  try simp only [Act.put, List.setIfInBounds_toArray, List.set_cons_zero, List.set_cons_succ]
                  refine held_yes 18 (some 97) (.pointer (some ⟨b9, 3, none⟩)) rfl rfl (by kernel_rfl) (by kernel_rfl) (by kernel_rfl) (fun _ _ _ h => h) rfl (fun w' hS => by obtain ⟨s0, ⟨s1, s2, s3, s4⟩, s5, s6, s7, s8⟩ := hS; go_simp) hHeld ?_
                  try simp only [Act.put, List.setIfInBounds_toArray, List.set_cons_zero, List.set_cons_succ]
                  refine wpAnyH_ready (rs := [19]) (by kernel_rfl) (by simp) ?_
                  refine AllReadyH.cons rfl (fun K hK => ?_) AllReadyH.nil
                  go_simp
                  refine hK.out _ _ (kk9 _ hL3.keep) (fun _ => ?_)
                  clear hK K s9 f9 hHeld hV2
                  generalize W3.setCell ⟨b9, 3, none⟩ (.slice A3 (k + 1) c3) = Wm at hL3 ⊢
                  refine wpAnyH_done (by kernel_rfl) ?_ _
                  have HM := Lib.hid hme
                  clear hb8 hb9 hm8 hme wj1 wj2 wj3 wj4 hcol kk9 hi0 hi1 hj0 hj1 hjn
                  have wk2 := wrap_k1 (show k ≤ 32 from Nat.le_trans hk hfew)
                  go_wp2_with fail
                  go_roundw
                  case rel => exact ⟨k + 1, _, _, hk1, by simp, hL3.swap⟩
                  case measure =>
                    show l.length - (((k : Int) + 1).toNat) < l.length - ((k : Int).toNat)
                    rw [show ((k : Int) + 1).toNat = k + 1 from rfl, show ((k : Int)).toNat = k from rfl]
                    exact HM.out
            · repeat clear hHeld
              rw [List.take_of_length_le (show l.reverse.length ≤ l.length by simp), List.take_of_length_le (show (l.map darkT).length ≤ l.length by simp)] at hL
              have hR : L1 Vg x y z b10 b8 b9 (.slice Ap l.length cp) u8 u9 l l.reverse (l.map darkT) wr := ⟨hL.r10, hL.r8, hL.r9, hL.oP, hL.o8, hL.o9, fun g e e' => hL.e8 g e' e, fun g e e' => hL.e9 g e' e, hL.d, hL.keep⟩
              obtain ⟨W1, hW1⟩ : ∃ W1, W1 = wr.alloc (.cells #[.string ⟨#[102, 117, 114, 116, 104, 101, 114]⟩, .int .i64 m0, .int .i64 m1, .int .i64 m2] 49) := ⟨_, rfl⟩
              have hb1 : Below wr.heap.size wr W1 := by subst hW1; exact (Below.refl _ _).alloc (Nat.le_refl _) _
              have hrow1 : RowK W1 49 wr.heap.size (encT (⟨#[102, 117, 114, 116, 104, 101, 114]⟩, m0, m1, m2)) := by subst hW1; exact heap_alloc_new wr _
              have hR1 := hR.below hb1
              obtain ⟨A2, c2, W2, hap, hown2, hg2, hv2⟩ := run_append_tab W1 45 Vg.heap.size (.slice Ap l.length cp) l [(⟨#[102, 117, 114, 116, 104, 101, 114]⟩, m0, m1, m2)] hR1.o8 wr.heap.size 0 1 (row_tab hrow1) (by simp; omega) hR1.keep.size
              have hV2 : Below Vg.heap.size Vg W2 := hR1.keep.grown hg2 hR1.keep.size (fun g e => (hR1.o8.lt g e).1)
              have hP2 := hR1.put (Ne.symm d8a) (Ne.symm d9a) l10 hown2 hg2 hv2
              have q10 := hR1.r8.keep (hg2.block _ hR1.r8.lt (fun e => hR1.o8.ne_ hR1.r8 (by decide) e.symm))
              have s10 : W2.cell? ⟨b10, 3, none⟩ = some (.slice Ap l.length cp) := q10.cell (by rfl)
              have f10 := q10.fz 3
              have y0 : W2.cell? ⟨b10, 0, none⟩ = some (.int .i64 x) := q10.cell (by rfl)
              have y1 : W2.cell? ⟨b10, 1, none⟩ = some (.int .i64 y) := q10.cell (by rfl)
              have y2 : W2.cell? ⟨b10, 2, none⟩ = some (.int .i64 z) := q10.cell (by rfl)
              have c10 : wr.cell? ⟨b10, 3, none⟩ = some (.slice Ap l.length cp) := hL.r10.cell (by rfl)
              obtain ⟨-, -, -, d0, d1, d2, d3⟩ := kk _ (kkg _ hL.keep)
              have hne10 : b10 ≠ wr.heap.size := Nat.ne_of_lt hL.r10.lt
              simp only [List.length_singleton] at hap hP2
              have HW1 := Lib.hid hW1
              have HAP := Lib.hid hap
              clear hap hW1 hown2 hg2 hv2 hR hR1 hb1 hrow1 q10
              go_wp2_with (at_builtin; rw [← HW1.out]; refine Lib.wpList_append_run _ rfl _ _ _ _ rfl _ _ rfl rfl _ _ HAP.out ?_)
              clear s10 f10 y0 y1 y2 c10 d0 d1 d2 d3 hne10 HW1 HAP hV2
              generalize W2.setCell ⟨b10, 3, none⟩ (.slice A2 (l.length + 1) c2) = W3 at hP2 ⊢
              have hV3 := hP2.keep
              have hsP : SlT W3 (.slice A2 (l.length + 1) c2) (l ++ [(⟨#[102, 117, 114, 116, 104, 101, 114]⟩, m0, m1, m2)]) := hP2.o8.sl
              have kSG := shadeGuide_ok (x, y, z) _ _ W3 hsP (by simp; omega)
              unfold gdV at kSG
              dsimp only at kSG
              refine kSG.mono ?_
              rintro e W4 ⟨⟨uG, rfl, huG⟩, hb4⟩
              clear kSG
              obtain ⟨AG, cG, rfl⟩ := huG.sl.form
              simp only [List.length_append, List.length_cons, List.length_nil, Nat.zero_add] at huG
              have kGp := refGuide_ok (x, y, z) _ _ W4 huG.sl
              have hP4 := hP2.below hb4
              clear hP2 hb4 hsP huG kGd
              unfold gdV at kGp
              dsimp only at kGp
              go_wp2_with fail
              refine kGp.mono ?_
              rintro e W5 ⟨nG, rfl, -, -, hGp, hb5⟩
              clear kGp
              have hP5 := hP4.below hb5
              clear hP4 hb5 hV3
              by_cases hnG : nG = 0
              · subst hnG
                have hgp := hGp rfl
                clear hGp
                have hV5 := hP5.keep
                obtain ⟨-, ⟨a0, a1, a2, a3⟩, -, -⟩ := kk _ (kkg _ hV5)
                have e80 : W5.cell? ⟨b8, 0, none⟩ = some (.int .i64 x) := hP5.r9.cell (by rfl)
                have e81 : W5.cell? ⟨b8, 1, none⟩ = some (.int .i64 y) := hP5.r9.cell (by rfl)
                have e82 : W5.cell? ⟨b8, 2, none⟩ = some (.int .i64 z) := hP5.r9.cell (by rfl)
                have e83 : W5.cell? ⟨b8, 3, none⟩ = some u8 := hP5.r9.cell (by rfl)
                have e90 : W5.cell? ⟨b9, 0, none⟩ = some (.int .i64 x) := hP5.r10.cell (by rfl)
                have e91 : W5.cell? ⟨b9, 1, none⟩ = some (.int .i64 y) := hP5.r10.cell (by rfl)
                have e92 : W5.cell? ⟨b9, 2, none⟩ = some (.int .i64 z) := hP5.r10.cell (by rfl)
                have e93 : W5.cell? ⟨b9, 3, none⟩ = some u9 := hP5.r10.cell (by rfl)
                have eP0 : W5.cell? ⟨b10, 0, none⟩ = some (.int .i64 x) := hP5.r8.cell (by rfl)
                have eP1 : W5.cell? ⟨b10, 1, none⟩ = some (.int .i64 y) := hP5.r8.cell (by rfl)
                have eP2 : W5.cell? ⟨b10, 2, none⟩ = some (.int .i64 z) := hP5.r8.cell (by rfl)
                have eP3 : W5.cell? ⟨b10, 3, none⟩ = some (.slice A2 (l.length + 1) c2) := hP5.r8.cell (by rfl)
                have lg := Nat.lt_of_lt_of_le hgl hV5.size
                have l8' := hP5.r9.lt
                have l9' := hP5.r10.lt
                have lP' := hP5.r8.lt
                have ng := Nat.ne_of_lt lg
                have n8 := Nat.ne_of_lt l8'
                have n9 := Nat.ne_of_lt l9'
                have nP := Nat.ne_of_lt lP'
                have ng1 := Nat.ne_of_lt (Nat.lt_succ_of_lt lg)
                have n81 := Nat.ne_of_lt (Nat.lt_succ_of_lt l8')
                have n91 := Nat.ne_of_lt (Nat.lt_succ_of_lt l9')
                have nP1 := Nat.ne_of_lt (Nat.lt_succ_of_lt lP')
                generalize ((⟨#[102, 117, 114, 116, 104, 101, 114]⟩, m0, m1, m2) : TabT) = ft at hP5 hgp
                have hBk : ∀ V, Below W5.heap.size W5 V → Below Wx.heap.size Wx V := fun V h => kkg _ (hV5.trans (h.mono hV5.size))
                have hgs := guides4 (x := x) (y := y) (z := z) (V5 := W5) (ft := ft) (fun V h => ksl V (hBk V h)) (fun V h => (hP5.below h).o9.sl) (fun V h => (hP5.below h).oP.sl) (fun V h => (hP5.below h).o8.sl)
                obtain ⟨W6, hW6⟩ : ∃ W6, W6 = ((W5.alloc (.cells #[.int .i64 0, .int .i64 0, .int .i64 0, .int .i64 0] 35)).alloc (.cells #[.int .i64 0, .int .i64 0, .int .i64 0, .int .i64 0] 35)).alloc (.cells (gc16 x y z (.slice (some ⟨b0, o0, none⟩) l.length cap) u8 u9 (.slice A2 (l.length + 1) c2)).toArray 47) := ⟨_, rfl⟩
                obtain ⟨rn6, rm6, rg6, hb6, hz6⟩ := rows3 W5 _ _ _ _ _ _ W6 hW6
                have hL2 : L2 (x, y, z) (p, q, r) l ft W5 35 47 (gc16 x y z (.slice (some ⟨b0, o0, none⟩) l.length cap) u8 u9 (.slice A2 (l.length + 1) c2)) 0 [0, 0, 0, 0] [0, 0, 0, 0] W6 := L2.start rn6 rm6 rg6 hb6
                unfold gc16 at hW6
                clear rn6 rm6 rg6 hb6 hz6
                have HW6 := Lib.hid hW6
                clear hW6
                go_wp2_with fail
                rw [← HW6.out]
                clear HW6 e80 e81 e82 e83 e90 e91 e92 e93 eP0 eP1 eP2 eP3 l8' l9' lP' ng n8 n9 nP ng1 n81 n91 nP1 a0 a1 a2 a3
                generalize gc16 x y z (.slice (some ⟨b0, o0, none⟩) l.length cap) u8 u9 (.slice A2 (l.length + 1) c2) = gs at hL2 hgs
                go_loopw [118] (fun i wr => ∃ (k : Nat) (nr mx : List Int), k ≤ 4 ∧ i = .int .i64 k ∧ L2 (x, y, z) (p, q, r) l ft W5 35 47 gs k nr mx wr) (fun i _ => 4 - (intOf i).toNat)
                case atStart => exact ⟨0, _, _, Nat.zero_le _, rfl, hL2⟩
                case round =>
                  clear hL2
                  obtain ⟨k, nr, mx, hk, rfl, hL⟩ := hrel
                  rcases Nat.lt_or_eq_of_le hk with hkn | rfl
                  · obtain ⟨u, g0, g1, g2, g3, hsT⟩ := hgs k hkn
                    have hgT := guide_all hgok hgp k
                    obtain ⟨T, hT⟩ : ∃ T, T = tabsOf l ft k := ⟨_, rfl⟩
                    rw [← hT] at hgT
                    simp only [← hT] at hsT
                    have hT5 : T.length ≤ 6 := by rw [hT]; rcases tabs_len (l := l) (ft := ft) k with h | h <;> rw [h] <;> omega
                    have HT := Lib.hid hT
                    clear hT
                    obtain ⟨A4, cap4, rfl⟩ := (hsT _ hL.keep).form
                    obtain ⟨b4, o4, rfl, -, -⟩ := (hsT _ hL.keep).addr hgT.pos
                    have c0 : wr.cell? ⟨W5.heap.size + 1 + 1, k * 4, none⟩ = some (.int .i64 x) := hL.rg.cell g0
                    have c1 : wr.cell? ⟨W5.heap.size + 1 + 1, k * 4 + 1, none⟩ = some (.int .i64 y) := hL.rg.cell g1
                    have c2 : wr.cell? ⟨W5.heap.size + 1 + 1, k * 4 + 2, none⟩ = some (.int .i64 z) := hL.rg.cell g2
                    have c3 : wr.cell? ⟨W5.heap.size + 1 + 1, k * 4 + 3, none⟩ = some (.slice (some ⟨b4, o4, none⟩) T.length cap4) := hL.rg.cell g3
                    obtain ⟨-, -, ⟨d0, d1, d2⟩, -⟩ := kk _ (hBk _ hL.keep)
                    have lw : w.heap.size + 1 < wr.heap.size := by have := hL.big; omega
                    have nw : w.heap.size + 1 ≠ wr.heap.size := Nat.ne_of_lt lw
                    have hi0 : (0 : Int) ≤ k := by omega
                    have hi1 : (k : Int) < 4 := by omega
                    obtain ⟨W7, hW7⟩ : ∃ W7, W7 = (wr.alloc (.cells #[.int .i64 x, .int .i64 y, .int .i64 z, .slice (some ⟨b4, o4, none⟩) T.length cap4] 47)).alloc (.cells #[.int .i64 p, .int .i64 q, .int .i64 r] 44) := ⟨_, rfl⟩
                    obtain ⟨r15, r16, hb7, hz7⟩ := rows2 wr _ _ _ _ W7 hW7
                    have HW7 := Lib.hid hW7
                    have HZ7 := Lib.hid hz7
                    clear hW7 hz7 g0 g1 g2 g3
                    go_upto_if 125 with fail
                    rw [← HW7.out]
                    clear HW7 c0 c1 c2 c3 d0 d1 d2 lw nw
                    go_cut [118] from 118 to 209 (fun v wx => v = .int .i64 k ∧ RowK wx 47 wr.heap.size [.int .i64 x, .int .i64 y, .int .i64 z, .slice (some ⟨b4, o4, none⟩) T.length cap4] ∧ RowK wx 44 (wr.heap.size + 1) [.int .i64 (atOf (p, q, r) k).1, .int .i64 (atOf (p, q, r) k).2.1, .int .i64 (atOf (p, q, r) k).2.2] ∧ Below wr.heap.size wr wx)
                    case first =>
                      by_cases hk2 : k = 2
                      · subst hk2
                        have kc := shadeLess_ok (p, q, r) W7 hcok
                        unfold colV at kc
                        dsimp only at kc
                        have e0 : W7.cell? ⟨wr.heap.size + 1, 0, none⟩ = some (.int .i64 p) := r16.cell (by rfl)
                        obtain ⟨-, -, ⟨d0, d1, d2⟩, -⟩ := kk _ (hBk _ (hL.keep.trans (hb7.mono hL.keep.size)))
                        go_wp2_with fail
                        refine kc.mono ?_
                        rintro e w8 ⟨rfl, hb8⟩
                        clear kc
                        have r15' := r15.below hb8
                        have r16' := r16.below hb8
                        have z0 : w8.cell? ⟨wr.heap.size + 1, 0, none⟩ = some (.int .i64 p) := r16'.cell (by rfl)
                        have z1 : w8.cell? ⟨wr.heap.size + 1, 1, none⟩ = some (.int .i64 q) := r16'.cell (by rfl)
                        have z2 : w8.cell? ⟨wr.heap.size + 1, 2, none⟩ = some (.int .i64 r) := r16'.cell (by rfl)
                        have f0 := r16'.fz 0
                        have f1 := r16'.fz 1
                        have f2 := r16'.fz 2
                        go_wp2_with fail
                        go_meet
                        case rel =>
                          have hs : ∀ (V : World) (i : Nat) (v : Value) (g : Nat), g ≠ wr.heap.size + 1 → (V.setCell ⟨wr.heap.size + 1, i, none⟩ v).heap[g]? = V.heap[g]? := fun V i v g hg => Below.heap_setCell V ⟨wr.heap.size + 1, i, none⟩ v g hg
                          have hle : wr.heap.size ≤ wr.heap.size + 1 := Nat.le_succ _
                          exact ⟨rfl, ((r15'.keep (hs _ _ _ _ (by omega))).keep (hs _ _ _ _ (by omega))).keep (hs _ _ _ _ (by omega)), ((r16'.set 0 _).set 1 _).set 2 _, (((hb7.trans (hb8.mono hb7.size)).setCell (p := ⟨wr.heap.size + 1, 0, none⟩) hle _).setCell (p := ⟨wr.heap.size + 1, 1, none⟩) hle _).setCell (p := ⟨wr.heap.size + 1, 2, none⟩) hle _⟩
                      · have hkb : ((k : Int) == 2) = false := by simp; omega
                        go_wp2_with fail
                        go_meet
                        case rel => exact ⟨rfl, r15, by unfold atOf; rw [if_neg hk2]; exact r16, hb7⟩
                    case rest =>
                      clear r15 r16 hb7 HZ7
                      obtain ⟨rfl, r15, r16, hbc⟩ := hcut
                      obtain ⟨⟨p', q', r'⟩, hat⟩ : ∃ t, t = atOf (p, q, r) k := ⟨_, rfl⟩
                      have hcp := at_ok hcok k
                      rw [← hat] at r16 hcp
                      dsimp only at r16
                      have HAT := Lib.hid hat
                      clear hat
                      have hXc := hL.keep.trans (hbc.mono hL.keep.size)
                      have kN := shNearest_ok (x, y, z) (p', q', r') _ T wc (hsT _ hXc) hgT hcp
                      unfold gdV colV at kN
                      dsimp only at kN
                      have z0 : wc.cell? ⟨wr.heap.size, 0, none⟩ = some (.int .i64 x) := r15.cell (by rfl)
                      have z1 : wc.cell? ⟨wr.heap.size, 1, none⟩ = some (.int .i64 y) := r15.cell (by rfl)
                      have z2 : wc.cell? ⟨wr.heap.size, 2, none⟩ = some (.int .i64 z) := r15.cell (by rfl)
                      have z3 : wc.cell? ⟨wr.heap.size, 3, none⟩ = some (.slice (some ⟨b4, o4, none⟩) T.length cap4) := r15.cell (by rfl)
                      have y0 : wc.cell? ⟨wr.heap.size + 1, 0, none⟩ = some (.int .i64 p') := r16.cell (by rfl)
                      have y1 : wc.cell? ⟨wr.heap.size + 1, 1, none⟩ = some (.int .i64 q') := r16.cell (by rfl)
                      have y2 : wc.cell? ⟨wr.heap.size + 1, 2, none⟩ = some (.int .i64 r') := r16.cell (by rfl)
                      go_wp2_with fail
                      refine kN.mono ?_
                      rintro e wd ⟨⟨j, rfl, hj⟩, hbd⟩
                      clear kN z0 z1 z2 z3 y0 y1 y2
                      obtain ⟨sj, xj, yj, zj, htj, hmin⟩ := least_at hj
                      clear hj
                      have hjl : j < T.length := (List.getElem?_eq_some_iff.1 htj).1
                      have hjd : decide (T.length ≤ j) = false := by simp; omega
                      have hj0 : (0 : Int) ≤ j := by omega
                      have hj1 : (j : Int) < T.length := by omega
                      have hcj := (hgT.at_ j _ htj).2
                      have kk25 : ∀ V, Below W5.heap.size W5 V → RowK V 47 wr.heap.size [.int .i64 x, .int .i64 y, .int .i64 z, .slice (some ⟨b4, o4, none⟩) T.length cap4] → RowK V 44 (wr.heap.size + 1) [.int .i64 p', .int .i64 q', .int .i64 r'] → (V.cell? ⟨w1.heap.size, 0, none⟩ = some (.int .i64 x) ∧ V.cell? ⟨w1.heap.size, 1, none⟩ = some (.int .i64 y) ∧ V.cell? ⟨w1.heap.size, 2, none⟩ = some (.int .i64 z) ∧ V.cell? ⟨w1.heap.size, 3, none⟩ = some (.slice Au l.length cu)) ∧ V.cell? ⟨wr.heap.size, 3, none⟩ = some (.slice (some ⟨b4, o4, none⟩) T.length cap4) ∧ (V.cell? ⟨b4, o4 + j * 4, none⟩ = some (.string sj) ∧ V.cell? ⟨b4, o4 + j * 4 + 1, none⟩ = some (.int .i64 xj) ∧ V.cell? ⟨b4, o4 + j * 4 + 1 + 1, none⟩ = some (.int .i64 yj) ∧ V.cell? ⟨b4, o4 + j * 4 + 1 + 2, none⟩ = some (.int .i64 zj)) ∧ V.cell? ⟨wr.heap.size + 1, 0, none⟩ = some (.int .i64 p') ∧ V.cell? ⟨wr.heap.size + 1, 1, none⟩ = some (.int .i64 q') ∧ V.cell? ⟨wr.heap.size + 1, 2, none⟩ = some (.int .i64 r') := fun V h h15 h16 => by
                        obtain ⟨t0, t1, t2, t3⟩ := (hsT V h).tabAt hgT.pos j _ htj
                        exact ⟨(kk _ (hBk _ h)).1, h15.cell (by rfl), ⟨t0, t1, t2, t3⟩, h16.cell (by rfl), h16.cell (by rfl), h16.cell (by rfl)⟩
                      have kkd : ∀ V, Below wd.heap.size wd V → (V.cell? ⟨w1.heap.size, 0, none⟩ = some (.int .i64 x) ∧ V.cell? ⟨w1.heap.size, 1, none⟩ = some (.int .i64 y) ∧ V.cell? ⟨w1.heap.size, 2, none⟩ = some (.int .i64 z) ∧ V.cell? ⟨w1.heap.size, 3, none⟩ = some (.slice Au l.length cu)) ∧ V.cell? ⟨wr.heap.size, 3, none⟩ = some (.slice (some ⟨b4, o4, none⟩) T.length cap4) ∧ (V.cell? ⟨b4, o4 + j * 4, none⟩ = some (.string sj) ∧ V.cell? ⟨b4, o4 + j * 4 + 1, none⟩ = some (.int .i64 xj) ∧ V.cell? ⟨b4, o4 + j * 4 + 1 + 1, none⟩ = some (.int .i64 yj) ∧ V.cell? ⟨b4, o4 + j * 4 + 1 + 2, none⟩ = some (.int .i64 zj)) ∧ V.cell? ⟨wr.heap.size + 1, 0, none⟩ = some (.int .i64 p') ∧ V.cell? ⟨wr.heap.size + 1, 1, none⟩ = some (.int .i64 q') ∧ V.cell? ⟨wr.heap.size + 1, 2, none⟩ = some (.int .i64 r') := fun V h => kk25 V (hXc.trans ((hbd.trans (h.mono hbd.size)).mono hXc.size)) (r15.below (hbd.trans (h.mono hbd.size))) (r16.below (hbd.trans (h.mono hbd.size)))
                      have hHeld := kkd _ (Below.refl wd.heap.size wd).drew
                      have kD := fun W => refDist_ok (x, y, z) (xj, yj, zj) (p', q', r') (.slice Au l.length cu) W (wt_wide hgT.wt) (col_wide hcj) (col_wide hcp)
                      unfold gdV colV at kD
                      dsimp only at kD
                      obtain ⟨dn, hdn⟩ : ∃ dn, dn = distW (x, y, z) (xj, yj, zj) (p', q', r') := ⟨_, rfl⟩
                      rw [← hdn] at kD hmin
                      clear hdn
                      have z3 : wd.cell? ⟨wr.heap.size, 3, none⟩ = some (.slice (some ⟨b4, o4, none⟩) T.length cap4) := (r15.below hbd).cell (by rfl)
                      go_wp2_with fail
                      clear z3 hjd
                      refine wp_region_held_drew (S := fun V => (V.cell? ⟨w1.heap.size, 0, none⟩ = some (.int .i64 x) ∧ V.cell? ⟨w1.heap.size, 1, none⟩ = some (.int .i64 y) ∧ V.cell? ⟨w1.heap.size, 2, none⟩ = some (.int .i64 z) ∧ V.cell? ⟨w1.heap.size, 3, none⟩ = some (.slice Au l.length cu)) ∧ V.cell? ⟨wr.heap.size, 3, none⟩ = some (.slice (some ⟨b4, o4, none⟩) T.length cap4) ∧ (V.cell? ⟨b4, o4 + j * 4, none⟩ = some (.string sj) ∧ V.cell? ⟨b4, o4 + j * 4 + 1, none⟩ = some (.int .i64 xj) ∧ V.cell? ⟨b4, o4 + j * 4 + 1 + 1, none⟩ = some (.int .i64 yj) ∧ V.cell? ⟨b4, o4 + j * 4 + 1 + 2, none⟩ = some (.int .i64 zj)) ∧ V.cell? ⟨wr.heap.size + 1, 0, none⟩ = some (.int .i64 p') ∧ V.cell? ⟨wr.heap.size + 1, 1, none⟩ = some (.int .i64 q') ∧ V.cell? ⟨wr.heap.size + 1, 2, none⟩ = some (.int .i64 r')) (by kernel_rfl) hHeld (fun hHeld => ?_)
                      refine held_yes 0 (some 147) (.int .i64 k) rfl rfl (by kernel_rfl) (by kernel_rfl) (by kernel_rfl) (fun _ _ _ h => h) rfl (fun w' hS => by obtain ⟨⟨s0, s1, s2, s3⟩, s4, ⟨s5, s6, s7, s8⟩, s9, s10, s11⟩ := hS; go_simp) hHeld ?_
                      try simp only [Act.put, List.setIfInBounds_toArray, List.set_cons_zero, List.set_cons_succ]
                      refine held_yes 1 (some 148) (.agg #[.int .i64 x, .int .i64 y, .int .i64 z, .slice Au l.length cu]) rfl rfl (by kernel_rfl) (by kernel_rfl) (by kernel_rfl) (fun _ _ _ h => h) rfl (fun w' hS => by obtain ⟨⟨s0, s1, s2, s3⟩, s4, ⟨s5, s6, s7, s8⟩, s9, s10, s11⟩ := hS; go_simp) hHeld ?_
                      try simp only [Act.put, List.setIfInBounds_toArray, List.set_cons_zero, List.set_cons_succ]
                      refine held_yes 2 (some 149) (.pointer (some ⟨wr.heap.size, 3, none⟩)) rfl rfl (by kernel_rfl) (by kernel_rfl) (by kernel_rfl) (fun _ _ _ h => h) rfl (fun w' hS => by obtain ⟨⟨s0, s1, s2, s3⟩, s4, ⟨s5, s6, s7, s8⟩, s9, s10, s11⟩ := hS; go_simp) hHeld ?_
                      try simp only [Act.put, List.setIfInBounds_toArray, List.set_cons_zero, List.set_cons_succ]
                      refine held_yes 3 (some 150) (.slice (some ⟨b4, o4, none⟩) T.length cap4) rfl rfl (by kernel_rfl) (by kernel_rfl) (by kernel_rfl) (fun _ _ _ h => h) rfl (fun w' hS => by obtain ⟨⟨s0, s1, s2, s3⟩, s4, ⟨s5, s6, s7, s8⟩, s9, s10, s11⟩ := hS; go_simp) hHeld ?_
                      try simp only [Act.put, List.setIfInBounds_toArray, List.set_cons_zero, List.set_cons_succ]
                      refine held_yes 4 (some 151) (.int .i64 j) rfl rfl (by kernel_rfl) (by kernel_rfl) (by kernel_rfl) (fun _ _ _ h => h) rfl (fun w' hS => by obtain ⟨⟨s0, s1, s2, s3⟩, s4, ⟨s5, s6, s7, s8⟩, s9, s10, s11⟩ := hS; go_simp) hHeld ?_
                      try simp only [Act.put, List.setIfInBounds_toArray, List.set_cons_zero, List.set_cons_succ]
                      refine held_yes 5 (some 152) (.pointer (some ⟨b4, o4 + j * 4, none⟩)) rfl rfl (by kernel_rfl) (by kernel_rfl) (by kernel_rfl) (fun _ _ _ h => h) rfl (fun w' hS => by obtain ⟨⟨s0, s1, s2, s3⟩, s4, ⟨s5, s6, s7, s8⟩, s9, s10, s11⟩ := hS; go_simp) hHeld ?_
                      try simp only [Act.put, List.setIfInBounds_toArray, List.set_cons_zero, List.set_cons_succ]
                      refine held_yes 6 (some 153) (.pointer (some ⟨b4, o4 + j * 4 + 1, none⟩)) rfl rfl (by kernel_rfl) (by kernel_rfl) (by kernel_rfl) (fun _ _ _ h => h) rfl (fun w' hS => by obtain ⟨⟨s0, s1, s2, s3⟩, s4, ⟨s5, s6, s7, s8⟩, s9, s10, s11⟩ := hS; go_simp) hHeld ?_
                      try simp only [Act.put, List.setIfInBounds_toArray, List.set_cons_zero, List.set_cons_succ]
                      refine held_yes 7 (some 154) (.agg #[.int .i64 xj, .int .i64 yj, .int .i64 zj]) rfl rfl (by kernel_rfl) (by kernel_rfl) (by kernel_rfl) (fun _ _ _ h => h) rfl (fun w' hS => by obtain ⟨⟨s0, s1, s2, s3⟩, s4, ⟨s5, s6, s7, s8⟩, s9, s10, s11⟩ := hS; go_simp) hHeld ?_
                      try simp only [Act.put, List.setIfInBounds_toArray, List.set_cons_zero, List.set_cons_succ]
                      refine held_yes 8 (some 155) (.agg #[.int .i64 p', .int .i64 q', .int .i64 r']) rfl rfl (by kernel_rfl) (by kernel_rfl) (by kernel_rfl) (fun _ _ _ h => h) rfl (fun w' hS => by obtain ⟨⟨s0, s1, s2, s3⟩, s4, ⟨s5, s6, s7, s8⟩, s9, s10, s11⟩ := hS; go_simp) hHeld ?_
                      try simp only [Act.put, List.setIfInBounds_toArray, List.set_cons_zero, List.set_cons_succ]
                      refine wpAnyH_ready (rs := [9]) (by kernel_rfl) (by simp) ?_
                      refine AllReadyH.cons rfl (fun K hK => ?_) AllReadyH.nil
                      go_simp
                      refine (kD _).mono ?_
                      rintro e ve ⟨rfl, hbe⟩
                      have hbe2 := (Below.refl wd.heap.size wd).drew.trans hbe
                      go_wp2_with fail
                      refine hK.out _ _ (kkd _ hbe2) (fun hHeld => ?_)
                      clear hK K
                      try simp only [Act.put, List.setIfInBounds_toArray, List.set_cons_zero, List.set_cons_succ]
                      refine held_yes 10 (some 157) (.pointer (some ⟨W5.heap.size, k, none⟩)) rfl rfl (by kernel_rfl) (by kernel_rfl) (by kernel_rfl) (fun _ _ _ h => h) rfl (fun w' hS => by obtain ⟨⟨s0, s1, s2, s3⟩, s4, ⟨s5, s6, s7, s8⟩, s9, s10, s11⟩ := hS; go_simp) hHeld ?_
                      try simp only [Act.put, List.setIfInBounds_toArray, List.set_cons_zero, List.set_cons_succ]
                      have hbW := hbc.trans ((hbd.trans (hbe2.mono hbd.size)).mono hbc.size)
                      obtain ⟨⟨ov, hov⟩, hof⟩ := hL.old hkn hbW
                      have hput := hL.put_near hbW dn
                      refine wpAnyH_ready (rs := [11]) (by kernel_rfl) (by simp) ?_
                      refine AllReadyH.cons rfl (fun K hK => ?_) AllReadyH.nil
                      go_simp
                      obtain ⟨rnF, rmF, rgF, hbF, hun, hbig⟩ := hput
                      have r15F := (r15.below (hbd.trans (hbe2.mono hbd.size))).keep (hun _ (Nat.le_refl _))
                      have r16F := (r16.below (hbd.trans (hbe2.mono hbd.size))).keep (hun _ (Nat.le_succ _))
                      refine hK.out _ _ (kk25 _ hbF r15F r16F) (fun _ => ?_)
                      clear hK K hov hof hun hHeld kkd kD
                      generalize ve.setCell ⟨W5.heap.size, k, none⟩ (.int .i64 dn) = wf at rnF rmF rgF hbF hbig r15F r16F ⊢
                      have hnear : NearP (x, y, z) (p, q, r) l ft k dn := by unfold NearP; rw [← HT.out, ← HAT.out]; exact hmin
                      clear hmin hcj htj kk25 hbe hbe2 hbd hbW r15 r16 hj0 hj1 hjl
                      refine wpAnyH_done (by kernel_rfl) ?_ _
                      have z0 : wf.cell? ⟨wr.heap.size, 0, none⟩ = some (.int .i64 x) := r15F.cell (by rfl)
                      have z1 : wf.cell? ⟨wr.heap.size, 1, none⟩ = some (.int .i64 y) := r15F.cell (by rfl)
                      have z2 : wf.cell? ⟨wr.heap.size, 2, none⟩ = some (.int .i64 z) := r15F.cell (by rfl)
                      have z3 : wf.cell? ⟨wr.heap.size, 3, none⟩ = some (.slice (some ⟨b4, o4, none⟩) T.length cap4) := r15F.cell (by rfl)
                      have y0 : wf.cell? ⟨wr.heap.size + 1, 0, none⟩ = some (.int .i64 p') := r16F.cell (by rfl)
                      have y1 : wf.cell? ⟨wr.heap.size + 1, 1, none⟩ = some (.int .i64 q') := r16F.cell (by rfl)
                      have y2 : wf.cell? ⟨wr.heap.size + 1, 2, none⟩ = some (.int .i64 r') := r16F.cell (by rfl)
                      rcases Nat.lt_or_ge T.length 2 with hsh | hsh
                      · have kM := shBestErr_ok (x, y, z) (p', q', r') _ T wf (hsT _ hbF) hgT hcp hsh
                        have hLf := hL.round1 hkn hnear rnF rmF rgF hbF hbig (by rw [← HT.out]; exact hsh)
                        unfold gdV colV at kM
                        dsimp only at kM
                        go_wp2_with fail
                        refine kM.mono ?_
                        rintro e wg ⟨rfl, hbg⟩
                        clear kM z0 z1 z2 z3 y0 y1 y2
                        have r15G := r15F.below hbg
                        have z3 : wg.cell? ⟨wr.heap.size, 3, none⟩ = some (.slice (some ⟨b4, o4, none⟩) T.length cap4) := r15G.cell (by rfl)
                        have l15 := r15G.lt
                        have n15 := Nat.ne_of_lt l15
                        have hshd : decide ((T.length : Int) < 2) = true := by simp; omega
                        have hLg := (hLf.below hbg).below ((Below.refl wg.heap.size wg).alloc (Nat.le_refl _) (.cells #[.int .i64 0, .int .i64 0, .int .i64 0] 62))
                        have HK := Lib.hid (show k + 1 ≤ 4 from hkn)
                        have HM := Lib.hid (show 4 - (k + 1) < 4 - k by omega)
                        obtain ⟨wk1, wk2⟩ := wraps4 hkn
                        clear hLf hbg r15G
                        go_wp2_with fail
                        go_roundw
                        case rel => exact ⟨k + 1, _, _, HK.out, by simp, hLg⟩
                        case measure =>
                          show 4 - (((k : Int) + 1).toNat) < 4 - ((k : Int).toNat)
                          rw [show ((k : Int) + 1).toNat = k + 1 from rfl, show ((k : Int)).toNat = k from rfl]
                          exact HM.out
                      · have kM := shBest_ok (x, y, z) (p', q', r') _ T wf (hsT _ hbF) hgT hcp ⟨hsh, hT5⟩ (mixL_few ⟨hsh, hT5⟩)
                        unfold gdV colV at kM
                        dsimp only at kM
                        go_wp2_with fail
                        refine kM.mono ?_
                        rintro e wg ⟨⟨⟨qa, qb, qe⟩, rfl, hbest⟩, hbg⟩
                        clear kM z0 z1 z2 z3 y0 y1 y2
                        obtain ⟨hmm, i', k', hq1, hq2, hik, hk', he1, he7⟩ := best_min hbest
                        dsimp only at hq1 hq2 he1 he7
                        subst hq1 hq2
                        clear hbest
                        obtain ⟨⟨n1, c1⟩, ht1⟩ : ∃ t, T[i']? = some t := ⟨_, List.getElem?_eq_getElem (by omega)⟩
                        obtain ⟨⟨n2, c2⟩, ht2⟩ : ∃ t, T[k']? = some t := ⟨_, List.getElem?_eq_getElem hk'⟩
                        rw [colM_at ht1 ht2] at hmm
                        have r15G := r15F.below hbg
                        have r16G := r16F.below hbg
                        have hbG := hbF.trans (hbg.mono hbF.size)
                        have z3 : wg.cell? ⟨wr.heap.size, 3, none⟩ = some (.slice (some ⟨b4, o4, none⟩) T.length cap4) := r15G.cell (by rfl)
                        have l15 := r15G.lt
                        have n15 := Nat.ne_of_lt l15
                        have hshd : decide ((T.length : Int) < 2) = false := by simp; omega
                        have hd1 : decide (k' ≤ i') = false := by simp; omega
                        have hd2 : decide (T.length ≤ k') = false := by simp; omega
                        have hd3 : decide (qe < 1) = false := by simp; omega
                        have hd4 : decide (7 < qe) = false := by simp; omega
                        have hi'0 : (0 : Int) ≤ i' := by omega
                        obtain ⟨wh, hwh⟩ : ∃ wh, wh = wg.alloc (.cells #[.int .i64 i', .int .i64 k', .int .i64 qe] 62) := ⟨_, rfl⟩
                        have rM : RowK wh 62 wg.heap.size [.int .i64 i', .int .i64 k', .int .i64 qe] := by subst hwh; exact heap_alloc_new wg _
                        have hbh : Below wg.heap.size wg wh := by subst hwh; exact (Below.refl _ _).alloc (Nat.le_refl _) _
                        have HWH := Lib.hid hwh
                        clear hwh
                        go_wp2_with fail
                        rw [← HWH.out]
                        clear HWH z3 l15 n15 hshd hd1 hd2 hd3 hd4 hi'0
                        have hbH := hbG.trans (hbh.mono hbG.size)
                        have kk32 : ∀ V, Below wh.heap.size wh V → (V.cell? ⟨wr.heap.size, 0, none⟩ = some (.int .i64 x) ∧ V.cell? ⟨wr.heap.size, 1, none⟩ = some (.int .i64 y) ∧ V.cell? ⟨wr.heap.size, 2, none⟩ = some (.int .i64 z) ∧ V.cell? ⟨wr.heap.size, 3, none⟩ = some (.slice (some ⟨b4, o4, none⟩) T.length cap4)) ∧ (V.cell? ⟨wr.heap.size + 1, 0, none⟩ = some (.int .i64 p') ∧ V.cell? ⟨wr.heap.size + 1, 1, none⟩ = some (.int .i64 q') ∧ V.cell? ⟨wr.heap.size + 1, 2, none⟩ = some (.int .i64 r')) ∧ V.cell? ⟨wg.heap.size, 0, none⟩ = some (.int .i64 i') ∧ V.cell? ⟨wg.heap.size, 1, none⟩ = some (.int .i64 k') ∧ V.cell? ⟨wg.heap.size, 2, none⟩ = some (.int .i64 qe) := fun V h => by
                          have h2 := hbg.trans ((hbh.trans (h.mono hbh.size)).mono hbg.size)
                          exact ⟨⟨(r15F.below h2).cell (by rfl), (r15F.below h2).cell (by rfl), (r15F.below h2).cell (by rfl), (r15F.below h2).cell (by rfl)⟩, ⟨(r16F.below h2).cell (by rfl), (r16F.below h2).cell (by rfl), (r16F.below h2).cell (by rfl)⟩, (rM.below h).cell (by rfl), (rM.below h).cell (by rfl), (rM.below h).cell (by rfl)⟩
                        have hHeld := kk32 _ (Below.refl wh.heap.size wh).drew
                        have hsH : ∀ V, Below wh.heap.size wh V → SlT V (.slice (some ⟨b4, o4, none⟩) T.length cap4) T := fun V h => hsT V (hbH.trans (h.mono hbH.size))
                        have kSG := fun V (h : SlT V (.slice (some ⟨b4, o4, none⟩) T.length cap4) T) => shadeGuide_ok (x, y, z) _ T V h (by omega)
                        have kF := fun u V (h : SlT V u T) => refFar_ok (x, y, z) T u i' k' qe n1 n2 c1 c2 (p', q', r') V h ht1 ht2 ⟨he1, he7⟩ (hgT.at_ _ _ ht1).2 (hgT.at_ _ _ ht2).2 hcp (wt_wide hgT.wt)
                        unfold gdV at kSG kF
                        unfold colV at kF
                        dsimp only at kSG kF
                        obtain ⟨de, hde⟩ : ∃ de, de = distW (x, y, z) (mixC (8 - qe) c1 qe c2) (mul8 (p', q', r')) := ⟨_, rfl⟩
                        rw [← hde] at hmm
                        simp only [← hde] at kF
                        clear hde
                        refine wp_region_held_drew (S := fun V => (V.cell? ⟨wr.heap.size, 0, none⟩ = some (.int .i64 x) ∧ V.cell? ⟨wr.heap.size, 1, none⟩ = some (.int .i64 y) ∧ V.cell? ⟨wr.heap.size, 2, none⟩ = some (.int .i64 z) ∧ V.cell? ⟨wr.heap.size, 3, none⟩ = some (.slice (some ⟨b4, o4, none⟩) T.length cap4)) ∧ (V.cell? ⟨wr.heap.size + 1, 0, none⟩ = some (.int .i64 p') ∧ V.cell? ⟨wr.heap.size + 1, 1, none⟩ = some (.int .i64 q') ∧ V.cell? ⟨wr.heap.size + 1, 2, none⟩ = some (.int .i64 r')) ∧ V.cell? ⟨wg.heap.size, 0, none⟩ = some (.int .i64 i') ∧ V.cell? ⟨wg.heap.size, 1, none⟩ = some (.int .i64 k') ∧ V.cell? ⟨wg.heap.size, 2, none⟩ = some (.int .i64 qe)) (by kernel_rfl) hHeld (fun hHeld => ?_)
                        refine held_yes 0 (some 202) (.int .i64 k) rfl rfl (by kernel_rfl) (by kernel_rfl) (by kernel_rfl) (fun _ _ _ h => h) rfl (fun w' hS => by obtain ⟨⟨s0, s1, s2, s3⟩, ⟨s4, s5, s6⟩, s7, s8, s9⟩ := hS; go_simp) hHeld ?_
                        try simp only [Act.put, List.setIfInBounds_toArray, List.set_cons_zero, List.set_cons_succ]
                        refine held_yes 1 (some 203) (.agg #[.int .i64 x, .int .i64 y, .int .i64 z, .slice (some ⟨b4, o4, none⟩) T.length cap4]) rfl rfl (by kernel_rfl) (by kernel_rfl) (by kernel_rfl) (fun _ _ _ h => h) rfl (fun w' hS => by obtain ⟨⟨s0, s1, s2, s3⟩, ⟨s4, s5, s6⟩, s7, s8, s9⟩ := hS; go_simp) hHeld ?_
                        try simp only [Act.put, List.setIfInBounds_toArray, List.set_cons_zero, List.set_cons_succ]
                        refine held_yes 3 (some 205) (.agg #[.int .i64 i', .int .i64 k', .int .i64 qe]) rfl rfl (by kernel_rfl) (by kernel_rfl) (by kernel_rfl) (fun _ _ _ h => h) rfl (fun w' hS => by obtain ⟨⟨s0, s1, s2, s3⟩, ⟨s4, s5, s6⟩, s7, s8, s9⟩ := hS; go_simp) hHeld ?_
                        try simp only [Act.put, List.setIfInBounds_toArray, List.set_cons_zero, List.set_cons_succ]
                        refine held_yes 4 (some 206) (.agg #[.int .i64 p', .int .i64 q', .int .i64 r']) rfl rfl (by kernel_rfl) (by kernel_rfl) (by kernel_rfl) (fun _ _ _ h => h) rfl (fun w' hS => by obtain ⟨⟨s0, s1, s2, s3⟩, ⟨s4, s5, s6⟩, s7, s8, s9⟩ := hS; go_simp) hHeld ?_
                        try simp only [Act.put, List.setIfInBounds_toArray, List.set_cons_zero, List.set_cons_succ]
                        refine wpAnyH_ready (rs := [2]) (by kernel_rfl) (by simp) ?_
                        refine AllReadyH.cons rfl (fun K hK => ?_) AllReadyH.nil
                        go_simp
                        refine (kSG _ (hsH _ (Below.refl wh.heap.size wh).drew)).mono ?_
                        rintro e wi ⟨⟨uT, rfl, huT⟩, hbi⟩
                        have hbi2 := (Below.refl wh.heap.size wh).drew.trans hbi
                        obtain ⟨AT, cT, rfl⟩ := huT.sl.form
                        go_wp2_with fail
                        refine hK.out _ _ (kk32 _ hbi2) (fun hHeld => ?_)
                        clear hK K
                        try simp only [Act.put, List.setIfInBounds_toArray, List.set_cons_zero, List.set_cons_succ]
                        refine wpAnyH_ready (rs := [5]) (by kernel_rfl) (by simp) ?_
                        refine AllReadyH.cons rfl (fun K hK => ?_) AllReadyH.nil
                        go_simp
                        refine (kF _ _ huT.sl).mono ?_
                        rintro e wj ⟨rfl, hbj⟩
                        have hbj2 := hbi2.trans (hbj.mono hbi2.size)
                        go_wp2_with fail
                        refine hK.out _ _ (kk32 _ hbj2) (fun hHeld => ?_)
                        clear hK K
                        try simp only [Act.put, List.setIfInBounds_toArray, List.set_cons_zero, List.set_cons_succ]
                        refine held_yes 6 (some 208) (.pointer (some ⟨W5.heap.size + 1, k, none⟩)) rfl rfl (by kernel_rfl) (by kernel_rfl) (by kernel_rfl) (fun _ _ _ h => h) rfl (fun w' hS => by obtain ⟨⟨s0, s1, s2, s3⟩, ⟨s4, s5, s6⟩, s7, s8, s9⟩ := hS; go_simp) hHeld ?_
                        try simp only [Act.put, List.setIfInBounds_toArray, List.set_cons_zero, List.set_cons_succ]
                        have hbfj := hbg.trans ((hbh.trans (hbj2.mono hbh.size)).mono hbg.size)
                        obtain ⟨⟨ov, hov⟩, hof⟩ := old_mixed rmF hL.lm hkn hbfj
                        have hmix : MixP (x, y, z) (p, q, r) l ft k de := fun _ => by rw [← HT.out, ← HAT.out]; exact hmm
                        have hLn := hL.round2 hkn hnear hmix rnF rmF rgF hbF hbig hbfj (by rw [← HT.out]; exact hsh)
                        refine wpAnyH_ready (rs := [7]) (by kernel_rfl) (by simp) ?_
                        refine AllReadyH.cons rfl (fun K hK => ?_) AllReadyH.nil
                        go_simp
                        have hneA : ∀ g, W5.heap.size + 1 < g → (wj.setCell ⟨W5.heap.size + 1, k, none⟩ (.int .i64 de)).heap[g]? = wj.heap[g]? := fun g hg => Below.heap_setCell wj ⟨W5.heap.size + 1, k, none⟩ _ g (by show g ≠ W5.heap.size + 1; omega)
                        have hbg2 := hL.big
                        have hwg := Nat.le_trans hbig hbg.size
                        have q15 := (r15F.below hbfj).keep (hneA _ (by omega))
                        have q16 := (r16F.below hbfj).keep (hneA _ (by omega))
                        have qM := (rM.below hbj2).keep (hneA _ (by omega))
                        refine hK.out _ _ ⟨⟨q15.cell (by rfl), q15.cell (by rfl), q15.cell (by rfl), q15.cell (by rfl)⟩, ⟨q16.cell (by rfl), q16.cell (by rfl), q16.cell (by rfl)⟩, qM.cell (by rfl), qM.cell (by rfl), qM.cell (by rfl)⟩ (fun _ => ?_)
                        clear hK K hov hof hHeld kk32 q15 q16 qM hneA kF kSG
                        generalize wj.setCell ⟨W5.heap.size + 1, k, none⟩ (.int .i64 de) = wz at hLn ⊢
                        refine wpAnyH_done (by kernel_rfl) ?_ _
                        have HK := Lib.hid (show k + 1 ≤ 4 from hkn)
                        have HM := Lib.hid (show 4 - (k + 1) < 4 - k by omega)
                        obtain ⟨wk1, wk2⟩ := wraps4 hkn
                        go_wp2_with fail
                        go_roundw
                        case rel => exact ⟨k + 1, _, _, HK.out, by simp, hLn⟩
                        case measure =>
                          show 4 - (((k : Int) + 1).toNat) < 4 - ((k : Int).toNat)
                          rw [show ((k : Int) + 1).toNat = k + 1 from rfl, show ((k : Int)).toNat = k from rfl]
                          exact HM.out
                  · clear hgs
                    obtain ⟨na, nd, ma, me, r12, r13, hda, hem⟩ := hL.done hgok.pos
                    obtain ⟨-, ⟨a0, a1, a2, a3⟩, ⟨d0, d1, d2⟩, -⟩ := kk _ (hBk _ hL.keep)
                    have x0 : wr.cell? ⟨W5.heap.size, 0, none⟩ = some (.int .i64 na) := r12.cell (by rfl)
                    have x1 : wr.cell? ⟨W5.heap.size, 1, none⟩ = some (.int .i64 na) := r12.cell (by rfl)
                    have x2 : wr.cell? ⟨W5.heap.size, 2, none⟩ = some (.int .i64 na) := r12.cell (by rfl)
                    have x3 : wr.cell? ⟨W5.heap.size, 3, none⟩ = some (.int .i64 nd) := r12.cell (by rfl)
                    have y0 : wr.cell? ⟨W5.heap.size + 1, 0, none⟩ = some (.int .i64 ma) := r13.cell (by rfl)
                    have y1 : wr.cell? ⟨W5.heap.size + 1, 1, none⟩ = some (.int .i64 ma) := r13.cell (by rfl)
                    have y2 : wr.cell? ⟨W5.heap.size + 1, 2, none⟩ = some (.int .i64 ma) := r13.cell (by rfl)
                    have y3 : wr.cell? ⟨W5.heap.size + 1, 3, none⟩ = some (.int .i64 me) := r13.cell (by rfl)
                    have hd1 : decide (na < nd) = false := by simp; omega
                    have hbr := hL.keep
                    have lw : w.heap.size + 1 < wr.heap.size := by have := hL.big; omega
                    have lw0 : w.heap.size < wr.heap.size := by omega
                    have nw : w.heap.size + 1 ≠ wr.heap.size := Nat.ne_of_lt lw
                    have nw0 : w.heap.size ≠ wr.heap.size := Nat.ne_of_lt lw0
                    clear r12 r13 hL hk
                    obtain ⟨Wt, hWt⟩ : ∃ Wt, Wt = (wr.alloc (.cells #[.string ⟨#[97]⟩, .int .i64 p, .int .i64 q, .int .i64 r, .string ⟨#[98]⟩, .int .i64 p, .int .i64 q, .int .i64 r] 49)).alloc (.cells #[.int .i64 x, .int .i64 y, .int .i64 z, .slice (some ⟨wr.heap.size, 0, none⟩) 2 2] 47) := ⟨_, rfl⟩
                    obtain ⟨rT, rG, hbt, -⟩ := rows2 wr _ _ _ _ Wt hWt
                    have hst : SlT Wt (.slice (some ⟨wr.heap.size, 0, none⟩) 2 2) (twiceL (p, q, r)) := twice_row rT
                    have g0 : Wt.cell? ⟨wr.heap.size + 1, 0, none⟩ = some (.int .i64 x) := rG.cell (by rfl)
                    have hwo := hBw _ (hBk _ (hbr.trans (hbt.mono hbr.size)))
                    have kM := shBest_ok (x, y, z) (p, q, r) _ _ Wt hst (twice_ok hgok hcok) hcok (by simp [twiceL]) (mixL_few (by simp [twiceL]))
                    unfold gdV colV at kM
                    dsimp only at kM
                    have HWT := Lib.hid hWt
                    clear hWt rT rG hst g0 hbt
                    rcases Nat.lt_or_ge 1 l.length with h1l | h1l
                    · have hl1 : decide ((1 : Int) < (l.length : Int)) = true := by simp; omega
                      have hl2 : decide (1 < l.length) = true := by simp; omega
                      have hd2 : decide (ma < me) = false := by have := hem h1l; simp; omega
                      clear hem hda h1l
                      go_wp2_with fail
                      rw [← HWT.out]
                      refine kM.mono ?_
                      rintro e wu ⟨⟨⟨qa, qb, qe⟩, rfl, hbest⟩, hbu⟩
                      have hq := twice_best hbest
                      clear kM hbest
                      obtain ⟨rfl, rfl, rfl⟩ : qa = 0 ∧ qb = 1 ∧ qe = 1 := by simpa using hq
                      have hbo := hwo.trans (hbu.mono hwo.size)
                      have hbo2 := hbo.alloc hbo.size (.cells #[.int .i64 0, .int .i64 1, .int .i64 1] 62)
                      have keq := eq_mix
                      clear hq
                      go_wp2_with (go_at_call 9; refine (shadeShop_ok _).mono ?_; rintro e w9 ⟨rfl, hQ9⟩)
                      go_ret
                      exact ⟨rfl, hbo2.trans (hQ9.mono hbo2.size)⟩
                    · have hl1 : decide ((1 : Int) < (l.length : Int)) = false := by simp; omega
                      have hl2 : decide (1 < l.length) = false := by simp; omega
                      clear hem hda h1l
                      go_wp2_with fail
                      rw [← HWT.out]
                      refine kM.mono ?_
                      rintro e wu ⟨⟨⟨qa, qb, qe⟩, rfl, hbest⟩, hbu⟩
                      have hq := twice_best hbest
                      clear kM hbest
                      obtain ⟨rfl, rfl, rfl⟩ : qa = 0 ∧ qb = 1 ∧ qe = 1 := by simpa using hq
                      have hbo := hwo.trans (hbu.mono hwo.size)
                      have hbo2 := hbo.alloc hbo.size (.cells #[.int .i64 0, .int .i64 1, .int .i64 1] 62)
                      have keq := eq_mix
                      clear hq
                      go_wp2_with (go_at_call 9; refine (shadeShop_ok _).mono ?_; rintro e w9 ⟨rfl, hQ9⟩)
                      go_ret
                      exact ⟨rfl, hbo2.trans (hQ9.mono hbo2.size)⟩
              · have hnb : (nG != 0) = true := by simpa using hnG
                have hBo := hBw _ (kkg _ hP5.keep)
                go_wp2_with (go_at_call 9; refine (shadeShop_ok _).mono ?_; rintro e w9 ⟨rfl, hQ9⟩)
                go_ret
                exact ⟨rfl, hBo.trans (hQ9.mono hBo.size)⟩
end Go.Proofs
