import Derived.Test.YtpjmobpmpghpeaaGreatDoorNeaU
import Derived.Test.YtpjmobpmpghpeaaGreatDoorHeldF
import Derived.Test.YtpjmobpmpghpeaaGreatDoorNeaP
import Derived.Test.YtpjmobpmpghpeaaGreatDoorShdAD
import Derived.Test.YtpjmobpmpghpeaaGreatDoorAwkShop
import Derived.Deep.Cut
import Derived.Deep.CutRange
/- ShopNears: the walk. -/
namespace Go.Proofs
open Go.AM Go.RowKit Go.MapKept
set_option maxHeartbeats 16000000
set_option maxRecDepth 1000000
theorem colE_casesN (c : Cel) : (colE c = 0 ∧ ColOk c 0 255) ∨ (colE c = 3 ∧ ¬ ColOk c 0 255) := by
  unfold colE
  have h := sumE_ok c 0 255
  by_cases h0 : sumE c 0 255 = 0
  · exact .inl ⟨by rw [if_neg (by omega)], h.1 h0⟩
  · exact .inr ⟨by rw [if_pos h0], fun h2 => h0 (h.2 h2)⟩
theorem nears_in (ws a b : Cel) (v : Value) (l : List TabT) (w : World) (hgk : GOk gN gRows w) (hl : SlT w v l) (hn : l.length ≤ 1048576) :
    Calls Tryz.prog 6 #[gdV ws v, colV a, colV b] w fun e w' => e = .returned (.bool true) ∧ Below w.heap.size w w' := by
  obtain ⟨x, y, z⟩ := ws
  obtain ⟨p, q, r⟩ := a
  obtain ⟨m0, m1, m2⟩ := b
  obtain ⟨A, cap, rfl⟩ := hl.form
  have hc := colE_casesN (p, q, r)
  have hm := colE_casesN (m0, m1, m2)
  have kCc := fun W => refColour_ok (p, q, r) W
  have kCm := fun W => refColour_ok (m0, m1, m2) W
  have kSG := fun W (h : SlT W (.slice A l.length cap) l) => lawGuide_ok (x, y, z) _ l W h hn
  generalize colE (p, q, r) = ec at hc kCc
  generalize colE (m0, m1, m2) = em at hm kCm
  unfold gdV at kSG
  unfold colV at kCc kCm
  unfold gdV colV
  dsimp only at kSG kCc kCm ⊢
  obtain ⟨W0, hW⟩ : ∃ W0, W0 = ((w.alloc (.cells #[.int .i64 x, .int .i64 y, .int .i64 z, .slice A l.length cap] 50)).alloc (.cells #[.int .i64 p, .int .i64 q, .int .i64 r] 47)).alloc (.cells #[.int .i64 m0, .int .i64 m1, .int .i64 m2] 47) := ⟨_, rfl⟩
  have hB0 : Below w.heap.size w W0 := by subst hW; exact (((Below.refl _ _).alloc (Nat.le_refl _) _).alloc (by simp) _).alloc (by simp; omega) _
  have hz0 : W0.heap.size = w.heap.size + 1 + 1 + 1 := by subst hW; simp
  have rg : W0.heap[w.heap.size]? = some (.cells #[.int .i64 x, .int .i64 y, .int .i64 z, .slice A l.length cap] 50 (0, 0)) := by subst hW; exact (Below.heap_alloc _ _ _ (by simp; omega)).trans ((Below.heap_alloc _ _ _ (by simp)).trans (heap_alloc_new w _))
  have rc : W0.heap[w.heap.size + 1]? = some (.cells #[.int .i64 p, .int .i64 q, .int .i64 r] 47 (0, 0)) := by
    have := heap_alloc_new (w.alloc (.cells #[.int .i64 x, .int .i64 y, .int .i64 z, .slice A l.length cap] 50)) (.cells #[.int .i64 p, .int .i64 q, .int .i64 r] 47)
    rw [hW, Below.heap_alloc _ _ _ (by simp)]
    simpa using this
  have rm : W0.heap[w.heap.size + 1 + 1]? = some (.cells #[.int .i64 m0, .int .i64 m1, .int .i64 m2] 47 (0, 0)) := by
    have := heap_alloc_new ((w.alloc (.cells #[.int .i64 x, .int .i64 y, .int .i64 z, .slice A l.length cap] 50)).alloc (.cells #[.int .i64 p, .int .i64 q, .int .i64 r] 47)) (.cells #[.int .i64 m0, .int .i64 m1, .int .i64 m2] 47)
    rw [← hW] at this
    simpa using this
  obtain ⟨g0, g1, g2, g3⟩ := four_cells rg
  have hl0 := hl.below hB0
  go_enter Tryz.func6, Tryz.ntmps6
  go_wp2_with fail
  rw [← hW]
  clear hW
  refine (kSG _ hl0).mono ?_
  rintro e w1 ⟨⟨u, rfl, hu⟩, hQ1⟩
  obtain ⟨Au, cu, rfl⟩ := hu.sl.form
  clear kSG g0 g1 g2 g3 hl0
  obtain ⟨Wx, hWx⟩ : ∃ Wx, Wx = w1.alloc (.cells #[.int .i64 x, .int .i64 y, .int .i64 z, .slice Au l.length cu] 53) := ⟨_, rfl⟩
  have rx : Wx.heap[w1.heap.size]? = some (.cells #[.int .i64 x, .int .i64 y, .int .i64 z, .slice Au l.length cu] 53 (0, 0)) := by subst hWx; exact heap_alloc_new w1 _
  have hxl : w1.heap.size < Wx.heap.size := (Array.getElem?_eq_some_iff.1 rx).1
  have hQx : Below w1.heap.size w1 Wx := by subst hWx; exact (Below.refl _ _).alloc (Nat.le_refl _) _
  have hQ0 : Below W0.heap.size W0 Wx := hQ1.trans (hQx.mono hQ1.size)
  have hux : SlT Wx (.slice Au l.length cu) l := (hu.keep hQx).sl
  have hz1 : W0.heap.size ≤ Wx.heap.size := hQ0.size
  have hBx := hB0.trans (hQ0.mono hB0.size)
  have hBw : ∀ V, Below Wx.heap.size Wx V → Below w.heap.size w V := fun V h => hBx.trans (h.mono hBx.size)
  have ksl : ∀ V, Below Wx.heap.size Wx V → SlT V (.slice A l.length cap) l := fun V h => hl.below (hBw V h)
  have ksu : ∀ V, Below Wx.heap.size Wx V → SlT V (.slice Au l.length cu) l := fun V h => hux.below h
  have kk : ∀ V, Below Wx.heap.size Wx V → (V.cell? ⟨w1.heap.size, 0, none⟩ = some (.int .i64 x) ∧ V.cell? ⟨w1.heap.size, 1, none⟩ = some (.int .i64 y) ∧ V.cell? ⟨w1.heap.size, 2, none⟩ = some (.int .i64 z) ∧ V.cell? ⟨w1.heap.size, 3, none⟩ = some (.slice Au l.length cu)) ∧ (V.cell? ⟨w.heap.size, 0, none⟩ = some (.int .i64 x) ∧ V.cell? ⟨w.heap.size, 1, none⟩ = some (.int .i64 y) ∧ V.cell? ⟨w.heap.size, 2, none⟩ = some (.int .i64 z) ∧ V.cell? ⟨w.heap.size, 3, none⟩ = some (.slice A l.length cap)) ∧ (V.cell? ⟨w.heap.size + 1, 0, none⟩ = some (.int .i64 p) ∧ V.cell? ⟨w.heap.size + 1, 1, none⟩ = some (.int .i64 q) ∧ V.cell? ⟨w.heap.size + 1, 2, none⟩ = some (.int .i64 r)) ∧ (V.cell? ⟨w.heap.size + 1 + 1, 0, none⟩ = some (.int .i64 m0) ∧ V.cell? ⟨w.heap.size + 1 + 1, 1, none⟩ = some (.int .i64 m1) ∧ V.cell? ⟨w.heap.size + 1 + 1, 2, none⟩ = some (.int .i64 m2)) := fun V h => by
    have h0 := hQ0.trans (h.mono hQ0.size)
    exact ⟨four_cells ((h.block _ hxl).trans rx), four_cells ((h0.block _ (by omega)).trans rg), three_cellsS ((h0.block _ (by omega)).trans rc), three_cellsS ((h0.block _ (by omega)).trans rm)⟩
  have kShort := fun n W (h : SlT W (.slice Au l.length cu) l) => refShortG_ok (x, y, z) _ l n W h
  have kGd := fun W (h : SlT W (.slice Au l.length cu) l) => refGuide_ok (x, y, z) _ l W h
  unfold gdV at kShort kGd
  dsimp only at kShort kGd
  go_wp2_with fail
  rw [← hWx]
  clear hWx hux hu hQ1 hQx
  have hX := (Below.refl Wx.heap.size Wx).drew
  obtain ⟨b5, hb5⟩ : ∃ b5, decide ((6 : Int) < (l.length : Int)) = b5 := ⟨_, rfl⟩
  refine wp_region_held_drew (S := fun V => (V.cell? ⟨w1.heap.size, 0, none⟩ = some (.int .i64 x) ∧ V.cell? ⟨w1.heap.size, 1, none⟩ = some (.int .i64 y) ∧ V.cell? ⟨w1.heap.size, 2, none⟩ = some (.int .i64 z) ∧ V.cell? ⟨w1.heap.size, 3, none⟩ = some (.slice Au l.length cu)) ∧ (V.cell? ⟨w.heap.size, 0, none⟩ = some (.int .i64 x) ∧ V.cell? ⟨w.heap.size, 1, none⟩ = some (.int .i64 y) ∧ V.cell? ⟨w.heap.size, 2, none⟩ = some (.int .i64 z) ∧ V.cell? ⟨w.heap.size, 3, none⟩ = some (.slice A l.length cap)) ∧ (V.cell? ⟨w.heap.size + 1, 0, none⟩ = some (.int .i64 p) ∧ V.cell? ⟨w.heap.size + 1, 1, none⟩ = some (.int .i64 q) ∧ V.cell? ⟨w.heap.size + 1, 2, none⟩ = some (.int .i64 r)) ∧ (V.cell? ⟨w.heap.size + 1 + 1, 0, none⟩ = some (.int .i64 m0) ∧ V.cell? ⟨w.heap.size + 1 + 1, 1, none⟩ = some (.int .i64 m1) ∧ V.cell? ⟨w.heap.size + 1 + 1, 2, none⟩ = some (.int .i64 m2))) (by kernel_rfl) (kk _ hX) (fun hHeld => ?_)
  refine held_yes 0 (some 28) (.agg #[.int .i64 x, .int .i64 y, .int .i64 z, .slice Au l.length cu]) rfl rfl (by kernel_rfl) (by kernel_rfl) (by kernel_rfl) (fun _ _ _ h => h) rfl (fun w' hS => by obtain ⟨⟨s0, s1, s2, s3⟩, ⟨s4, s5, s6, s7⟩, ⟨s8, s9, s10⟩, s11, s12, s13⟩ := hS; go_simp) hHeld ?_
  try simp only [Act.put, List.setIfInBounds_toArray, List.set_cons_zero, List.set_cons_succ]
  refine wpAnyH_ready (rs := [1]) (by kernel_rfl) (by simp) ?_
  refine AllReadyH.cons rfl (fun K hK => ?_) AllReadyH.nil
  go_simp
  refine (kShort 6 _ (ksu _ hX)).mono ?_
  rintro e v1 ⟨⟨rs, rfl⟩, hB⟩
  replace hX := hX.trans (hB.mono hX.size)
  go_wp2_with fail
  refine hK.out _ _ (kk _ hX) (fun hHeld => ?_)
  clear hK K hB
  try simp only [Act.put, List.setIfInBounds_toArray, List.set_cons_zero, List.set_cons_succ]
  cases rs with
  | false =>
    refine held_yes 2 (some 30) (.bool true) rfl rfl (by kernel_rfl) (by kernel_rfl) (by kernel_rfl) (fun _ _ _ h => h) rfl (fun w' hS => by obtain ⟨⟨s0, s1, s2, s3⟩, ⟨s4, s5, s6, s7⟩, ⟨s8, s9, s10⟩, s11, s12, s13⟩ := hS; go_simp) hHeld ?_
    try simp only [Act.put, List.setIfInBounds_toArray, List.set_cons_zero, List.set_cons_succ]
    refine held_yes 3 (some 31) (.bool true) rfl rfl (by kernel_rfl) (by kernel_rfl) (by kernel_rfl) (fun _ _ _ h => h) rfl (fun w' hS => by obtain ⟨⟨s0, s1, s2, s3⟩, ⟨s4, s5, s6, s7⟩, ⟨s8, s9, s10⟩, s11, s12, s13⟩ := hS; go_simp) hHeld ?_
    try simp only [Act.put, List.setIfInBounds_toArray, List.set_cons_zero, List.set_cons_succ]
    refine held_no 4 (some 32) rfl rfl (by kernel_rfl) (by kernel_rfl) (by kernel_rfl) (fun _ _ _ h => h) rfl hHeld ?_
    try simp only [Act.put, List.setIfInBounds_toArray, List.set_cons_zero, List.set_cons_succ]
    refine held_no 5 (some 33) rfl rfl (by kernel_rfl) (by kernel_rfl) (by kernel_rfl) (fun _ _ _ h => h) rfl hHeld ?_
    try simp only [Act.put, List.setIfInBounds_toArray, List.set_cons_zero, List.set_cons_succ]
    refine held_no 6 (some 34) rfl rfl (by kernel_rfl) (by kernel_rfl) (by kernel_rfl) (fun _ _ _ h => h) rfl hHeld ?_
    try simp only [Act.put, List.setIfInBounds_toArray, List.set_cons_zero, List.set_cons_succ]
    refine held_no 7 (some 35) rfl rfl (by kernel_rfl) (by kernel_rfl) (by kernel_rfl) (fun _ _ _ h => h) rfl hHeld ?_
    try simp only [Act.put, List.setIfInBounds_toArray, List.set_cons_zero, List.set_cons_succ]
    refine held_yes 8 (some 36) (.bool true) rfl rfl (by kernel_rfl) (by kernel_rfl) (by kernel_rfl) (fun _ _ _ h => h) rfl (fun w' hS => by obtain ⟨⟨s0, s1, s2, s3⟩, ⟨s4, s5, s6, s7⟩, ⟨s8, s9, s10⟩, s11, s12, s13⟩ := hS; go_simp) hHeld ?_
    try simp only [Act.put, List.setIfInBounds_toArray, List.set_cons_zero, List.set_cons_succ]
    refine held_yes 9 (some 37) (.bool true) rfl rfl (by kernel_rfl) (by kernel_rfl) (by kernel_rfl) (fun _ _ _ h => h) rfl (fun w' hS => by obtain ⟨⟨s0, s1, s2, s3⟩, ⟨s4, s5, s6, s7⟩, ⟨s8, s9, s10⟩, s11, s12, s13⟩ := hS; go_simp) hHeld ?_
    try simp only [Act.put, List.setIfInBounds_toArray, List.set_cons_zero, List.set_cons_succ]
    refine held_no 10 (some 38) rfl rfl (by kernel_rfl) (by kernel_rfl) (by kernel_rfl) (fun _ _ _ h => h) rfl hHeld ?_
    try simp only [Act.put, List.setIfInBounds_toArray, List.set_cons_zero, List.set_cons_succ]
    refine held_no 11 (some 39) rfl rfl (by kernel_rfl) (by kernel_rfl) (by kernel_rfl) (fun _ _ _ h => h) rfl hHeld ?_
    try simp only [Act.put, List.setIfInBounds_toArray, List.set_cons_zero, List.set_cons_succ]
    refine held_no 12 (some 40) rfl rfl (by kernel_rfl) (by kernel_rfl) (by kernel_rfl) (fun _ _ _ h => h) rfl hHeld ?_
    try simp only [Act.put, List.setIfInBounds_toArray, List.set_cons_zero, List.set_cons_succ]
    refine held_no 13 (some 41) rfl rfl (by kernel_rfl) (by kernel_rfl) (by kernel_rfl) (fun _ _ _ h => h) rfl hHeld ?_
    try simp only [Act.put, List.setIfInBounds_toArray, List.set_cons_zero, List.set_cons_succ]
    refine held_no 14 (some 42) rfl rfl (by kernel_rfl) (by kernel_rfl) (by kernel_rfl) (fun _ _ _ h => h) rfl hHeld ?_
    try simp only [Act.put, List.setIfInBounds_toArray, List.set_cons_zero, List.set_cons_succ]
    refine held_no 15 (some 43) rfl rfl (by kernel_rfl) (by kernel_rfl) (by kernel_rfl) (fun _ _ _ h => h) rfl hHeld ?_
    try simp only [Act.put, List.setIfInBounds_toArray, List.set_cons_zero, List.set_cons_succ]
    refine held_no 16 (some 44) rfl rfl (by kernel_rfl) (by kernel_rfl) (by kernel_rfl) (fun _ _ _ h => h) rfl hHeld ?_
    try simp only [Act.put, List.setIfInBounds_toArray, List.set_cons_zero, List.set_cons_succ]
    refine held_no 17 (some 45) rfl rfl (by kernel_rfl) (by kernel_rfl) (by kernel_rfl) (fun _ _ _ h => h) rfl hHeld ?_
    try simp only [Act.put, List.setIfInBounds_toArray, List.set_cons_zero, List.set_cons_succ]
    refine held_no 18 (some 46) rfl rfl (by kernel_rfl) (by kernel_rfl) (by kernel_rfl) (fun _ _ _ h => h) rfl hHeld ?_
    try simp only [Act.put, List.setIfInBounds_toArray, List.set_cons_zero, List.set_cons_succ]
    refine held_yes 19 (some 47) (.bool true) rfl rfl (by kernel_rfl) (by kernel_rfl) (by kernel_rfl) (fun _ _ _ h => h) rfl (fun w' hS => by obtain ⟨⟨s0, s1, s2, s3⟩, ⟨s4, s5, s6, s7⟩, ⟨s8, s9, s10⟩, s11, s12, s13⟩ := hS; go_simp) hHeld ?_
    try simp only [Act.put, List.setIfInBounds_toArray, List.set_cons_zero, List.set_cons_succ]
    refine wpAnyH_done (by kernel_rfl) ?_ _
    have hBo := hBw _ hX
    go_wp2_with (go_at_call 9; refine (awake9_ok _ (hgk.below hBo)).mono ?_; rintro e w9 ⟨rfl, hQ9⟩)
    go_ret
    exact ⟨rfl, hBo.trans (hQ9.mono hBo.size)⟩
  | true =>
    refine held_yes 2 (some 30) (.bool false) rfl rfl (by kernel_rfl) (by kernel_rfl) (by kernel_rfl) (fun _ _ _ h => h) rfl (fun w' hS => by obtain ⟨⟨s0, s1, s2, s3⟩, ⟨s4, s5, s6, s7⟩, ⟨s8, s9, s10⟩, s11, s12, s13⟩ := hS; go_simp) hHeld ?_
    try simp only [Act.put, List.setIfInBounds_toArray, List.set_cons_zero, List.set_cons_succ]
    refine held_yes 3 (some 31) (.bool false) rfl rfl (by kernel_rfl) (by kernel_rfl) (by kernel_rfl) (fun _ _ _ h => h) rfl (fun w' hS => by obtain ⟨⟨s0, s1, s2, s3⟩, ⟨s4, s5, s6, s7⟩, ⟨s8, s9, s10⟩, s11, s12, s13⟩ := hS; go_simp) hHeld ?_
    try simp only [Act.put, List.setIfInBounds_toArray, List.set_cons_zero, List.set_cons_succ]
    refine held_yes 4 (some 32) (.pointer (some ⟨w.heap.size, 3, none⟩)) rfl rfl (by kernel_rfl) (by kernel_rfl) (by kernel_rfl) (fun _ _ _ h => h) rfl (fun w' hS => by obtain ⟨⟨s0, s1, s2, s3⟩, ⟨s4, s5, s6, s7⟩, ⟨s8, s9, s10⟩, s11, s12, s13⟩ := hS; go_simp) hHeld ?_
    try simp only [Act.put, List.setIfInBounds_toArray, List.set_cons_zero, List.set_cons_succ]
    refine held_yes 5 (some 33) (.slice A l.length cap) rfl rfl (by kernel_rfl) (by kernel_rfl) (by kernel_rfl) (fun _ _ _ h => h) rfl (fun w' hS => by obtain ⟨⟨s0, s1, s2, s3⟩, ⟨s4, s5, s6, s7⟩, ⟨s8, s9, s10⟩, s11, s12, s13⟩ := hS; go_simp) hHeld ?_
    try simp only [Act.put, List.setIfInBounds_toArray, List.set_cons_zero, List.set_cons_succ]
    refine held_yes 6 (some 34) (.int .i64 l.length) rfl rfl (by kernel_rfl) (by kernel_rfl) (by kernel_rfl) (fun _ _ _ h => h) rfl (fun w' hS => by obtain ⟨⟨s0, s1, s2, s3⟩, ⟨s4, s5, s6, s7⟩, ⟨s8, s9, s10⟩, s11, s12, s13⟩ := hS; go_simp) hHeld ?_
    try simp only [Act.put, List.setIfInBounds_toArray, List.set_cons_zero, List.set_cons_succ]
    refine held_yes 7 (some 35) (.bool b5) rfl rfl (by kernel_rfl) (by kernel_rfl) (by kernel_rfl) (fun _ _ _ h => h) rfl (fun w' hS => by obtain ⟨⟨s0, s1, s2, s3⟩, ⟨s4, s5, s6, s7⟩, ⟨s8, s9, s10⟩, s11, s12, s13⟩ := hS; go_simp) hHeld ?_
    try simp only [Act.put, List.setIfInBounds_toArray, List.set_cons_zero, List.set_cons_succ]
    refine held_yes 8 (some 36) (.bool b5) rfl rfl (by kernel_rfl) (by kernel_rfl) (by kernel_rfl) (fun _ _ _ h => h) rfl (fun w' hS => by obtain ⟨⟨s0, s1, s2, s3⟩, ⟨s4, s5, s6, s7⟩, ⟨s8, s9, s10⟩, s11, s12, s13⟩ := hS; go_simp) hHeld ?_
    try simp only [Act.put, List.setIfInBounds_toArray, List.set_cons_zero, List.set_cons_succ]
    refine held_yes 9 (some 37) (.bool b5) rfl rfl (by kernel_rfl) (by kernel_rfl) (by kernel_rfl) (fun _ _ _ h => h) rfl (fun w' hS => by obtain ⟨⟨s0, s1, s2, s3⟩, ⟨s4, s5, s6, s7⟩, ⟨s8, s9, s10⟩, s11, s12, s13⟩ := hS; go_simp) hHeld ?_
    try simp only [Act.put, List.setIfInBounds_toArray, List.set_cons_zero, List.set_cons_succ]
    cases b5 with
    | true =>
      refine held_no 10 (some 38) rfl rfl (by kernel_rfl) (by kernel_rfl) (by kernel_rfl) (fun _ _ _ h => h) rfl hHeld ?_
      try simp only [Act.put, List.setIfInBounds_toArray, List.set_cons_zero, List.set_cons_succ]
      refine held_no 11 (some 39) rfl rfl (by kernel_rfl) (by kernel_rfl) (by kernel_rfl) (fun _ _ _ h => h) rfl hHeld ?_
      try simp only [Act.put, List.setIfInBounds_toArray, List.set_cons_zero, List.set_cons_succ]
      refine held_no 12 (some 40) rfl rfl (by kernel_rfl) (by kernel_rfl) (by kernel_rfl) (fun _ _ _ h => h) rfl hHeld ?_
      try simp only [Act.put, List.setIfInBounds_toArray, List.set_cons_zero, List.set_cons_succ]
      refine held_no 13 (some 41) rfl rfl (by kernel_rfl) (by kernel_rfl) (by kernel_rfl) (fun _ _ _ h => h) rfl hHeld ?_
      try simp only [Act.put, List.setIfInBounds_toArray, List.set_cons_zero, List.set_cons_succ]
      refine held_no 14 (some 42) rfl rfl (by kernel_rfl) (by kernel_rfl) (by kernel_rfl) (fun _ _ _ h => h) rfl hHeld ?_
      try simp only [Act.put, List.setIfInBounds_toArray, List.set_cons_zero, List.set_cons_succ]
      refine held_no 15 (some 43) rfl rfl (by kernel_rfl) (by kernel_rfl) (by kernel_rfl) (fun _ _ _ h => h) rfl hHeld ?_
      try simp only [Act.put, List.setIfInBounds_toArray, List.set_cons_zero, List.set_cons_succ]
      refine held_no 16 (some 44) rfl rfl (by kernel_rfl) (by kernel_rfl) (by kernel_rfl) (fun _ _ _ h => h) rfl hHeld ?_
      try simp only [Act.put, List.setIfInBounds_toArray, List.set_cons_zero, List.set_cons_succ]
      refine held_no 17 (some 45) rfl rfl (by kernel_rfl) (by kernel_rfl) (by kernel_rfl) (fun _ _ _ h => h) rfl hHeld ?_
      try simp only [Act.put, List.setIfInBounds_toArray, List.set_cons_zero, List.set_cons_succ]
      refine held_no 18 (some 46) rfl rfl (by kernel_rfl) (by kernel_rfl) (by kernel_rfl) (fun _ _ _ h => h) rfl hHeld ?_
      try simp only [Act.put, List.setIfInBounds_toArray, List.set_cons_zero, List.set_cons_succ]
      refine held_yes 19 (some 47) (.bool true) rfl rfl (by kernel_rfl) (by kernel_rfl) (by kernel_rfl) (fun _ _ _ h => h) rfl (fun w' hS => by obtain ⟨⟨s0, s1, s2, s3⟩, ⟨s4, s5, s6, s7⟩, ⟨s8, s9, s10⟩, s11, s12, s13⟩ := hS; go_simp) hHeld ?_
      try simp only [Act.put, List.setIfInBounds_toArray, List.set_cons_zero, List.set_cons_succ]
      refine wpAnyH_done (by kernel_rfl) ?_ _
      have hBo := hBw _ hX
      go_wp2_with (go_at_call 9; refine (awake9_ok _ (hgk.below hBo)).mono ?_; rintro e w9 ⟨rfl, hQ9⟩)
      go_ret
      exact ⟨rfl, hBo.trans (hQ9.mono hBo.size)⟩
    | false =>
      refine held_yes 10 (some 38) (.agg #[.int .i64 x, .int .i64 y, .int .i64 z, .slice Au l.length cu]) rfl rfl (by kernel_rfl) (by kernel_rfl) (by kernel_rfl) (fun _ _ _ h => h) rfl (fun w' hS => by obtain ⟨⟨s0, s1, s2, s3⟩, ⟨s4, s5, s6, s7⟩, ⟨s8, s9, s10⟩, s11, s12, s13⟩ := hS; go_simp) hHeld ?_
      try simp only [Act.put, List.setIfInBounds_toArray, List.set_cons_zero, List.set_cons_succ]
      refine held_yes 12 (some 40) (.agg #[.int .i64 p, .int .i64 q, .int .i64 r]) rfl rfl (by kernel_rfl) (by kernel_rfl) (by kernel_rfl) (fun _ _ _ h => h) rfl (fun w' hS => by obtain ⟨⟨s0, s1, s2, s3⟩, ⟨s4, s5, s6, s7⟩, ⟨s8, s9, s10⟩, s11, s12, s13⟩ := hS; go_simp) hHeld ?_
      try simp only [Act.put, List.setIfInBounds_toArray, List.set_cons_zero, List.set_cons_succ]
      refine held_yes 15 (some 43) (.agg #[.int .i64 m0, .int .i64 m1, .int .i64 m2]) rfl rfl (by kernel_rfl) (by kernel_rfl) (by kernel_rfl) (fun _ _ _ h => h) rfl (fun w' hS => by obtain ⟨⟨s0, s1, s2, s3⟩, ⟨s4, s5, s6, s7⟩, ⟨s8, s9, s10⟩, s11, s12, s13⟩ := hS; go_simp) hHeld ?_
      try simp only [Act.put, List.setIfInBounds_toArray, List.set_cons_zero, List.set_cons_succ]
      refine wpAnyH_ready (rs := [11]) (by kernel_rfl) (by simp) ?_
      refine AllReadyH.cons rfl (fun K hK => ?_) AllReadyH.nil
      go_simp
      refine (kGd _ (ksu _ hX)).mono ?_
      rintro e v11 ⟨n, rfl, hn0, hn12, hok, hB⟩
      replace hX := hX.trans (hB.mono hX.size)
      go_wp2_with fail
      refine hK.out _ _ (kk _ hX) (fun hHeld => ?_)
      clear hK K hB
      try simp only [Act.put, List.setIfInBounds_toArray, List.set_cons_zero, List.set_cons_succ]
      have we1 := wrap64_small (n := n + ec) (by rcases hc with h | h <;> omega)
      have we2 := wrap_small (n := n + ec) (by rcases hc with h | h <;> omega)
      have we3 := wrap64_small (n := n + ec + em) (by rcases hc with h | h <;> rcases hm with h2 | h2 <;> omega)
      have we4 := wrap_small (n := n + ec + em) (by rcases hc with h | h <;> rcases hm with h2 | h2 <;> omega)
      refine wpAnyH_ready (rs := [13]) (by kernel_rfl) (by simp) ?_
      refine AllReadyH.cons rfl (fun K hK => ?_) AllReadyH.nil
      go_simp
      refine (kCc _).mono ?_
      rintro e v13 ⟨rfl, hB⟩
      replace hX := hX.trans (hB.mono hX.size)
      go_wp2_with fail
      refine hK.out _ _ (kk _ hX) (fun hHeld => ?_)
      clear hK K hB
      try simp only [Act.put, List.setIfInBounds_toArray, List.set_cons_zero, List.set_cons_succ]
      refine held_yes 14 (some 42) (.int .i64 (n + ec)) rfl rfl (by kernel_rfl) (by kernel_rfl) (by kernel_rfl) (fun _ _ _ h => h) rfl (fun w' hS => by obtain ⟨⟨s0, s1, s2, s3⟩, ⟨s4, s5, s6, s7⟩, ⟨s8, s9, s10⟩, s11, s12, s13⟩ := hS; go_simp) hHeld ?_
      try simp only [Act.put, List.setIfInBounds_toArray, List.set_cons_zero, List.set_cons_succ]
      refine wpAnyH_ready (rs := [16]) (by kernel_rfl) (by simp) ?_
      refine AllReadyH.cons rfl (fun K hK => ?_) AllReadyH.nil
      go_simp
      refine (kCm _).mono ?_
      rintro e v16 ⟨rfl, hB⟩
      replace hX := hX.trans (hB.mono hX.size)
      go_wp2_with fail
      refine hK.out _ _ (kk _ hX) (fun hHeld => ?_)
      clear hK K hB
      try simp only [Act.put, List.setIfInBounds_toArray, List.set_cons_zero, List.set_cons_succ]
      refine held_yes 17 (some 45) (.int .i64 (n + ec + em)) rfl rfl (by kernel_rfl) (by kernel_rfl) (by kernel_rfl) (fun _ _ _ h => h) rfl (fun w' hS => by obtain ⟨⟨s0, s1, s2, s3⟩, ⟨s4, s5, s6, s7⟩, ⟨s8, s9, s10⟩, s11, s12, s13⟩ := hS; go_simp) hHeld ?_
      try simp only [Act.put, List.setIfInBounds_toArray, List.set_cons_zero, List.set_cons_succ]
      obtain ⟨bs, hbs⟩ : ∃ bs, (n + ec + em != 0) = bs := ⟨_, rfl⟩
      refine held_yes 18 (some 46) (.bool bs) rfl rfl (by kernel_rfl) (by kernel_rfl) (by kernel_rfl) (fun _ _ _ h => h) rfl (fun w' hS => by obtain ⟨⟨s0, s1, s2, s3⟩, ⟨s4, s5, s6, s7⟩, ⟨s8, s9, s10⟩, s11, s12, s13⟩ := hS; go_simp) hHeld ?_
      try simp only [Act.put, List.setIfInBounds_toArray, List.set_cons_zero, List.set_cons_succ]
      refine held_yes 19 (some 47) (.bool bs) rfl rfl (by kernel_rfl) (by kernel_rfl) (by kernel_rfl) (fun _ _ _ h => h) rfl (fun w' hS => by obtain ⟨⟨s0, s1, s2, s3⟩, ⟨s4, s5, s6, s7⟩, ⟨s8, s9, s10⟩, s11, s12, s13⟩ := hS; go_simp) hHeld ?_
      try simp only [Act.put, List.setIfInBounds_toArray, List.set_cons_zero, List.set_cons_succ]
      cases bs with
      | true =>
        refine wpAnyH_done (by kernel_rfl) ?_ _
        have hBo := hBw _ hX
        go_wp2_with (go_at_call 9; refine (awake9_ok _ (hgk.below hBo)).mono ?_; rintro e w9 ⟨rfl, hQ9⟩)
        go_ret
        exact ⟨rfl, hBo.trans (hQ9.mono hBo.size)⟩
      | false =>
        have hs0 : n + ec + em = 0 := by simpa using hbs
        have hgok : GuideOk (x, y, z) l := hok (by rcases hc with h | h <;> rcases hm with h2 | h2 <;> omega)
        have hcok : ColOk (p, q, r) 0 255 := by rcases hc with h | h <;> rcases hm with h2 | h2 <;> first | exact h.2 | (exfalso; omega)
        have hmok : ColOk (m0, m1, m2) 0 255 := by rcases hc with h | h <;> rcases hm with h2 | h2 <;> first | exact h2.2 | (exfalso; omega)
        have hl5 : l.length ≤ 6 := by simp at hb5; omega
        refine wpAnyH_done (by kernel_rfl) ?_ _
        clear hbs we1 we2 we3 we4 hs0 hok hn0 hn12 hc hm kCc kCm kShort hHeld hb5
        obtain ⟨b0, o0, rfl, -, -⟩ := hl.addr hgok.pos
        have hwt : ColOk (x, y, z) 1 100 := hgok.wt
        have hdp := dist_pos (a := (m0, m1, m2)) (b := (p, q, r)) hwt
        have kD1 := fun W (h : SlT W (.slice (some ⟨b0, o0, none⟩) l.length cap) l) => shDistance_ok (x, y, z) (p, q, r) (m0, m1, m2) _ l W h hgok hcok hmok
        have kD2 := fun W (h : SlT W (.slice (some ⟨b0, o0, none⟩) l.length cap) l) => shDistance_ok (x, y, z) (m0, m1, m2) (p, q, r) _ l W h hgok hmok hcok
        have kNe := fun W (h : SlT W (.slice (some ⟨b0, o0, none⟩) l.length cap) l) => shNearest_ok (x, y, z) (p, q, r) _ l W h hgok hcok
        rw [dist_sym] at kD2
        generalize distW (x, y, z) (m0, m1, m2) (p, q, r) = d at kD1 kD2 hdp
        unfold gdV colV at kD1 kD2 kNe
        dsimp only at kD1 kD2 kNe
        obtain ⟨⟨s0, s1, s2, s3⟩, ⟨s4, s5, s6, s7⟩, ⟨s8, s9, s10⟩, s11, s12, s13⟩ := kk _ hX
        go_wp2_with fail
        refine (kD1 _ (ksl _ hX)).mono ?_
        rintro e V1 ⟨rfl, hB⟩
        replace hX := hX.trans (hB.mono hX.size)
        clear hB s0 s1 s2 s3 s4 s5 s6 s7 s8 s9 s10 s11 s12 s13
        obtain ⟨⟨s0, s1, s2, s3⟩, ⟨s4, s5, s6, s7⟩, ⟨s8, s9, s10⟩, s11, s12, s13⟩ := kk _ hX
        go_wp2_with fail
        refine (kD2 _ (ksl _ hX)).mono ?_
        rintro e V2 ⟨rfl, hB⟩
        replace hX := hX.trans (hB.mono hX.size)
        clear hB s0 s1 s2 s3 s4 s5 s6 s7 s8 s9 s10 s11 s12 s13
        obtain ⟨⟨s0, s1, s2, s3⟩, ⟨s4, s5, s6, s7⟩, ⟨s8, s9, s10⟩, s11, s12, s13⟩ := kk _ hX
        go_wp2_with fail
        refine (kNe _ (ksl _ hX)).mono ?_
        rintro e V3 ⟨⟨n1, rfl, hL1⟩, hB⟩
        replace hX := hX.trans (hB.mono hX.size)
        clear hB s0 s1 s2 s3 s4 s5 s6 s7 s8 s9 s10 s11 s12 s13 kD1 kD2 kNe
        obtain ⟨⟨s0, s1, s2, s3⟩, ⟨s4, s5, s6, s7⟩, ⟨s8, s9, s10⟩, s11, s12, s13⟩ := kk _ hX
        have heq := fun W => equal_col (p, q, r) (m0, m1, m2) W
        have hz : (d == 0) = decide ((p, q, r) = (m0, m1, m2)) := by
          rw [Bool.eq_iff_iff]
          simp only [beq_iff_eq, decide_eq_true_eq]
          exact hdp.2.trans eq_comm
        unfold colV at heq
        dsimp only at heq
        generalize decide ((p, q, r) = (m0, m1, m2)) = bz at heq hz
        have hd0 : decide (d < 0) = false := decide_eq_false (by omega)
        have hnl : n1 < l.length := by
          obtain ⟨c, h1, -, -⟩ := hL1
          have := (List.getElem?_eq_some_iff.1 h1).1
          simpa using this
        have hn1 : decide ((n1 : Int) < 0) = false := decide_eq_false (by omega)
        have hn2 : decide ((l.length : Int) ≤ (n1 : Int)) = false := decide_eq_false (by omega)
        clear hdp
        go_wp2_with fail
        have htA : ∀ V, Below Wx.heap.size Wx V → TabAt V b0 o0 l := fun V h => by
          obtain ⟨b', o', hA', -, hT⟩ := (ksl V h).addr hgok.pos
          injection hA' with hA'
          injection hA' with e1 e2
          subst e1 e2
          exact hT
        obtain ⟨⟨ns, nx, ny, nz⟩, hcn⟩ : ∃ t, l[n1]? = some t := ⟨_, List.getElem?_eq_getElem hnl⟩
        have hcnok : ColOk (nx, ny, nz) 0 255 := (hgok.at_ _ _ hcn).2
        have hDX := hX.drew
        obtain ⟨t0, t1, t2, t3⟩ := htA _ hDX n1 _ hcn
        dsimp only at t0 t1 t2 t3
        have hi0 : (0 : Int) ≤ n1 := by omega
        have hi1 : (n1 : Int) < l.length := by omega
        have kD3 := fun W (h : SlT W (.slice (some ⟨b0, o0, none⟩) l.length cap) l) => shDistance_ok (x, y, z) (nx, ny, nz) (p, q, r) _ l W h hgok hcnok hcok
        rw [dist_sym] at kD3
        obtain ⟨own, hown⟩ : ∃ own, own = distW (x, y, z) (nx, ny, nz) (p, q, r) := ⟨_, rfl⟩
        rw [← hown] at kD3
        unfold gdV colV at kD3
        dsimp only at kD3
        have HO := Lib.hid hown
        have HCN := Lib.hid hcn
        clear hown heq hz hd0 hn1 hn2 hcn t0 t1 t2 t3 hDX s0 s1 s2 s3 s4 s5 s6 s7 s8 s9 s10 s11 s12 s13
        have kt : ∀ V, Below Wx.heap.size Wx V → ((V.cell? ⟨w1.heap.size, 0, none⟩ = some (.int .i64 x) ∧ V.cell? ⟨w1.heap.size, 1, none⟩ = some (.int .i64 y) ∧ V.cell? ⟨w1.heap.size, 2, none⟩ = some (.int .i64 z) ∧ V.cell? ⟨w1.heap.size, 3, none⟩ = some (.slice Au l.length cu)) ∧ (V.cell? ⟨w.heap.size, 0, none⟩ = some (.int .i64 x) ∧ V.cell? ⟨w.heap.size, 1, none⟩ = some (.int .i64 y) ∧ V.cell? ⟨w.heap.size, 2, none⟩ = some (.int .i64 z) ∧ V.cell? ⟨w.heap.size, 3, none⟩ = some (.slice (some ⟨b0, o0, none⟩) l.length cap)) ∧ (V.cell? ⟨w.heap.size + 1, 0, none⟩ = some (.int .i64 p) ∧ V.cell? ⟨w.heap.size + 1, 1, none⟩ = some (.int .i64 q) ∧ V.cell? ⟨w.heap.size + 1, 2, none⟩ = some (.int .i64 r)) ∧ (V.cell? ⟨w.heap.size + 1 + 1, 0, none⟩ = some (.int .i64 m0) ∧ V.cell? ⟨w.heap.size + 1 + 1, 1, none⟩ = some (.int .i64 m1) ∧ V.cell? ⟨w.heap.size + 1 + 1, 2, none⟩ = some (.int .i64 m2))) ∧ (V.cell? ⟨b0, o0 + n1 * 4, none⟩ = some (.string ns) ∧ V.cell? ⟨b0, o0 + n1 * 4 + 1, none⟩ = some (.int .i64 nx) ∧ V.cell? ⟨b0, o0 + n1 * 4 + 2, none⟩ = some (.int .i64 ny) ∧ V.cell? ⟨b0, o0 + n1 * 4 + 3, none⟩ = some (.int .i64 nz)) := fun V h => ⟨kk V h, htA V h n1 _ HCN.out⟩
        replace hX := hX.drew
        refine wp_region_held_drew (S := fun V => ((V.cell? ⟨w1.heap.size, 0, none⟩ = some (.int .i64 x) ∧ V.cell? ⟨w1.heap.size, 1, none⟩ = some (.int .i64 y) ∧ V.cell? ⟨w1.heap.size, 2, none⟩ = some (.int .i64 z) ∧ V.cell? ⟨w1.heap.size, 3, none⟩ = some (.slice Au l.length cu)) ∧ (V.cell? ⟨w.heap.size, 0, none⟩ = some (.int .i64 x) ∧ V.cell? ⟨w.heap.size, 1, none⟩ = some (.int .i64 y) ∧ V.cell? ⟨w.heap.size, 2, none⟩ = some (.int .i64 z) ∧ V.cell? ⟨w.heap.size, 3, none⟩ = some (.slice (some ⟨b0, o0, none⟩) l.length cap)) ∧ (V.cell? ⟨w.heap.size + 1, 0, none⟩ = some (.int .i64 p) ∧ V.cell? ⟨w.heap.size + 1, 1, none⟩ = some (.int .i64 q) ∧ V.cell? ⟨w.heap.size + 1, 2, none⟩ = some (.int .i64 r)) ∧ (V.cell? ⟨w.heap.size + 1 + 1, 0, none⟩ = some (.int .i64 m0) ∧ V.cell? ⟨w.heap.size + 1 + 1, 1, none⟩ = some (.int .i64 m1) ∧ V.cell? ⟨w.heap.size + 1 + 1, 2, none⟩ = some (.int .i64 m2))) ∧ (V.cell? ⟨b0, o0 + n1 * 4, none⟩ = some (.string ns) ∧ V.cell? ⟨b0, o0 + n1 * 4 + 1, none⟩ = some (.int .i64 nx) ∧ V.cell? ⟨b0, o0 + n1 * 4 + 2, none⟩ = some (.int .i64 ny) ∧ V.cell? ⟨b0, o0 + n1 * 4 + 3, none⟩ = some (.int .i64 nz))) (by kernel_rfl) (kt _ hX) (fun hHeld => ?_)
        refine held_yes 0 (some 108) (.agg #[.int .i64 x, .int .i64 y, .int .i64 z, .slice (some ⟨b0, o0, none⟩) l.length cap]) rfl rfl (by kernel_rfl) (by kernel_rfl) (by kernel_rfl) (fun _ _ _ h => h) rfl (fun w' hS => by obtain ⟨⟨⟨s0, s1, s2, s3⟩, ⟨s4, s5, s6, s7⟩, ⟨s8, s9, s10⟩, s11, s12, s13⟩, t0, t1, t2, t3⟩ := hS; go_simp) hHeld ?_
        try simp only [Act.put, List.setIfInBounds_toArray, List.set_cons_zero, List.set_cons_succ]
        refine held_yes 1 (some 109) (.pointer (some ⟨w.heap.size, 3, none⟩)) rfl rfl (by kernel_rfl) (by kernel_rfl) (by kernel_rfl) (fun _ _ _ h => h) rfl (fun w' hS => by obtain ⟨⟨⟨s0, s1, s2, s3⟩, ⟨s4, s5, s6, s7⟩, ⟨s8, s9, s10⟩, s11, s12, s13⟩, t0, t1, t2, t3⟩ := hS; go_simp) hHeld ?_
        try simp only [Act.put, List.setIfInBounds_toArray, List.set_cons_zero, List.set_cons_succ]
        refine held_yes 2 (some 110) (.slice (some ⟨b0, o0, none⟩) l.length cap) rfl rfl (by kernel_rfl) (by kernel_rfl) (by kernel_rfl) (fun _ _ _ h => h) rfl (fun w' hS => by obtain ⟨⟨⟨s0, s1, s2, s3⟩, ⟨s4, s5, s6, s7⟩, ⟨s8, s9, s10⟩, s11, s12, s13⟩, t0, t1, t2, t3⟩ := hS; go_simp) hHeld ?_
        try simp only [Act.put, List.setIfInBounds_toArray, List.set_cons_zero, List.set_cons_succ]
        refine held_yes 3 (some 111) (.int .i64 n1) rfl rfl (by kernel_rfl) (by kernel_rfl) (by kernel_rfl) (fun _ _ _ h => h) rfl (fun w' hS => by obtain ⟨⟨⟨s0, s1, s2, s3⟩, ⟨s4, s5, s6, s7⟩, ⟨s8, s9, s10⟩, s11, s12, s13⟩, t0, t1, t2, t3⟩ := hS; go_simp) hHeld ?_
        try simp only [Act.put, List.setIfInBounds_toArray, List.set_cons_zero, List.set_cons_succ]
        refine held_yes 4 (some 112) (.pointer (some ⟨b0, o0 + n1 * 4, none⟩)) rfl rfl (by kernel_rfl) (by kernel_rfl) (by kernel_rfl) (fun _ _ _ h => h) rfl (fun w' hS => by obtain ⟨⟨⟨s0, s1, s2, s3⟩, ⟨s4, s5, s6, s7⟩, ⟨s8, s9, s10⟩, s11, s12, s13⟩, t0, t1, t2, t3⟩ := hS; go_simp) hHeld ?_
        try simp only [Act.put, List.setIfInBounds_toArray, List.set_cons_zero, List.set_cons_succ]
        refine held_yes 5 (some 113) (.pointer (some ⟨b0, o0 + n1 * 4 + 1, none⟩)) rfl rfl (by kernel_rfl) (by kernel_rfl) (by kernel_rfl) (fun _ _ _ h => h) rfl (fun w' hS => by obtain ⟨⟨⟨s0, s1, s2, s3⟩, ⟨s4, s5, s6, s7⟩, ⟨s8, s9, s10⟩, s11, s12, s13⟩, t0, t1, t2, t3⟩ := hS; go_simp) hHeld ?_
        try simp only [Act.put, List.setIfInBounds_toArray, List.set_cons_zero, List.set_cons_succ]
        refine held_yes 6 (some 114) (.agg #[.int .i64 nx, .int .i64 ny, .int .i64 nz]) rfl rfl (by kernel_rfl) (by kernel_rfl) (by kernel_rfl) (fun _ _ _ h => h) rfl (fun w' hS => by obtain ⟨⟨⟨s0, s1, s2, s3⟩, ⟨s4, s5, s6, s7⟩, ⟨s8, s9, s10⟩, s11, s12, s13⟩, t0, t1, t2, t3⟩ := hS; go_simp) hHeld ?_
        try simp only [Act.put, List.setIfInBounds_toArray, List.set_cons_zero, List.set_cons_succ]
        refine held_yes 7 (some 115) (.agg #[.int .i64 p, .int .i64 q, .int .i64 r]) rfl rfl (by kernel_rfl) (by kernel_rfl) (by kernel_rfl) (fun _ _ _ h => h) rfl (fun w' hS => by obtain ⟨⟨⟨s0, s1, s2, s3⟩, ⟨s4, s5, s6, s7⟩, ⟨s8, s9, s10⟩, s11, s12, s13⟩, t0, t1, t2, t3⟩ := hS; go_simp) hHeld ?_
        try simp only [Act.put, List.setIfInBounds_toArray, List.set_cons_zero, List.set_cons_succ]
        refine wpAnyH_ready (rs := [8]) (by kernel_rfl) (by simp) ?_
        refine AllReadyH.cons rfl (fun K hK => ?_) AllReadyH.nil
        go_simp
        refine (kD3 _ (ksl _ hX)).mono ?_
        rintro e v8 ⟨rfl, hB⟩
        replace hX := hX.trans (hB.mono hX.size)
        go_wp2_with fail
        refine hK.out _ _ (kt _ hX) (fun hHeld => ?_)
        clear hK K hB
        try simp only [Act.put, List.setIfInBounds_toArray, List.set_cons_zero, List.set_cons_succ]
        refine held_yes 9 (some 107) (.tuple #[.int .i64 own, .int .i64 0]) rfl rfl (by kernel_rfl) (by kernel_rfl) (by kernel_rfl) (fun _ _ _ h => h) rfl (fun w' hS => by obtain ⟨⟨⟨s0, s1, s2, s3⟩, ⟨s4, s5, s6, s7⟩, ⟨s8, s9, s10⟩, s11, s12, s13⟩, t0, t1, t2, t3⟩ := hS; go_simp) hHeld ?_
        try simp only [Act.put, List.setIfInBounds_toArray, List.set_cons_zero, List.set_cons_succ]
        refine held_yes 10 (some 117) (.int .i64 own) rfl rfl (by kernel_rfl) (by kernel_rfl) (by kernel_rfl) (fun _ _ _ h => h) rfl (fun w' hS => by obtain ⟨⟨⟨s0, s1, s2, s3⟩, ⟨s4, s5, s6, s7⟩, ⟨s8, s9, s10⟩, s11, s12, s13⟩, t0, t1, t2, t3⟩ := hS; go_simp) hHeld ?_
        try simp only [Act.put, List.setIfInBounds_toArray, List.set_cons_zero, List.set_cons_succ]
        refine held_yes 11 (some 118) (.int .i64 0) rfl rfl (by kernel_rfl) (by kernel_rfl) (by kernel_rfl) (fun _ _ _ h => h) rfl (fun w' hS => by obtain ⟨⟨⟨s0, s1, s2, s3⟩, ⟨s4, s5, s6, s7⟩, ⟨s8, s9, s10⟩, s11, s12, s13⟩, t0, t1, t2, t3⟩ := hS; go_simp) hHeld ?_
        try simp only [Act.put, List.setIfInBounds_toArray, List.set_cons_zero, List.set_cons_succ]
        refine held_yes 12 (some 14) (.int .i64 own) rfl rfl (by kernel_rfl) (by kernel_rfl) (by kernel_rfl) (fun _ _ _ h => h) rfl (fun w' hS => by obtain ⟨⟨⟨s0, s1, s2, s3⟩, ⟨s4, s5, s6, s7⟩, ⟨s8, s9, s10⟩, s11, s12, s13⟩, t0, t1, t2, t3⟩ := hS; go_simp) hHeld ?_
        try simp only [Act.put, List.setIfInBounds_toArray, List.set_cons_zero, List.set_cons_succ]
        refine held_yes 13 (some 15) (.int .i64 0) rfl rfl (by kernel_rfl) (by kernel_rfl) (by kernel_rfl) (fun _ _ _ h => h) rfl (fun w' hS => by obtain ⟨⟨⟨s0, s1, s2, s3⟩, ⟨s4, s5, s6, s7⟩, ⟨s8, s9, s10⟩, s11, s12, s13⟩, t0, t1, t2, t3⟩ := hS; go_simp) hHeld ?_
        try simp only [Act.put, List.setIfInBounds_toArray, List.set_cons_zero, List.set_cons_succ]
        refine wpAnyH_done (by kernel_rfl) ?_ _
        clear hHeld kt
        obtain ⟨⟨s0, s1, s2, s3⟩, ⟨s4, s5, s6, s7⟩, ⟨s8, s9, s10⟩, s11, s12, s13⟩ := kk _ hX
        go_wp2_with fail
        clear s0 s1 s2 s3 s4 s5 s6 s7 s8 s9 s10 s11 s12 s13 kD3
        go_loopw [124] (fun i wr => ∃ k : Nat, k ≤ l.length ∧ i = .int .i64 k ∧ Below Wx.heap.size Wx wr) (fun i _ => l.length - (intOf i).toNat)
        case atStart => exact ⟨0, Nat.zero_le _, rfl, hX⟩
        case round =>
          obtain ⟨k, hk, rfl, hXr⟩ := hrel
          rcases Nat.lt_or_eq_of_le hk with hkn | rfl
          · obtain ⟨⟨ks, kx, ky, kz⟩, hck⟩ : ∃ t, l[k]? = some t := ⟨_, List.getElem?_eq_getElem hkn⟩
            have hkok : ColOk (kx, ky, kz) 0 255 := (hgok.at_ _ _ hck).2
            obtain ⟨t0, t1, t2, t3⟩ := htA _ hXr k _ hck
            dsimp only at t0 t1 t2 t3
            have hi0 : (0 : Int) ≤ k := by omega
            have hi1 : (k : Int) < l.length := by omega
            have kD4 := fun W (h : SlT W (.slice (some ⟨b0, o0, none⟩) l.length cap) l) => shDistance_ok (x, y, z) (kx, ky, kz) (p, q, r) _ l W h hgok hkok hcok
            have kN4 := fun W (h : SlT W (.slice (some ⟨b0, o0, none⟩) l.length cap) l) => shNearest_ok (x, y, z) (kx, ky, kz) _ l W h hgok hkok
            have hnf := near_far hL1 HCN.out hck
            rw [dist_sym] at kD4
            dsimp only at hnf
            rw [← HO.out] at hnf
            generalize distW (x, y, z) (kx, ky, kz) (p, q, r) = far at kD4 hnf
            unfold gdV colV at kD4 kN4
            dsimp only at kD4 kN4
            obtain ⟨Wt, hW⟩ : ∃ Wt, Wt = wr.alloc (.cells #[.string ks, .int .i64 kx, .int .i64 ky, .int .i64 kz] 76) := ⟨_, rfl⟩
            have rt : Wt.heap[wr.heap.size]? = some (.cells #[.string ks, .int .i64 kx, .int .i64 ky, .int .i64 kz] 76 (0, 0)) := by subst hW; exact heap_alloc_new wr _
            have hXt : Below Wx.heap.size Wx Wt := by subst hW; exact hXr.alloc hXr.size _
            have hzt : wr.heap.size < Wt.heap.size := (Array.getElem?_eq_some_iff.1 rt).1
            obtain ⟨u0, u1, u2, u3⟩ := four_cells rt
            obtain ⟨⟨s0, s1, s2, s3⟩, ⟨s4, s5, s6, s7⟩, ⟨s8, s9, s10⟩, s11, s12, s13⟩ := kk _ hXt
            have HCK := Lib.hid hck
            clear hck
            subst hW
            have hne0 : w.heap.size ≠ wr.heap.size := by have := hXr.size; omega
            have hne1 : w.heap.size + 1 ≠ wr.heap.size := by have := hXr.size; omega
            have hlt0 : w.heap.size < wr.heap.size := by have := hXr.size; omega
            have hlt1 : w.heap.size + 1 < wr.heap.size := by have := hXr.size; omega
            obtain ⟨⟨q0, q1, q2, q3⟩, ⟨q4, q5, q6, q7⟩, ⟨q8, q9, q10⟩, q11, q12, q13⟩ := kk _ hXr
            go_wp2_with fail
            refine (kD4 _ (ksl _ hXt)).mono ?_
            rintro e V4 ⟨rfl, hB⟩
            have rt4 := (hB.block _ hzt).trans rt
            have hX4 := hXt.trans (hB.mono hXt.size)
            have hz4 := Nat.lt_of_lt_of_le hzt hB.size
            clear hB u0 u1 u2 u3 s0 s1 s2 s3 s4 s5 s6 s7 s8 s9 s10 s11 s12 s13 rt
            obtain ⟨u0, u1, u2, u3⟩ := four_cells rt4
            obtain ⟨⟨s0, s1, s2, s3⟩, ⟨s4, s5, s6, s7⟩, ⟨s8, s9, s10⟩, s11, s12, s13⟩ := kk _ hX4
            go_wp2_with fail
            refine (kN4 _ (ksl _ hX4)).mono ?_
            rintro e V5 ⟨⟨j, rfl, hLj⟩, hB⟩
            have rt5 := (hB.block _ hz4).trans rt4
            have hX5 := hX4.trans (hB.mono hX4.size)
            have hz5 := Nat.lt_of_lt_of_le hz4 hB.size
            clear hB u0 u1 u2 u3 s0 s1 s2 s3 s4 s5 s6 s7 s8 s9 s10 s11 s12 s13 rt4
            obtain ⟨hjk, sj, hcj⟩ := near_own (t := (ks, kx, ky, kz)) hwt HCK.out hLj
            dsimp only at hcj
            obtain ⟨u0, u1, u2, u3⟩ := four_cells rt5
            obtain ⟨⟨s0, s1, s2, s3⟩, ⟨s4, s5, s6, s7⟩, ⟨s8, s9, s10⟩, s11, s12, s13⟩ := kk _ hX5
            obtain ⟨p0, p1, p2, p3⟩ := htA _ hX5 j _ hcj
            dsimp only at p0 p1 p2 p3
            have hj0 : (0 : Int) ≤ j := by omega
            have hj1 : (j : Int) < l.length := by omega
            have hd1 : decide (far < own) = false := decide_eq_false (by omega)
            have hd2 : decide ((j : Int) < 0) = false := decide_eq_false (by omega)
            have hd3 : decide ((k : Int) < (j : Int)) = false := decide_eq_false (by omega)
            have hd3b : decide (k < j) = false := decide_eq_false (by omega)
            have heq2 : ∀ W, (Op.equalIn 10000 47 (.agg #[.int .i64 kx, .int .i64 ky, .int .i64 kz]) (.agg #[.int .i64 kx, .int .i64 ky, .int .i64 kz])).run Tryz.prog W = .ok true W := fun W => by
              have h := equal_col (kx, ky, kz) (kx, ky, kz) W
              rw [decide_eq_true rfl] at h
              exact h
            have HK := Lib.hid (show k + 1 ≤ l.length from hkn)
            have HM := Lib.hid (show l.length - (k + 1) < l.length - k by omega)
            have HWK := Lib.hid (wrapsK hkn (by omega))
            have HX5 := Lib.hid hX5
            have hd4 : decide ((k : Int) < (n1 : Int)) = decide (k < n1) := by simp
            rcases Nat.lt_or_ge k n1 with hkn1 | hkn1
            · have hd5 : decide (k < n1) = true := decide_eq_true hkn1
              rw [hd5] at hd4
              have hd6 : (far == own) = false := by simpa using hnf.2 hkn1
              clear hnf hkn1 hjk rt5 hX5 hX4 hXt hXr hz4 hz5 hzt hne0 hne1 hlt0 hlt1 q0 q1 q2 q3 q4 q5 q6 q7 q8 q9 q10 q11 q12 q13
              obtain ⟨wk1, wk2⟩ := HWK.out
              go_wp2_with fail
              go_quiet (fail)
              go_wp2
              go_roundw
              case rel => exact ⟨k + 1, HK.out, by simp, below_drewN HX5.out _⟩
              case measure => exact HM.out
            · have hd5 : decide (k < n1) = false := decide_eq_false (by omega)
              rw [hd5] at hd4
              clear hnf hkn1 hjk rt5 hX5 hX4 hXt hXr hz4 hz5 hzt hne0 hne1 hlt0 hlt1 q0 q1 q2 q3 q4 q5 q6 q7 q8 q9 q10 q11 q12 q13
              obtain ⟨wk1, wk2⟩ := HWK.out
              go_wp2_with fail
              go_quiet (fail)
              go_wp2
              go_roundw
              case rel => exact ⟨k + 1, HK.out, by simp, below_drewN HX5.out _⟩
              case measure => exact HM.out
          · obtain ⟨⟨s0, s1, s2, s3⟩, ⟨s4, s5, s6, s7⟩, ⟨s8, s9, s10⟩, s11, s12, s13⟩ := kk _ hXr
            rcases Nat.lt_or_ge l.length 2 with h2 | h2
            · have kE := shBestErr_ok (x, y, z) (p, q, r) _ l wr (ksl _ hXr) hgok hcok h2
              unfold gdV colV at kE
              dsimp only at kE
              have hd2 : decide ((l.length : Int) < 2) = true := decide_eq_true (by omega)
              go_wp2_with fail
              refine kE.mono ?_
              rintro e V6 ⟨rfl, hB⟩
              have hX6 := hXr.trans (hB.mono hXr.size)
              clear hB kE s0 s1 s2 s3 s4 s5 s6 s7 s8 s9 s10 s11 s12 s13
              obtain ⟨⟨s0, s1, s2, s3⟩, ⟨s4, s5, s6, s7⟩, ⟨s8, s9, s10⟩, s11, s12, s13⟩ := kk _ hX6
              have hlt0 : w.heap.size < V6.heap.size := by have := hX6.size; omega
              have hne0 : w.heap.size ≠ V6.heap.size := by have := hX6.size; omega
              have hBo0 := hBw _ hX6
              have hBo := hBo0.alloc hBo0.size (.cells #[.int .i64 0, .int .i64 0, .int .i64 0] 60)
              have HBo := Lib.hid hBo
              clear hBo hBo0 hX6 hXr
              go_wp2_with (go_at_call 9; refine (awake9_ok _ (hgk.below HBo.out)).mono ?_; rintro e w9 ⟨rfl, hQ9⟩)
              go_ret
              exact ⟨rfl, HBo.out.trans (hQ9.mono HBo.out.size)⟩
            · have kB := shBest_ok (x, y, z) (p, q, r) _ l wr (ksl _ hXr) hgok hcok ⟨h2, hl5⟩ (mixL_few ⟨h2, hl5⟩)
              unfold gdV colV at kB
              dsimp only at kB
              have hd2 : decide ((l.length : Int) < 2) = false := decide_eq_false (by omega)
              go_wp2_with fail
              refine kB.mono ?_
              rintro e V6 ⟨⟨⟨qa, qb, qe⟩, rfl, hbest⟩, hB⟩
              obtain ⟨hmm, i', k', hq1, hq2, hik, hk', he1, he7⟩ := best_min hbest
              dsimp only at hq1 hq2 hk' he1 he7
              subst hq1 hq2
              have hX6 := hXr.trans (hB.mono hXr.size)
              clear hB kB hbest s0 s1 s2 s3 s4 s5 s6 s7 s8 s9 s10 s11 s12 s13 hXr
              obtain ⟨⟨s0, s1, s2, s3⟩, ⟨s4, s5, s6, s7⟩, ⟨s8, s9, s10⟩, s11, s12, s13⟩ := kk _ hX6
              have hlt0 : w.heap.size < V6.heap.size := by have := hX6.size; omega
              have hne0 : w.heap.size ≠ V6.heap.size := by have := hX6.size; omega
              obtain ⟨W8, hW8⟩ : ∃ W8, W8 = V6.alloc (.cells #[.int .i64 i', .int .i64 k', .int .i64 qe] 60) := ⟨_, rfl⟩
              have rM : RowK W8 60 V6.heap.size [.int .i64 i', .int .i64 k', .int .i64 qe] := by subst hW8; exact heap_alloc_new V6 _
              have hX8 : Below Wx.heap.size Wx W8 := by subst hW8; exact hX6.alloc hX6.size _
              have hdd1 : decide (k' ≤ i') = false := by simp; omega
              have hdd2 : decide (l.length ≤ k') = false := by simp; omega
              have hdd3 : decide (qe < 1) = false := by simp; omega
              have hdd4 : decide (7 < qe) = false := by simp; omega
              have hi'0 : (0 : Int) ≤ i' := by omega
              have HW8 := Lib.hid hW8
              clear hW8 hX6
              go_wp2_with fail
              rw [← HW8.out]
              clear HW8 hlt0 hne0 hdd1 hdd2 hdd3 hdd4 hi'0 s0 s1 s2 s3 s4 s5 s6 s7 s8 s9 s10 s11 s12 s13
              generalize V6.heap.size = gM at rM
              have kk8 : ∀ V, Below W8.heap.size W8 V → ((V.cell? ⟨w1.heap.size, 0, none⟩ = some (.int .i64 x) ∧ V.cell? ⟨w1.heap.size, 1, none⟩ = some (.int .i64 y) ∧ V.cell? ⟨w1.heap.size, 2, none⟩ = some (.int .i64 z) ∧ V.cell? ⟨w1.heap.size, 3, none⟩ = some (.slice Au l.length cu)) ∧ (V.cell? ⟨w.heap.size, 0, none⟩ = some (.int .i64 x) ∧ V.cell? ⟨w.heap.size, 1, none⟩ = some (.int .i64 y) ∧ V.cell? ⟨w.heap.size, 2, none⟩ = some (.int .i64 z) ∧ V.cell? ⟨w.heap.size, 3, none⟩ = some (.slice (some ⟨b0, o0, none⟩) l.length cap)) ∧ (V.cell? ⟨w.heap.size + 1, 0, none⟩ = some (.int .i64 p) ∧ V.cell? ⟨w.heap.size + 1, 1, none⟩ = some (.int .i64 q) ∧ V.cell? ⟨w.heap.size + 1, 2, none⟩ = some (.int .i64 r)) ∧ (V.cell? ⟨w.heap.size + 1 + 1, 0, none⟩ = some (.int .i64 m0) ∧ V.cell? ⟨w.heap.size + 1 + 1, 1, none⟩ = some (.int .i64 m1) ∧ V.cell? ⟨w.heap.size + 1 + 1, 2, none⟩ = some (.int .i64 m2))) ∧ (V.cell? ⟨gM, 0, none⟩ = some (.int .i64 i') ∧ V.cell? ⟨gM, 1, none⟩ = some (.int .i64 k') ∧ V.cell? ⟨gM, 2, none⟩ = some (.int .i64 qe)) := fun V h =>
                ⟨kk V (hX8.trans (h.mono hX8.size)), (rM.below h).cell (by rfl), (rM.below h).cell (by rfl), (rM.below h).cell (by rfl)⟩
              have hbx : ∀ V, Below W8.heap.size W8 V → Below Wx.heap.size Wx V := fun V h => hX8.trans (h.mono hX8.size)
              obtain ⟨⟨n1', c1'⟩, ht1⟩ : ∃ t, l[i']? = some t := ⟨_, List.getElem?_eq_getElem (by omega)⟩
              obtain ⟨⟨n2', c2'⟩, ht2⟩ : ∃ t, l[k']? = some t := ⟨_, List.getElem?_eq_getElem hk'⟩
              rw [colM_at ht1 ht2] at hmm
              have kF2 := fun V (h : SlT V (.slice Au l.length cu) l) => refFar_ok (x, y, z) l _ i' k' qe n1' n2' c1' c2' (p, q, r) V h ht1 ht2 ⟨he1, he7⟩ (hgok.at_ _ _ ht1).2 (hgok.at_ _ _ ht2).2 hcok (wt_wide hgok.wt)
              obtain ⟨de, hde⟩ : ∃ de, de = distW (x, y, z) (mixC (8 - qe) c1' qe c2') (mul8 (p, q, r)) := ⟨_, rfl⟩
              rw [← hde] at hmm
              simp only [← hde] at kF2
              unfold gdV colV at kF2
              dsimp only at kF2
              clear hde ht1 ht2 rM hik hk' he1 he7
              go_loopw [236] (fun i wr => ∃ n : Nat, n ≤ l.length ∧ i = .int .i64 n ∧ Below W8.heap.size W8 wr) (fun i _ => l.length - (intOf i).toNat)
              case atStart => exact ⟨0, Nat.zero_le _, rfl, Below.refl _ _⟩
              case round =>
                obtain ⟨i, hi, rfl, hY⟩ := hrel
                rename World => w2
                rcases Nat.lt_or_eq_of_le hi with hin | rfl
                · have hi0 : (0 : Int) ≤ i := by omega
                  have hi1 : (i : Int) < l.length := by omega
                  have HIK := Lib.hid (show i + 1 ≤ l.length from hin)
                  have HIM := Lib.hid (show l.length - (i + 1) < l.length - i by omega)
                  have HWI := Lib.hid (wrapsK hin (by omega))
                  go_wp2_with fail
                  go_loopw [25] (fun j wr3 => ∃ e : Nat, 1 ≤ e ∧ e ≤ 8 ∧ j = .int .i64 e ∧ Below W8.heap.size W8 wr3) (fun j _ => 9 - (intOf j).toNat)
                  case atStart => exact ⟨1, by omega, by omega, rfl, hY⟩
                  case round =>
                    clear hY
                    obtain ⟨e, he1, he8, rfl, hZ⟩ := hrel
                    rename World => w3
                    rcases Nat.lt_or_eq_of_le he8 with hen | rfl
                    · have he0 : (e : Int) ≤ 7 := by omega
                      have HEK := Lib.hid (show e + 1 ≤ 8 from hen)
                      have HEM := Lib.hid (show 9 - (e + 1) < 9 - e by omega)
                      have HWE := Lib.hid (wrapsK hen (by omega))
                      go_wp2_with fail
                      have hZd := hZ.drew
                      clear hZ
                      by_cases hin1 : i = n1
                      · have hbn : ((i : Int) != (n1 : Int)) = false := by simp [hin1]
                        have hbn2 : (i : Int) = (n1 : Int) := by omega
                        refine wp_region_held_drew (S := fun V => ((V.cell? ⟨w1.heap.size, 0, none⟩ = some (.int .i64 x) ∧ V.cell? ⟨w1.heap.size, 1, none⟩ = some (.int .i64 y) ∧ V.cell? ⟨w1.heap.size, 2, none⟩ = some (.int .i64 z) ∧ V.cell? ⟨w1.heap.size, 3, none⟩ = some (.slice Au l.length cu)) ∧ (V.cell? ⟨w.heap.size, 0, none⟩ = some (.int .i64 x) ∧ V.cell? ⟨w.heap.size, 1, none⟩ = some (.int .i64 y) ∧ V.cell? ⟨w.heap.size, 2, none⟩ = some (.int .i64 z) ∧ V.cell? ⟨w.heap.size, 3, none⟩ = some (.slice (some ⟨b0, o0, none⟩) l.length cap)) ∧ (V.cell? ⟨w.heap.size + 1, 0, none⟩ = some (.int .i64 p) ∧ V.cell? ⟨w.heap.size + 1, 1, none⟩ = some (.int .i64 q) ∧ V.cell? ⟨w.heap.size + 1, 2, none⟩ = some (.int .i64 r)) ∧ (V.cell? ⟨w.heap.size + 1 + 1, 0, none⟩ = some (.int .i64 m0) ∧ V.cell? ⟨w.heap.size + 1 + 1, 1, none⟩ = some (.int .i64 m1) ∧ V.cell? ⟨w.heap.size + 1 + 1, 2, none⟩ = some (.int .i64 m2))) ∧ (V.cell? ⟨gM, 0, none⟩ = some (.int .i64 i') ∧ V.cell? ⟨gM, 1, none⟩ = some (.int .i64 k') ∧ V.cell? ⟨gM, 2, none⟩ = some (.int .i64 qe))) (by kernel_rfl) (kk8 _ hZd) (fun hHeld => ?_)
                        refine held_yes 0 (some 243) (.int .i64 i) rfl rfl (by kernel_rfl) (by kernel_rfl) (by kernel_rfl) (fun _ _ _ h => h) rfl (fun w' hS => by obtain ⟨⟨⟨s0, s1, s2, s3⟩, ⟨s4, s5, s6, s7⟩, ⟨s8, s9, s10⟩, s11, s12, s13⟩, t0, t1, t2⟩ := hS; go_simp) hHeld ?_
                        try simp only [Act.put, List.setIfInBounds_toArray, List.set_cons_zero, List.set_cons_succ]
                        refine held_yes 1 (some 244) (.int .i64 n1) rfl rfl (by kernel_rfl) (by kernel_rfl) (by kernel_rfl) (fun _ _ _ h => h) rfl (fun w' hS => by obtain ⟨⟨⟨s0, s1, s2, s3⟩, ⟨s4, s5, s6, s7⟩, ⟨s8, s9, s10⟩, s11, s12, s13⟩, t0, t1, t2⟩ := hS; go_simp) hHeld ?_
                        try simp only [Act.put, List.setIfInBounds_toArray, List.set_cons_zero, List.set_cons_succ]
                        refine held_yes 2 (some 245) (.bool false) rfl rfl (by kernel_rfl) (by kernel_rfl) (by kernel_rfl) (fun _ _ _ h => h) rfl (fun w' hS => by obtain ⟨⟨⟨s0, s1, s2, s3⟩, ⟨s4, s5, s6, s7⟩, ⟨s8, s9, s10⟩, s11, s12, s13⟩, t0, t1, t2⟩ := hS; go_simp) hHeld ?_
                        try simp only [Act.put, List.setIfInBounds_toArray, List.set_cons_zero, List.set_cons_succ]
                        refine held_yes 3 (some 246) (.bool false) rfl rfl (by kernel_rfl) (by kernel_rfl) (by kernel_rfl) (fun _ _ _ h => h) rfl (fun w' hS => by obtain ⟨⟨⟨s0, s1, s2, s3⟩, ⟨s4, s5, s6, s7⟩, ⟨s8, s9, s10⟩, s11, s12, s13⟩, t0, t1, t2⟩ := hS; go_simp) hHeld ?_
                        try simp only [Act.put, List.setIfInBounds_toArray, List.set_cons_zero, List.set_cons_succ]
                        refine held_no 4 (some 247) rfl rfl (by kernel_rfl) (by kernel_rfl) (by kernel_rfl) (fun _ _ _ h => h) rfl hHeld ?_
                        try simp only [Act.put, List.setIfInBounds_toArray, List.set_cons_zero, List.set_cons_succ]
                        refine held_no 5 (some 248) rfl rfl (by kernel_rfl) (by kernel_rfl) (by kernel_rfl) (fun _ _ _ h => h) rfl hHeld ?_
                        try simp only [Act.put, List.setIfInBounds_toArray, List.set_cons_zero, List.set_cons_succ]
                        refine held_no 6 (some 249) rfl rfl (by kernel_rfl) (by kernel_rfl) (by kernel_rfl) (fun _ _ _ h => h) rfl hHeld ?_
                        try simp only [Act.put, List.setIfInBounds_toArray, List.set_cons_zero, List.set_cons_succ]
                        refine held_no 7 (some 250) rfl rfl (by kernel_rfl) (by kernel_rfl) (by kernel_rfl) (fun _ _ _ h => h) rfl hHeld ?_
                        try simp only [Act.put, List.setIfInBounds_toArray, List.set_cons_zero, List.set_cons_succ]
                        refine held_no 8 (some 251) rfl rfl (by kernel_rfl) (by kernel_rfl) (by kernel_rfl) (fun _ _ _ h => h) rfl hHeld ?_
                        try simp only [Act.put, List.setIfInBounds_toArray, List.set_cons_zero, List.set_cons_succ]
                        refine held_no 9 (some 252) rfl rfl (by kernel_rfl) (by kernel_rfl) (by kernel_rfl) (fun _ _ _ h => h) rfl hHeld ?_
                        try simp only [Act.put, List.setIfInBounds_toArray, List.set_cons_zero, List.set_cons_succ]
                        refine held_no 10 (some 253) rfl rfl (by kernel_rfl) (by kernel_rfl) (by kernel_rfl) (fun _ _ _ h => h) rfl hHeld ?_
                        try simp only [Act.put, List.setIfInBounds_toArray, List.set_cons_zero, List.set_cons_succ]
                        refine held_no 11 (some 254) rfl rfl (by kernel_rfl) (by kernel_rfl) (by kernel_rfl) (fun _ _ _ h => h) rfl hHeld ?_
                        try simp only [Act.put, List.setIfInBounds_toArray, List.set_cons_zero, List.set_cons_succ]
                        refine held_no 12 (some 255) rfl rfl (by kernel_rfl) (by kernel_rfl) (by kernel_rfl) (fun _ _ _ h => h) rfl hHeld ?_
                        try simp only [Act.put, List.setIfInBounds_toArray, List.set_cons_zero, List.set_cons_succ]
                        refine held_no 13 (some 256) rfl rfl (by kernel_rfl) (by kernel_rfl) (by kernel_rfl) (fun _ _ _ h => h) rfl hHeld ?_
                        try simp only [Act.put, List.setIfInBounds_toArray, List.set_cons_zero, List.set_cons_succ]
                        refine held_no 14 (some 257) rfl rfl (by kernel_rfl) (by kernel_rfl) (by kernel_rfl) (fun _ _ _ h => h) rfl hHeld ?_
                        try simp only [Act.put, List.setIfInBounds_toArray, List.set_cons_zero, List.set_cons_succ]
                        refine held_no 15 (some 258) rfl rfl (by kernel_rfl) (by kernel_rfl) (by kernel_rfl) (fun _ _ _ h => h) rfl hHeld ?_
                        try simp only [Act.put, List.setIfInBounds_toArray, List.set_cons_zero, List.set_cons_succ]
                        refine held_no 16 (some 259) rfl rfl (by kernel_rfl) (by kernel_rfl) (by kernel_rfl) (fun _ _ _ h => h) rfl hHeld ?_
                        try simp only [Act.put, List.setIfInBounds_toArray, List.set_cons_zero, List.set_cons_succ]
                        refine held_no 17 (some 260) rfl rfl (by kernel_rfl) (by kernel_rfl) (by kernel_rfl) (fun _ _ _ h => h) rfl hHeld ?_
                        try simp only [Act.put, List.setIfInBounds_toArray, List.set_cons_zero, List.set_cons_succ]
                        refine held_no 18 (some 261) rfl rfl (by kernel_rfl) (by kernel_rfl) (by kernel_rfl) (fun _ _ _ h => h) rfl hHeld ?_
                        try simp only [Act.put, List.setIfInBounds_toArray, List.set_cons_zero, List.set_cons_succ]
                        refine held_no 19 (some 262) rfl rfl (by kernel_rfl) (by kernel_rfl) (by kernel_rfl) (fun _ _ _ h => h) rfl hHeld ?_
                        try simp only [Act.put, List.setIfInBounds_toArray, List.set_cons_zero, List.set_cons_succ]
                        refine held_yes 20 (some 263) (.bool false) rfl rfl (by kernel_rfl) (by kernel_rfl) (by kernel_rfl) (fun _ _ _ h => h) rfl (fun w' hS => by obtain ⟨⟨⟨s0, s1, s2, s3⟩, ⟨s4, s5, s6, s7⟩, ⟨s8, s9, s10⟩, s11, s12, s13⟩, t0, t1, t2⟩ := hS; go_simp) hHeld ?_
                        try simp only [Act.put, List.setIfInBounds_toArray, List.set_cons_zero, List.set_cons_succ]
                        refine wpAnyH_done (by kernel_rfl) ?_ _
                        clear hHeld
                        obtain ⟨we1, we2⟩ := HWE.out
                        go_wp2_with fail
                        go_roundw
                        case rel => exact ⟨e + 1, by omega, HEK.out, by simp, hZd⟩
                        case measure => exact HEM.out
                      · have hbn : ((i : Int) != (n1 : Int)) = true := by simp; omega
                        have hbn2 : ((i : Int) == (n1 : Int)) = false := by simp; omega
                        obtain ⟨⟨si, ci⟩, hti⟩ : ∃ t, l[i]? = some t := ⟨_, List.getElem?_eq_getElem (by omega)⟩
                        have htn1 := HCN.out
                        rcases Nat.lt_or_gt_of_ne hin1 with hlt | hlt
                        · have hmn : decide ((i : Int) < (n1 : Int)) = true := decide_eq_true (by omega)
                          have hmn2 : decide ((n1 : Int) < (i : Int)) = false := decide_eq_false (by omega)
                          have hmn3 : min (i : Int) (n1 : Int) = (i : Int) := by omega
                          have hmn4 : max (i : Int) (n1 : Int) = (n1 : Int) := by omega
                          have kF1 := fun V (h : SlT V (.slice Au l.length cu) l) => refFar_ok (x, y, z) l _ i n1 e _ _ _ _ (p, q, r) V h hti htn1 ⟨by omega, by omega⟩ (hgok.at_ _ _ hti).2 (hgok.at_ _ _ htn1).2 hcok (wt_wide hgok.wt)
                          have hle := mix_far hmm (show i < n1 by omega) hti htn1 (e := (e : Int)) ⟨by omega, by omega⟩
                          unfold gdV colV at kF1
                          dsimp only at kF1
                          generalize distW (x, y, z) (mixC _ _ _ _) (mul8 (p, q, r)) = d1 at kF1 hle
                          have hdl : decide (d1 < de) = false := decide_eq_false (by omega)
                          clear hle
                          refine wp_region_held_drew (S := fun V => ((V.cell? ⟨w1.heap.size, 0, none⟩ = some (.int .i64 x) ∧ V.cell? ⟨w1.heap.size, 1, none⟩ = some (.int .i64 y) ∧ V.cell? ⟨w1.heap.size, 2, none⟩ = some (.int .i64 z) ∧ V.cell? ⟨w1.heap.size, 3, none⟩ = some (.slice Au l.length cu)) ∧ (V.cell? ⟨w.heap.size, 0, none⟩ = some (.int .i64 x) ∧ V.cell? ⟨w.heap.size, 1, none⟩ = some (.int .i64 y) ∧ V.cell? ⟨w.heap.size, 2, none⟩ = some (.int .i64 z) ∧ V.cell? ⟨w.heap.size, 3, none⟩ = some (.slice (some ⟨b0, o0, none⟩) l.length cap)) ∧ (V.cell? ⟨w.heap.size + 1, 0, none⟩ = some (.int .i64 p) ∧ V.cell? ⟨w.heap.size + 1, 1, none⟩ = some (.int .i64 q) ∧ V.cell? ⟨w.heap.size + 1, 2, none⟩ = some (.int .i64 r)) ∧ (V.cell? ⟨w.heap.size + 1 + 1, 0, none⟩ = some (.int .i64 m0) ∧ V.cell? ⟨w.heap.size + 1 + 1, 1, none⟩ = some (.int .i64 m1) ∧ V.cell? ⟨w.heap.size + 1 + 1, 2, none⟩ = some (.int .i64 m2))) ∧ (V.cell? ⟨gM, 0, none⟩ = some (.int .i64 i') ∧ V.cell? ⟨gM, 1, none⟩ = some (.int .i64 k') ∧ V.cell? ⟨gM, 2, none⟩ = some (.int .i64 qe))) (by kernel_rfl) (kk8 _ hZd) (fun hHeld => ?_)
                          refine held_yes 0 (some 243) (.int .i64 i) rfl rfl (by kernel_rfl) (by kernel_rfl) (by kernel_rfl) (fun _ _ _ h => h) rfl (fun w' hS => by obtain ⟨⟨⟨s0, s1, s2, s3⟩, ⟨s4, s5, s6, s7⟩, ⟨s8, s9, s10⟩, s11, s12, s13⟩, t0, t1, t2⟩ := hS; go_simp) hHeld ?_
                          try simp only [Act.put, List.setIfInBounds_toArray, List.set_cons_zero, List.set_cons_succ]
                          refine held_yes 1 (some 244) (.int .i64 n1) rfl rfl (by kernel_rfl) (by kernel_rfl) (by kernel_rfl) (fun _ _ _ h => h) rfl (fun w' hS => by obtain ⟨⟨⟨s0, s1, s2, s3⟩, ⟨s4, s5, s6, s7⟩, ⟨s8, s9, s10⟩, s11, s12, s13⟩, t0, t1, t2⟩ := hS; go_simp) hHeld ?_
                          try simp only [Act.put, List.setIfInBounds_toArray, List.set_cons_zero, List.set_cons_succ]
                          refine held_yes 2 (some 245) (.bool true) rfl rfl (by kernel_rfl) (by kernel_rfl) (by kernel_rfl) (fun _ _ _ h => h) rfl (fun w' hS => by obtain ⟨⟨⟨s0, s1, s2, s3⟩, ⟨s4, s5, s6, s7⟩, ⟨s8, s9, s10⟩, s11, s12, s13⟩, t0, t1, t2⟩ := hS; go_simp) hHeld ?_
                          try simp only [Act.put, List.setIfInBounds_toArray, List.set_cons_zero, List.set_cons_succ]
                          refine held_yes 3 (some 246) (.bool true) rfl rfl (by kernel_rfl) (by kernel_rfl) (by kernel_rfl) (fun _ _ _ h => h) rfl (fun w' hS => by obtain ⟨⟨⟨s0, s1, s2, s3⟩, ⟨s4, s5, s6, s7⟩, ⟨s8, s9, s10⟩, s11, s12, s13⟩, t0, t1, t2⟩ := hS; go_simp) hHeld ?_
                          try simp only [Act.put, List.setIfInBounds_toArray, List.set_cons_zero, List.set_cons_succ]
                          refine held_yes 4 (some 247) (.agg #[.int .i64 x, .int .i64 y, .int .i64 z, .slice Au l.length cu]) rfl rfl (by kernel_rfl) (by kernel_rfl) (by kernel_rfl) (fun _ _ _ h => h) rfl (fun w' hS => by obtain ⟨⟨⟨s0, s1, s2, s3⟩, ⟨s4, s5, s6, s7⟩, ⟨s8, s9, s10⟩, s11, s12, s13⟩, t0, t1, t2⟩ := hS; go_simp) hHeld ?_
                          try simp only [Act.put, List.setIfInBounds_toArray, List.set_cons_zero, List.set_cons_succ]
                          refine held_yes 5 (some 248) (.int .i64 i) rfl rfl (by kernel_rfl) (by kernel_rfl) (by kernel_rfl) (fun _ _ _ h => h) rfl (fun w' hS => by obtain ⟨⟨⟨s0, s1, s2, s3⟩, ⟨s4, s5, s6, s7⟩, ⟨s8, s9, s10⟩, s11, s12, s13⟩, t0, t1, t2⟩ := hS; go_simp) hHeld ?_
                          try simp only [Act.put, List.setIfInBounds_toArray, List.set_cons_zero, List.set_cons_succ]
                          refine held_yes 6 (some 249) (.int .i64 n1) rfl rfl (by kernel_rfl) (by kernel_rfl) (by kernel_rfl) (fun _ _ _ h => h) rfl (fun w' hS => by obtain ⟨⟨⟨s0, s1, s2, s3⟩, ⟨s4, s5, s6, s7⟩, ⟨s8, s9, s10⟩, s11, s12, s13⟩, t0, t1, t2⟩ := hS; go_simp) hHeld ?_
                          try simp only [Act.put, List.setIfInBounds_toArray, List.set_cons_zero, List.set_cons_succ]
                          refine held_yes 7 (some 250) (.int .i64 i) rfl rfl (by kernel_rfl) (by kernel_rfl) (by kernel_rfl) (fun _ _ _ h => h) rfl (fun w' hS => by obtain ⟨⟨⟨s0, s1, s2, s3⟩, ⟨s4, s5, s6, s7⟩, ⟨s8, s9, s10⟩, s11, s12, s13⟩, t0, t1, t2⟩ := hS; go_simp) hHeld ?_
                          try simp only [Act.put, List.setIfInBounds_toArray, List.set_cons_zero, List.set_cons_succ]
                          refine held_yes 8 (some 251) (.int .i64 i) rfl rfl (by kernel_rfl) (by kernel_rfl) (by kernel_rfl) (fun _ _ _ h => h) rfl (fun w' hS => by obtain ⟨⟨⟨s0, s1, s2, s3⟩, ⟨s4, s5, s6, s7⟩, ⟨s8, s9, s10⟩, s11, s12, s13⟩, t0, t1, t2⟩ := hS; go_simp) hHeld ?_
                          try simp only [Act.put, List.setIfInBounds_toArray, List.set_cons_zero, List.set_cons_succ]
                          refine held_yes 9 (some 252) (.int .i64 n1) rfl rfl (by kernel_rfl) (by kernel_rfl) (by kernel_rfl) (fun _ _ _ h => h) rfl (fun w' hS => by obtain ⟨⟨⟨s0, s1, s2, s3⟩, ⟨s4, s5, s6, s7⟩, ⟨s8, s9, s10⟩, s11, s12, s13⟩, t0, t1, t2⟩ := hS; go_simp) hHeld ?_
                          try simp only [Act.put, List.setIfInBounds_toArray, List.set_cons_zero, List.set_cons_succ]
                          refine held_yes 10 (some 253) (.int .i64 n1) rfl rfl (by kernel_rfl) (by kernel_rfl) (by kernel_rfl) (fun _ _ _ h => h) rfl (fun w' hS => by obtain ⟨⟨⟨s0, s1, s2, s3⟩, ⟨s4, s5, s6, s7⟩, ⟨s8, s9, s10⟩, s11, s12, s13⟩, t0, t1, t2⟩ := hS; go_simp) hHeld ?_
                          try simp only [Act.put, List.setIfInBounds_toArray, List.set_cons_zero, List.set_cons_succ]
                          refine held_yes 11 (some 254) (.int .i64 e) rfl rfl (by kernel_rfl) (by kernel_rfl) (by kernel_rfl) (fun _ _ _ h => h) rfl (fun w' hS => by obtain ⟨⟨⟨s0, s1, s2, s3⟩, ⟨s4, s5, s6, s7⟩, ⟨s8, s9, s10⟩, s11, s12, s13⟩, t0, t1, t2⟩ := hS; go_simp) hHeld ?_
                          try simp only [Act.put, List.setIfInBounds_toArray, List.set_cons_zero, List.set_cons_succ]
                          refine held_yes 12 (some 255) (.agg #[.int .i64 i, .int .i64 n1, .int .i64 e]) rfl rfl (by kernel_rfl) (by kernel_rfl) (by kernel_rfl) (fun _ _ _ h => h) rfl (fun w' hS => by obtain ⟨⟨⟨s0, s1, s2, s3⟩, ⟨s4, s5, s6, s7⟩, ⟨s8, s9, s10⟩, s11, s12, s13⟩, t0, t1, t2⟩ := hS; go_simp) hHeld ?_
                          try simp only [Act.put, List.setIfInBounds_toArray, List.set_cons_zero, List.set_cons_succ]
                          refine held_yes 13 (some 256) (.agg #[.int .i64 p, .int .i64 q, .int .i64 r]) rfl rfl (by kernel_rfl) (by kernel_rfl) (by kernel_rfl) (fun _ _ _ h => h) rfl (fun w' hS => by obtain ⟨⟨⟨s0, s1, s2, s3⟩, ⟨s4, s5, s6, s7⟩, ⟨s8, s9, s10⟩, s11, s12, s13⟩, t0, t1, t2⟩ := hS; go_simp) hHeld ?_
                          try simp only [Act.put, List.setIfInBounds_toArray, List.set_cons_zero, List.set_cons_succ]
                          refine held_yes 15 (some 258) (.agg #[.int .i64 x, .int .i64 y, .int .i64 z, .slice Au l.length cu]) rfl rfl (by kernel_rfl) (by kernel_rfl) (by kernel_rfl) (fun _ _ _ h => h) rfl (fun w' hS => by obtain ⟨⟨⟨s0, s1, s2, s3⟩, ⟨s4, s5, s6, s7⟩, ⟨s8, s9, s10⟩, s11, s12, s13⟩, t0, t1, t2⟩ := hS; go_simp) hHeld ?_
                          try simp only [Act.put, List.setIfInBounds_toArray, List.set_cons_zero, List.set_cons_succ]
                          refine held_yes 16 (some 259) (.agg #[.int .i64 i', .int .i64 k', .int .i64 qe]) rfl rfl (by kernel_rfl) (by kernel_rfl) (by kernel_rfl) (fun _ _ _ h => h) rfl (fun w' hS => by obtain ⟨⟨⟨s0, s1, s2, s3⟩, ⟨s4, s5, s6, s7⟩, ⟨s8, s9, s10⟩, s11, s12, s13⟩, t0, t1, t2⟩ := hS; go_simp) hHeld ?_
                          try simp only [Act.put, List.setIfInBounds_toArray, List.set_cons_zero, List.set_cons_succ]
                          refine held_yes 17 (some 260) (.agg #[.int .i64 p, .int .i64 q, .int .i64 r]) rfl rfl (by kernel_rfl) (by kernel_rfl) (by kernel_rfl) (fun _ _ _ h => h) rfl (fun w' hS => by obtain ⟨⟨⟨s0, s1, s2, s3⟩, ⟨s4, s5, s6, s7⟩, ⟨s8, s9, s10⟩, s11, s12, s13⟩, t0, t1, t2⟩ := hS; go_simp) hHeld ?_
                          try simp only [Act.put, List.setIfInBounds_toArray, List.set_cons_zero, List.set_cons_succ]
                          refine wpAnyH_ready (rs := [14]) (by kernel_rfl) (by simp) ?_
                          refine AllReadyH.cons rfl (fun K hK => ?_) AllReadyH.nil
                          go_simp
                          refine (kF1 _ (ksu _ (hbx _ hZd))).mono ?_
                          rintro e1 v14 ⟨rfl, hB⟩
                          replace hZd := hZd.trans (hB.mono hZd.size)
                          go_wp2_with fail
                          refine hK.out _ _ (kk8 _ hZd) (fun hHeld => ?_)
                          clear hK K hB
                          try simp only [Act.put, List.setIfInBounds_toArray, List.set_cons_zero, List.set_cons_succ]
                          refine wpAnyH_ready (rs := [18]) (by kernel_rfl) (by simp) ?_
                          refine AllReadyH.cons rfl (fun K hK => ?_) AllReadyH.nil
                          go_simp
                          refine (kF2 _ (ksu _ (hbx _ hZd))).mono ?_
                          rintro e1 v18 ⟨rfl, hB⟩
                          replace hZd := hZd.trans (hB.mono hZd.size)
                          go_wp2_with fail
                          refine hK.out _ _ (kk8 _ hZd) (fun hHeld => ?_)
                          clear hK K hB
                          try simp only [Act.put, List.setIfInBounds_toArray, List.set_cons_zero, List.set_cons_succ]
                          refine held_yes 19 (some 262) (.bool false) rfl rfl (by kernel_rfl) (by kernel_rfl) (by kernel_rfl) (fun _ _ _ h => h) rfl (fun w' hS => by obtain ⟨⟨⟨s0, s1, s2, s3⟩, ⟨s4, s5, s6, s7⟩, ⟨s8, s9, s10⟩, s11, s12, s13⟩, t0, t1, t2⟩ := hS; go_simp) hHeld ?_
                          try simp only [Act.put, List.setIfInBounds_toArray, List.set_cons_zero, List.set_cons_succ]
                          refine held_yes 20 (some 263) (.bool false) rfl rfl (by kernel_rfl) (by kernel_rfl) (by kernel_rfl) (fun _ _ _ h => h) rfl (fun w' hS => by obtain ⟨⟨⟨s0, s1, s2, s3⟩, ⟨s4, s5, s6, s7⟩, ⟨s8, s9, s10⟩, s11, s12, s13⟩, t0, t1, t2⟩ := hS; go_simp) hHeld ?_
                          try simp only [Act.put, List.setIfInBounds_toArray, List.set_cons_zero, List.set_cons_succ]
                          refine wpAnyH_done (by kernel_rfl) ?_ _
                          clear hHeld
                          obtain ⟨we1, we2⟩ := HWE.out
                          go_wp2_with fail
                          go_roundw
                          case rel => exact ⟨e + 1, by omega, HEK.out, by simp, hZd⟩
                          case measure => exact HEM.out
                        · have hmn : decide ((n1 : Int) < (i : Int)) = true := decide_eq_true (by omega)
                          have hmn2 : decide ((i : Int) < (n1 : Int)) = false := decide_eq_false (by omega)
                          have hmn3 : min (i : Int) (n1 : Int) = (n1 : Int) := by omega
                          have hmn4 : max (i : Int) (n1 : Int) = (i : Int) := by omega
                          have kF1 := fun V (h : SlT V (.slice Au l.length cu) l) => refFar_ok (x, y, z) l _ n1 i e _ _ _ _ (p, q, r) V h htn1 hti ⟨by omega, by omega⟩ (hgok.at_ _ _ htn1).2 (hgok.at_ _ _ hti).2 hcok (wt_wide hgok.wt)
                          have hle := mix_far hmm (show n1 < i by omega) htn1 hti (e := (e : Int)) ⟨by omega, by omega⟩
                          unfold gdV colV at kF1
                          dsimp only at kF1
                          generalize distW (x, y, z) (mixC _ _ _ _) (mul8 (p, q, r)) = d1 at kF1 hle
                          have hdl : decide (d1 < de) = false := decide_eq_false (by omega)
                          clear hle
                          refine wp_region_held_drew (S := fun V => ((V.cell? ⟨w1.heap.size, 0, none⟩ = some (.int .i64 x) ∧ V.cell? ⟨w1.heap.size, 1, none⟩ = some (.int .i64 y) ∧ V.cell? ⟨w1.heap.size, 2, none⟩ = some (.int .i64 z) ∧ V.cell? ⟨w1.heap.size, 3, none⟩ = some (.slice Au l.length cu)) ∧ (V.cell? ⟨w.heap.size, 0, none⟩ = some (.int .i64 x) ∧ V.cell? ⟨w.heap.size, 1, none⟩ = some (.int .i64 y) ∧ V.cell? ⟨w.heap.size, 2, none⟩ = some (.int .i64 z) ∧ V.cell? ⟨w.heap.size, 3, none⟩ = some (.slice (some ⟨b0, o0, none⟩) l.length cap)) ∧ (V.cell? ⟨w.heap.size + 1, 0, none⟩ = some (.int .i64 p) ∧ V.cell? ⟨w.heap.size + 1, 1, none⟩ = some (.int .i64 q) ∧ V.cell? ⟨w.heap.size + 1, 2, none⟩ = some (.int .i64 r)) ∧ (V.cell? ⟨w.heap.size + 1 + 1, 0, none⟩ = some (.int .i64 m0) ∧ V.cell? ⟨w.heap.size + 1 + 1, 1, none⟩ = some (.int .i64 m1) ∧ V.cell? ⟨w.heap.size + 1 + 1, 2, none⟩ = some (.int .i64 m2))) ∧ (V.cell? ⟨gM, 0, none⟩ = some (.int .i64 i') ∧ V.cell? ⟨gM, 1, none⟩ = some (.int .i64 k') ∧ V.cell? ⟨gM, 2, none⟩ = some (.int .i64 qe))) (by kernel_rfl) (kk8 _ hZd) (fun hHeld => ?_)
                          refine held_yes 0 (some 243) (.int .i64 i) rfl rfl (by kernel_rfl) (by kernel_rfl) (by kernel_rfl) (fun _ _ _ h => h) rfl (fun w' hS => by obtain ⟨⟨⟨s0, s1, s2, s3⟩, ⟨s4, s5, s6, s7⟩, ⟨s8, s9, s10⟩, s11, s12, s13⟩, t0, t1, t2⟩ := hS; go_simp) hHeld ?_
                          try simp only [Act.put, List.setIfInBounds_toArray, List.set_cons_zero, List.set_cons_succ]
                          refine held_yes 1 (some 244) (.int .i64 n1) rfl rfl (by kernel_rfl) (by kernel_rfl) (by kernel_rfl) (fun _ _ _ h => h) rfl (fun w' hS => by obtain ⟨⟨⟨s0, s1, s2, s3⟩, ⟨s4, s5, s6, s7⟩, ⟨s8, s9, s10⟩, s11, s12, s13⟩, t0, t1, t2⟩ := hS; go_simp) hHeld ?_
                          try simp only [Act.put, List.setIfInBounds_toArray, List.set_cons_zero, List.set_cons_succ]
                          refine held_yes 2 (some 245) (.bool true) rfl rfl (by kernel_rfl) (by kernel_rfl) (by kernel_rfl) (fun _ _ _ h => h) rfl (fun w' hS => by obtain ⟨⟨⟨s0, s1, s2, s3⟩, ⟨s4, s5, s6, s7⟩, ⟨s8, s9, s10⟩, s11, s12, s13⟩, t0, t1, t2⟩ := hS; go_simp) hHeld ?_
                          try simp only [Act.put, List.setIfInBounds_toArray, List.set_cons_zero, List.set_cons_succ]
                          refine held_yes 3 (some 246) (.bool true) rfl rfl (by kernel_rfl) (by kernel_rfl) (by kernel_rfl) (fun _ _ _ h => h) rfl (fun w' hS => by obtain ⟨⟨⟨s0, s1, s2, s3⟩, ⟨s4, s5, s6, s7⟩, ⟨s8, s9, s10⟩, s11, s12, s13⟩, t0, t1, t2⟩ := hS; go_simp) hHeld ?_
                          try simp only [Act.put, List.setIfInBounds_toArray, List.set_cons_zero, List.set_cons_succ]
                          refine held_yes 4 (some 247) (.agg #[.int .i64 x, .int .i64 y, .int .i64 z, .slice Au l.length cu]) rfl rfl (by kernel_rfl) (by kernel_rfl) (by kernel_rfl) (fun _ _ _ h => h) rfl (fun w' hS => by obtain ⟨⟨⟨s0, s1, s2, s3⟩, ⟨s4, s5, s6, s7⟩, ⟨s8, s9, s10⟩, s11, s12, s13⟩, t0, t1, t2⟩ := hS; go_simp) hHeld ?_
                          try simp only [Act.put, List.setIfInBounds_toArray, List.set_cons_zero, List.set_cons_succ]
                          refine held_yes 5 (some 248) (.int .i64 i) rfl rfl (by kernel_rfl) (by kernel_rfl) (by kernel_rfl) (fun _ _ _ h => h) rfl (fun w' hS => by obtain ⟨⟨⟨s0, s1, s2, s3⟩, ⟨s4, s5, s6, s7⟩, ⟨s8, s9, s10⟩, s11, s12, s13⟩, t0, t1, t2⟩ := hS; go_simp) hHeld ?_
                          try simp only [Act.put, List.setIfInBounds_toArray, List.set_cons_zero, List.set_cons_succ]
                          refine held_yes 6 (some 249) (.int .i64 n1) rfl rfl (by kernel_rfl) (by kernel_rfl) (by kernel_rfl) (fun _ _ _ h => h) rfl (fun w' hS => by obtain ⟨⟨⟨s0, s1, s2, s3⟩, ⟨s4, s5, s6, s7⟩, ⟨s8, s9, s10⟩, s11, s12, s13⟩, t0, t1, t2⟩ := hS; go_simp) hHeld ?_
                          try simp only [Act.put, List.setIfInBounds_toArray, List.set_cons_zero, List.set_cons_succ]
                          refine held_yes 7 (some 250) (.int .i64 n1) rfl rfl (by kernel_rfl) (by kernel_rfl) (by kernel_rfl) (fun _ _ _ h => h) rfl (fun w' hS => by obtain ⟨⟨⟨s0, s1, s2, s3⟩, ⟨s4, s5, s6, s7⟩, ⟨s8, s9, s10⟩, s11, s12, s13⟩, t0, t1, t2⟩ := hS; go_simp) hHeld ?_
                          try simp only [Act.put, List.setIfInBounds_toArray, List.set_cons_zero, List.set_cons_succ]
                          refine held_yes 8 (some 251) (.int .i64 i) rfl rfl (by kernel_rfl) (by kernel_rfl) (by kernel_rfl) (fun _ _ _ h => h) rfl (fun w' hS => by obtain ⟨⟨⟨s0, s1, s2, s3⟩, ⟨s4, s5, s6, s7⟩, ⟨s8, s9, s10⟩, s11, s12, s13⟩, t0, t1, t2⟩ := hS; go_simp) hHeld ?_
                          try simp only [Act.put, List.setIfInBounds_toArray, List.set_cons_zero, List.set_cons_succ]
                          refine held_yes 9 (some 252) (.int .i64 n1) rfl rfl (by kernel_rfl) (by kernel_rfl) (by kernel_rfl) (fun _ _ _ h => h) rfl (fun w' hS => by obtain ⟨⟨⟨s0, s1, s2, s3⟩, ⟨s4, s5, s6, s7⟩, ⟨s8, s9, s10⟩, s11, s12, s13⟩, t0, t1, t2⟩ := hS; go_simp) hHeld ?_
                          try simp only [Act.put, List.setIfInBounds_toArray, List.set_cons_zero, List.set_cons_succ]
                          refine held_yes 10 (some 253) (.int .i64 i) rfl rfl (by kernel_rfl) (by kernel_rfl) (by kernel_rfl) (fun _ _ _ h => h) rfl (fun w' hS => by obtain ⟨⟨⟨s0, s1, s2, s3⟩, ⟨s4, s5, s6, s7⟩, ⟨s8, s9, s10⟩, s11, s12, s13⟩, t0, t1, t2⟩ := hS; go_simp) hHeld ?_
                          try simp only [Act.put, List.setIfInBounds_toArray, List.set_cons_zero, List.set_cons_succ]
                          refine held_yes 11 (some 254) (.int .i64 e) rfl rfl (by kernel_rfl) (by kernel_rfl) (by kernel_rfl) (fun _ _ _ h => h) rfl (fun w' hS => by obtain ⟨⟨⟨s0, s1, s2, s3⟩, ⟨s4, s5, s6, s7⟩, ⟨s8, s9, s10⟩, s11, s12, s13⟩, t0, t1, t2⟩ := hS; go_simp) hHeld ?_
                          try simp only [Act.put, List.setIfInBounds_toArray, List.set_cons_zero, List.set_cons_succ]
                          refine held_yes 12 (some 255) (.agg #[.int .i64 n1, .int .i64 i, .int .i64 e]) rfl rfl (by kernel_rfl) (by kernel_rfl) (by kernel_rfl) (fun _ _ _ h => h) rfl (fun w' hS => by obtain ⟨⟨⟨s0, s1, s2, s3⟩, ⟨s4, s5, s6, s7⟩, ⟨s8, s9, s10⟩, s11, s12, s13⟩, t0, t1, t2⟩ := hS; go_simp) hHeld ?_
                          try simp only [Act.put, List.setIfInBounds_toArray, List.set_cons_zero, List.set_cons_succ]
                          refine held_yes 13 (some 256) (.agg #[.int .i64 p, .int .i64 q, .int .i64 r]) rfl rfl (by kernel_rfl) (by kernel_rfl) (by kernel_rfl) (fun _ _ _ h => h) rfl (fun w' hS => by obtain ⟨⟨⟨s0, s1, s2, s3⟩, ⟨s4, s5, s6, s7⟩, ⟨s8, s9, s10⟩, s11, s12, s13⟩, t0, t1, t2⟩ := hS; go_simp) hHeld ?_
                          try simp only [Act.put, List.setIfInBounds_toArray, List.set_cons_zero, List.set_cons_succ]
                          refine held_yes 15 (some 258) (.agg #[.int .i64 x, .int .i64 y, .int .i64 z, .slice Au l.length cu]) rfl rfl (by kernel_rfl) (by kernel_rfl) (by kernel_rfl) (fun _ _ _ h => h) rfl (fun w' hS => by obtain ⟨⟨⟨s0, s1, s2, s3⟩, ⟨s4, s5, s6, s7⟩, ⟨s8, s9, s10⟩, s11, s12, s13⟩, t0, t1, t2⟩ := hS; go_simp) hHeld ?_
                          try simp only [Act.put, List.setIfInBounds_toArray, List.set_cons_zero, List.set_cons_succ]
                          refine held_yes 16 (some 259) (.agg #[.int .i64 i', .int .i64 k', .int .i64 qe]) rfl rfl (by kernel_rfl) (by kernel_rfl) (by kernel_rfl) (fun _ _ _ h => h) rfl (fun w' hS => by obtain ⟨⟨⟨s0, s1, s2, s3⟩, ⟨s4, s5, s6, s7⟩, ⟨s8, s9, s10⟩, s11, s12, s13⟩, t0, t1, t2⟩ := hS; go_simp) hHeld ?_
                          try simp only [Act.put, List.setIfInBounds_toArray, List.set_cons_zero, List.set_cons_succ]
                          refine held_yes 17 (some 260) (.agg #[.int .i64 p, .int .i64 q, .int .i64 r]) rfl rfl (by kernel_rfl) (by kernel_rfl) (by kernel_rfl) (fun _ _ _ h => h) rfl (fun w' hS => by obtain ⟨⟨⟨s0, s1, s2, s3⟩, ⟨s4, s5, s6, s7⟩, ⟨s8, s9, s10⟩, s11, s12, s13⟩, t0, t1, t2⟩ := hS; go_simp) hHeld ?_
                          try simp only [Act.put, List.setIfInBounds_toArray, List.set_cons_zero, List.set_cons_succ]
                          refine wpAnyH_ready (rs := [14]) (by kernel_rfl) (by simp) ?_
                          refine AllReadyH.cons rfl (fun K hK => ?_) AllReadyH.nil
                          go_simp
                          refine (kF1 _ (ksu _ (hbx _ hZd))).mono ?_
                          rintro e1 v14 ⟨rfl, hB⟩
                          replace hZd := hZd.trans (hB.mono hZd.size)
                          go_wp2_with fail
                          refine hK.out _ _ (kk8 _ hZd) (fun hHeld => ?_)
                          clear hK K hB
                          try simp only [Act.put, List.setIfInBounds_toArray, List.set_cons_zero, List.set_cons_succ]
                          refine wpAnyH_ready (rs := [18]) (by kernel_rfl) (by simp) ?_
                          refine AllReadyH.cons rfl (fun K hK => ?_) AllReadyH.nil
                          go_simp
                          refine (kF2 _ (ksu _ (hbx _ hZd))).mono ?_
                          rintro e1 v18 ⟨rfl, hB⟩
                          replace hZd := hZd.trans (hB.mono hZd.size)
                          go_wp2_with fail
                          refine hK.out _ _ (kk8 _ hZd) (fun hHeld => ?_)
                          clear hK K hB
                          try simp only [Act.put, List.setIfInBounds_toArray, List.set_cons_zero, List.set_cons_succ]
                          refine held_yes 19 (some 262) (.bool false) rfl rfl (by kernel_rfl) (by kernel_rfl) (by kernel_rfl) (fun _ _ _ h => h) rfl (fun w' hS => by obtain ⟨⟨⟨s0, s1, s2, s3⟩, ⟨s4, s5, s6, s7⟩, ⟨s8, s9, s10⟩, s11, s12, s13⟩, t0, t1, t2⟩ := hS; go_simp) hHeld ?_
                          try simp only [Act.put, List.setIfInBounds_toArray, List.set_cons_zero, List.set_cons_succ]
                          refine held_yes 20 (some 263) (.bool false) rfl rfl (by kernel_rfl) (by kernel_rfl) (by kernel_rfl) (fun _ _ _ h => h) rfl (fun w' hS => by obtain ⟨⟨⟨s0, s1, s2, s3⟩, ⟨s4, s5, s6, s7⟩, ⟨s8, s9, s10⟩, s11, s12, s13⟩, t0, t1, t2⟩ := hS; go_simp) hHeld ?_
                          try simp only [Act.put, List.setIfInBounds_toArray, List.set_cons_zero, List.set_cons_succ]
                          refine wpAnyH_done (by kernel_rfl) ?_ _
                          clear hHeld
                          obtain ⟨we1, we2⟩ := HWE.out
                          go_wp2_with fail
                          go_roundw
                          case rel => exact ⟨e + 1, by omega, HEK.out, by simp, hZd⟩
                          case measure => exact HEM.out
                    · obtain ⟨wi1, wi2⟩ := HWI.out
                      go_wp2_with fail
                      go_roundw
                      case rel => exact ⟨i + 1, HIK.out, by simp, hZ⟩
                      case measure => exact HIM.out
                · have hBo := hBw _ (hbx _ hY)
                  go_wp2_with (go_at_call 9; refine (awake9_ok _ (hgk.below hBo)).mono ?_; rintro e w9 ⟨rfl, hQ9⟩)
                  go_ret
                  exact ⟨rfl, hBo.trans (hQ9.mono hBo.size)⟩
end Go.Proofs
