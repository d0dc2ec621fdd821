import Derived.Test.YtpjmobpmpghpeaaGreatDoorNeaU
import Derived.Test.YtpjmobpmpghpeaaGreatDoorErrM
import Derived.Test.YtpjmobpmpghpeaaGreatDoorIntS
import Derived.Test.YtpjmobpmpghpeaaGreatDoorErrN
import Derived.Test.YtpjmobpmpghpeaaGreatDoorErrL
import Derived.Test.YtpjmobpmpghpeaaGreatDoorAwkShop
import Derived.Laws.StructEq
import Derived.Deep.Cut
import Derived.Deep.CutRange
/- ShopShades: the walk. -/
namespace Go.Proofs
open Go.AM Go.RowKit Go.MapKept
set_option maxHeartbeats 16000000
set_option maxRecDepth 1000000
theorem scan_ex {α : Type} (l : List α) (E : Nat → α → Int) : ∀ k, PreE l E k ∨ ∃ e, ScanE l E e
  | 0 => .inl (PreE.zero l E)
  | k + 1 => by
    rcases scan_ex l E k with h | h
    · cases hk : l[k]? with
      | none =>
        refine .inl fun j s hj hs => ?_
        rcases Nat.lt_or_eq_of_le (Nat.le_of_lt_succ hj) with h1 | rfl
        · exact h j s h1 hs
        · rw [hk] at hs
          cases hs
      | some t =>
        by_cases he : E k t = 0
        · exact .inl (h.step hk he)
        · exact .inr ⟨_, h.bad hk he⟩
    · exact .inr h
theorem guideX_ex (ws : Cel) (l : List TabT) : ∃ n, GuideX ws l n := by
  by_cases h1 : sumE ws 1 100 = 0
  · by_cases h2 : l.length = 0
    · exact ⟨12, .inr ⟨h1, .inl ⟨h2, rfl⟩⟩⟩
    · by_cases h3 : 32 < l.length
      · exact ⟨5, .inr ⟨h1, .inr ⟨by omega, .inl ⟨h3, rfl⟩⟩⟩⟩
      · obtain ⟨e, he⟩ : ∃ e, ScanE l (tabE l) e := by
          rcases scan_ex l (tabE l) l.length with h | h
          · exact ⟨0, h.done (Nat.le_refl _)⟩
          · exact h
        exact ⟨e, .inr ⟨h1, .inr ⟨by omega, .inr ⟨by omega, he⟩⟩⟩⟩
  · exact ⟨3, .inl ⟨h1, rfl⟩⟩
theorem or3_zero {a b c : Int} (h : or3 a b c = 0) : a = 0 ∧ b = 0 ∧ c = 0 := by
  rw [or3_orL] at h
  have := orL_eq0.1 h
  exact ⟨this a (by simp), this b (by simp), this c (by simp)⟩
theorem or3_two (a b c : Int) : or3 (or3 a b 0) c 0 = or3 a b c := by
  unfold or3
  by_cases h1 : a = 0 <;> by_cases h2 : b = 0 <;> by_cases h3 : c = 0 <;> simp [h1, h2, h3]
def DistR (ws a b : Cel) (e1 d1 : Int) : Prop := (e1 = 0 → d1 = distW ws b a) ∧ (e1 ≠ 0 → d1 = 0)
theorem dist_all (ws a b : Cel) (v : Value) (l : List TabT) (n : Int) (hn : GuideX ws l n) : ∃ d1, DistR ws a b (or3 n (colE a) (colE b)) d1 ∧ ∀ W, SlT W v l →
    Calls Tryz.prog 21 #[gdV ws v, colV a, colV b] W fun e w' => e = .returned (.tuple #[.int .i64 d1, .int .i64 (or3 n (colE a) (colE b))]) ∧ Below W.heap.size W w' := by
  by_cases h : or3 n (colE a) (colE b) = 0
  · obtain ⟨rfl, h2, h3⟩ := or3_zero h
    refine ⟨distW ws b a, ⟨fun _ => rfl, fun h4 => absurd h h4⟩, fun W hl => ?_⟩
    rw [h]
    exact shDistance_ok ws a b v l W hl hn.ok (colE_iff.1 h2) (colE_iff.1 h3)
  · exact ⟨0, ⟨fun h4 => absurd h4 h, fun _ => rfl⟩, fun W hl => shDistanceE_ok ws a b v l n W hl hn h⟩
def NearR (ws c : Cel) (l : List TabT) (e2 d2 : Int) : Prop := (e2 = 0 → ∃ j : Nat, d2 = j ∧ Least1 (l.map (·.2)) ws c j) ∧ (e2 ≠ 0 → d2 = 0)
theorem near_allX (ws c : Cel) (v : Value) (l : List TabT) (n : Int) (hn : GuideX ws l n) (W : World) (hl : SlT W v l) :
    Calls Tryz.prog 22 #[gdV ws v, colV c] W fun e w' => (∃ d2, e = .returned (.tuple #[.int .i64 d2, .int .i64 (or3 n (colE c) 0)]) ∧ NearR ws c l (or3 n (colE c) 0) d2) ∧ Below W.heap.size W w' := by
  by_cases h : or3 n (colE c) 0 = 0
  · obtain ⟨rfl, h2, -⟩ := or3_zero h
    rw [h]
    refine (shNearest_ok ws c v l W hl hn.ok (colE_iff.1 h2)).mono ?_
    rintro e w' ⟨⟨j, rfl, hj⟩, hB⟩
    exact ⟨⟨j, rfl, fun _ => ⟨j, rfl, hj⟩, fun h4 => absurd rfl h4⟩, hB⟩
  · refine (shNearestE_ok ws c v l n W hl hn h).mono ?_
    rintro e w' ⟨rfl, hB⟩
    exact ⟨⟨0, rfl, fun h4 => absurd h4 h, fun _ => rfl⟩, hB⟩
def MixR (ws c : Cel) (l : List TabT) (e3 a b g : Int) : Prop := (e3 = 0 → ∃ i k : Nat, a = i ∧ b = k ∧ MixTop (DL ws l c) l.length i k g) ∧ (e3 ≠ 0 → a = 0 ∧ b = 0 ∧ g = 0)
theorem mix_allX (ws c : Cel) (v : Value) (l : List TabT) (n : Int) (hn : GuideX ws l n) (hs : ShortG l 6) (W : World) (hl : SlT W v l) :
    Calls Tryz.prog 23 #[gdV ws v, colV c] W fun e w' => (∃ a b g, e = .returned (.tuple #[.agg #[.int .i64 a, .int .i64 b, .int .i64 g], .int .i64 (or3 n (colE c) (if decide ((l.length : Int) < 2) = true then 7 else 0))]) ∧ MixR ws c l (or3 n (colE c) (if decide ((l.length : Int) < 2) = true then 7 else 0)) a b g) ∧ Below W.heap.size W w' := by
  by_cases h : or3 n (colE c) (if decide ((l.length : Int) < 2) = true then 7 else 0) = 0
  · obtain ⟨rfl, h2, h3⟩ := or3_zero h
    have hf := hn.ok.few
    have h26 : 2 ≤ l.length ∧ l.length ≤ 6 := by
      constructor
      · apply Classical.byContradiction
        intro h4
        rw [if_pos (by simp; omega)] at h3
        cases h3
      · unfold ShortG at hs; omega
    rw [h]
    refine (shBest_ok ws c v l W hl hn.ok (colE_iff.1 h2) h26 (mixL_few h26)).mono ?_
    rintro e w' ⟨⟨q, rfl, hq⟩, hB⟩
    obtain ⟨a, b, g, rfl, hT⟩ := best_top hq h26
    exact ⟨⟨a, b, g, rfl, fun _ => ⟨a, b, rfl, rfl, hT⟩, fun h4 => absurd rfl h4⟩, hB⟩
  · refine (shBestX_ok ws c v l n W hl hn h).mono ?_
    rintro e w' ⟨rfl, hB⟩
    exact ⟨⟨0, 0, 0, rfl, fun h4 => absurd h4 h, fun _ => ⟨rfl, rfl, rfl⟩⟩, hB⟩
theorem refGuideN_ok (ws : Cel) (v : Value) (l : List TabT) (n : Int) (w : World) (hl : SlT w v l) (hn : GuideX ws l n) :
    Calls Tryz.prog 24 #[gdV ws v] w fun e w' => e = .returned (.int .i64 n) ∧ Below w.heap.size w w' :=
  (refGuideX_ok ws v l w hl).mono fun e w' ⟨n', he, h, hB⟩ => ⟨by rw [he, h.same hn], hB⟩
theorem eq_mixX (a b c : Int) (w : World) : (Op.equalIn 10000 65 (.agg #[.int .i64 a, .int .i64 b, .int .i64 c]) (.agg #[.int .i64 a, .int .i64 b, .int .i64 c])).run Tryz.prog w = .ok true w := by
  have u3 := Tryz.underlying3
  have a3 := Tryz.isAgg3
  have z3 := Tryz.sizeOf3
  have hS : Tryz.prog.underlying 65 = some (.struct (Tryz.prog.fieldsOf 65)) := by kernel_rfl
  have hp : Tryz.prog.stoodInHeld 65 = false := by kernel_rfl
  rw [show (10000 : Nat) = 9999 + 1 from rfl, run_equalIn_agg w 9999 65 _ _ hS hp]
  simp only [Program.fieldsOf, Tryz.underlying65]
  go_simp
theorem shades_in (ws a b : Cel) (v : Value) (l : List TabT) (w : World) (hgk : GOk gN gRows w) (hl : SlT w v l) (hn : l.length ≤ 1048576) :
    Calls Tryz.prog 4 #[gdV ws v, colV a, colV b] w fun e w' => e = .returned (.bool true) ∧ Below w.heap.size w w' := by
  obtain ⟨x, y, z⟩ := ws
  obtain ⟨p, q, r⟩ := a
  obtain ⟨m0, m1, m2⟩ := b
  obtain ⟨A, cap, rfl⟩ := hl.form
  have kCc := fun W => refColour_ok (p, q, r) W
  have kCm := fun W => refColour_ok (m0, m1, m2) W
  have kSG := fun W (h : SlT W (.slice A l.length cap) l) => lawGuide_ok (x, y, z) _ l W h hn
  obtain ⟨n, hgx⟩ := guideX_ex (x, y, z) l
  have kG := fun W (h : SlT W (.slice A l.length cap) l) => shGuideN_ok (x, y, z) _ l n W h hgx
  obtain ⟨d1, hd1, kD⟩ := dist_all (x, y, z) (p, q, r) (m0, m1, m2) (.slice A l.length cap) l n hgx
  have kN := fun W (h : SlT W (.slice A l.length cap) l) => near_allX (x, y, z) (p, q, r) _ l n hgx W h
  have kM := fun (hs : ShortG l 6) W (h : SlT W (.slice A l.length cap) l) => mix_allX (x, y, z) (p, q, r) _ l n hgx hs W h
  obtain ⟨b7, hb7⟩ : ∃ b7, decide ((l.length : Int) < 2) = b7 := ⟨_, rfl⟩
  rw [hb7] at kM
  have kW := fun W => lawWhen_ok b7 7 W
  have HOK : RowKit.Hid (∀ e : Int, (n = 0 → GuideOk (x, y, z) l) ∧ (colE (p, q, r) = 0 → ColOk (p, q, r) 0 255) ∧ (colE (m0, m1, m2) = 0 → ColOk (m0, m1, m2) 0 255)) := Lib.hid fun _ => ⟨fun h => (h ▸ hgx).ok, fun h => colE_iff.1 h, fun h => colE_iff.1 h⟩
  have HGX := Lib.hid hgx
  clear hgx
  generalize colE (p, q, r) = ca at hd1 kCc kD kN kM HOK
  generalize colE (m0, m1, m2) = cb at hd1 kCm kD HOK
  have HC7 : RowKit.Hid (b7 = true → (if b7 = true then (7 : Int) else 0) ≠ 0) := Lib.hid fun h => by rw [if_pos h]; decide
  generalize (if b7 = true then (7 : Int) else 0) = c7 at kM kW HC7
  have ho3 := fun blk cap W => lawFirst3 n ca cb blk cap W
  have ho2 := fun blk cap W => lawFirst2 n ca blk cap W
  have ho7 := fun blk cap W => lawFirst2 (or3 n ca 0) c7 blk cap W
  have H12 : RowKit.Hid (or3 n ca cb = 0 → or3 n ca 0 = 0) := Lib.hid fun h => by obtain ⟨rfl, rfl, -⟩ := or3_zero h; rfl
  have H32 : RowKit.Hid (or3 n ca c7 = 0 → or3 n ca 0 = 0) := Lib.hid fun h => by obtain ⟨rfl, rfl, -⟩ := or3_zero h; rfl
  have HZ2 : RowKit.Hid (or3 n ca 0 = 0 → n = 0 ∧ ca = 0) := Lib.hid fun h => by obtain ⟨h1, h2, -⟩ := or3_zero h; exact ⟨h1, h2⟩
  have HZ1 : RowKit.Hid (or3 n ca cb = 0 → n = 0 ∧ ca = 0 ∧ cb = 0) := Lib.hid fun h => or3_zero h
  have HZ3 : RowKit.Hid (or3 n ca c7 = 0 → c7 = 0) := Lib.hid fun h => (or3_zero h).2.2
  rw [or3_two] at ho7
  generalize or3 n ca c7 = e3 at kM ho7 H32 HZ3
  generalize or3 n ca cb = e1 at hd1 kD ho3 H12 HZ1
  generalize or3 n ca 0 = e2 at kN ho2 ho7 H12 H32 HZ2
  unfold gdV at kSG
  unfold colV at kCc kCm kD kN kM
  unfold gdV at kG kD kN kM
  unfold gdV colV
  dsimp only at kSG kCc kCm kG kD kN kM ⊢
  obtain ⟨W0, hW⟩ : ∃ W0, W0 = ((w.alloc (.cells #[.int .i64 x, .int .i64 y, .int .i64 z, .slice A l.length cap] 50)).alloc (.cells #[.int .i64 p, .int .i64 q, .int .i64 r] 47)).alloc (.cells #[.int .i64 m0, .int .i64 m1, .int .i64 m2] 47) := ⟨_, rfl⟩
  have hB0 : Below w.heap.size w W0 := by subst hW; exact (((Below.refl _ _).alloc (Nat.le_refl _) _).alloc (by simp) _).alloc (by simp; omega) _
  have hz0 : W0.heap.size = w.heap.size + 1 + 1 + 1 := by subst hW; simp
  have rg : W0.heap[w.heap.size]? = some (.cells #[.int .i64 x, .int .i64 y, .int .i64 z, .slice A l.length cap] 50 (0, 0)) := by subst hW; exact (Below.heap_alloc _ _ _ (by simp; omega)).trans ((Below.heap_alloc _ _ _ (by simp)).trans (heap_alloc_new w _))
  have rc : W0.heap[w.heap.size + 1]? = some (.cells #[.int .i64 p, .int .i64 q, .int .i64 r] 47 (0, 0)) := by
    have := heap_alloc_new (w.alloc (.cells #[.int .i64 x, .int .i64 y, .int .i64 z, .slice A l.length cap] 50)) (.cells #[.int .i64 p, .int .i64 q, .int .i64 r] 47)
    rw [hW, Below.heap_alloc _ _ _ (by simp)]
    simpa using this
  have rm : W0.heap[w.heap.size + 1 + 1]? = some (.cells #[.int .i64 m0, .int .i64 m1, .int .i64 m2] 47 (0, 0)) := by
    have := heap_alloc_new ((w.alloc (.cells #[.int .i64 x, .int .i64 y, .int .i64 z, .slice A l.length cap] 50)).alloc (.cells #[.int .i64 p, .int .i64 q, .int .i64 r] 47)) (.cells #[.int .i64 m0, .int .i64 m1, .int .i64 m2] 47)
    rw [← hW] at this
    simpa using this
  obtain ⟨g0, g1, g2, g3⟩ := four_cells rg
  have hl0 := hl.below hB0
  go_enter Tryz.func4, Tryz.ntmps4
  go_wp2_with fail
  rw [← hW]
  clear hW
  refine (kSG _ hl0).mono ?_
  rintro e w1 ⟨⟨u, rfl, hu⟩, hQ1⟩
  obtain ⟨Au, cu, rfl⟩ := hu.sl.form
  clear kSG g0 g1 g2 g3 hl0
  obtain ⟨Wx, hWx⟩ : ∃ Wx, Wx = w1.alloc (.cells #[.int .i64 x, .int .i64 y, .int .i64 z, .slice Au l.length cu] 53) := ⟨_, rfl⟩
  have rx : Wx.heap[w1.heap.size]? = some (.cells #[.int .i64 x, .int .i64 y, .int .i64 z, .slice Au l.length cu] 53 (0, 0)) := by subst hWx; exact heap_alloc_new w1 _
  have hxl : w1.heap.size < Wx.heap.size := (Array.getElem?_eq_some_iff.1 rx).1
  have hQx : Below w1.heap.size w1 Wx := by subst hWx; exact (Below.refl _ _).alloc (Nat.le_refl _) _
  have hQ0 : Below W0.heap.size W0 Wx := hQ1.trans (hQx.mono hQ1.size)
  have hux : SlT Wx (.slice Au l.length cu) l := (hu.keep hQx).sl
  have hz1 : W0.heap.size ≤ Wx.heap.size := hQ0.size
  have hBx := hB0.trans (hQ0.mono hB0.size)
  have hBw : ∀ V, Below Wx.heap.size Wx V → Below w.heap.size w V := fun V h => hBx.trans (h.mono hBx.size)
  have ksl : ∀ V, Below Wx.heap.size Wx V → SlT V (.slice A l.length cap) l := fun V h => hl.below (hBw V h)
  have ksu : ∀ V, Below Wx.heap.size Wx V → SlT V (.slice Au l.length cu) l := fun V h => hux.below h
  have kk : ∀ V, Below Wx.heap.size Wx V → (V.cell? ⟨w1.heap.size, 0, none⟩ = some (.int .i64 x) ∧ V.cell? ⟨w1.heap.size, 1, none⟩ = some (.int .i64 y) ∧ V.cell? ⟨w1.heap.size, 2, none⟩ = some (.int .i64 z) ∧ V.cell? ⟨w1.heap.size, 3, none⟩ = some (.slice Au l.length cu)) ∧ (V.cell? ⟨w.heap.size, 0, none⟩ = some (.int .i64 x) ∧ V.cell? ⟨w.heap.size, 1, none⟩ = some (.int .i64 y) ∧ V.cell? ⟨w.heap.size, 2, none⟩ = some (.int .i64 z) ∧ V.cell? ⟨w.heap.size, 3, none⟩ = some (.slice A l.length cap)) ∧ (V.cell? ⟨w.heap.size + 1, 0, none⟩ = some (.int .i64 p) ∧ V.cell? ⟨w.heap.size + 1, 1, none⟩ = some (.int .i64 q) ∧ V.cell? ⟨w.heap.size + 1, 2, none⟩ = some (.int .i64 r)) ∧ (V.cell? ⟨w.heap.size + 1 + 1, 0, none⟩ = some (.int .i64 m0) ∧ V.cell? ⟨w.heap.size + 1 + 1, 1, none⟩ = some (.int .i64 m1) ∧ V.cell? ⟨w.heap.size + 1 + 1, 2, none⟩ = some (.int .i64 m2)) := fun V h => by
    have h0 := hQ0.trans (h.mono hQ0.size)
    exact ⟨four_cells ((h.block _ hxl).trans rx), four_cells ((h0.block _ (by omega)).trans rg), three_cellsS ((h0.block _ (by omega)).trans rc), three_cellsS ((h0.block _ (by omega)).trans rm)⟩
  have kShort := fun W (h : SlT W (.slice Au l.length cu) l) => refShortX_ok (x, y, z) _ l W h
  have kGd := fun W (h : SlT W (.slice Au l.length cu) l) => refGuideN_ok (x, y, z) _ l n W h HGX.out
  unfold gdV at kShort kGd
  dsimp only at kShort kGd
  have hX := Below.refl Wx.heap.size Wx
  obtain ⟨⟨s0, s1, s2, s3⟩, ⟨s4, s5, s6, s7⟩, ⟨s8, s9, s10⟩, s11, s12, s13⟩ := kk _ hX
  go_wp2_with fail
  rw [← hWx]
  clear hWx hux hu hQ1 hQx
  refine (kShort _ (ksu _ hX)).mono ?_
  rintro e V1 ⟨⟨rs, rfl, hS⟩, hB⟩
  replace hX := hX.trans (hB.mono hX.size)
  clear hB kShort s0 s1 s2 s3 s4 s5 s6 s7 s8 s9 s10 s11 s12 s13
  obtain ⟨⟨s0, s1, s2, s3⟩, ⟨s4, s5, s6, s7⟩, ⟨s8, s9, s10⟩, s11, s12, s13⟩ := kk _ hX
  cases rs with
  | false =>
    have hBo := hBw _ hX
    clear hS
    go_wp2_with (go_at_call 9; refine (awake9_ok _ (hgk.below hBo)).mono ?_; rintro e w9 ⟨rfl, hQ9⟩)
    go_ret
    exact ⟨rfl, hBo.trans (hQ9.mono hBo.size)⟩
  | true =>
  have kM := kM (hS rfl)
  have HSH := Lib.hid (hS rfl)
  clear hS
  go_wp2_with fail
  refine (kD _ (ksl _ hX)).mono ?_
  rintro e V2 ⟨rfl, hB⟩
  replace hX := hX.trans (hB.mono hX.size)
  clear hB s0 s1 s2 s3 s4 s5 s6 s7 s8 s9 s10 s11 s12 s13
  obtain ⟨⟨s0, s1, s2, s3⟩, ⟨s4, s5, s6, s7⟩, ⟨s8, s9, s10⟩, s11, s12, s13⟩ := kk _ hX
  clear kD
  go_wp2_with fail
  refine (kN _ (ksl _ hX)).mono ?_
  rintro e V3 ⟨⟨d2, rfl, hd2⟩, hB⟩
  replace hX := hX.trans (hB.mono hX.size)
  clear hB s0 s1 s2 s3 s4 s5 s6 s7 s8 s9 s10 s11 s12 s13
  obtain ⟨⟨s0, s1, s2, s3⟩, ⟨s4, s5, s6, s7⟩, ⟨s8, s9, s10⟩, s11, s12, s13⟩ := kk _ hX
  clear kN
  go_wp2_with fail
  refine (kM _ (ksl _ hX)).mono ?_
  rintro e V4 ⟨⟨qa, qb, qg, rfl, hd3⟩, hB⟩
  replace hX := hX.trans (hB.mono hX.size)
  clear hB s0 s1 s2 s3 s4 s5 s6 s7 s8 s9 s10 s11 s12 s13
  obtain ⟨⟨s0, s1, s2, s3⟩, ⟨s4, s5, s6, s7⟩, ⟨s8, s9, s10⟩, s11, s12, s13⟩ := kk _ hX
  clear kM
  obtain ⟨Wy, hWy⟩ : ∃ Wy, Wy = V4.alloc (.cells #[.int .i64 qa, .int .i64 qb, .int .i64 qg] 60) := ⟨_, rfl⟩
  have rM : RowK Wy 60 V4.heap.size [.int .i64 qa, .int .i64 qb, .int .i64 qg] := by subst hWy; exact heap_alloc_new V4 _
  have hXy : Below Wx.heap.size Wx Wy := by subst hWy; exact hX.alloc hX.size _
  have hlt1 : w1.heap.size < V4.heap.size := Nat.lt_of_lt_of_le hxl hX.size
  have hne1 : w1.heap.size ≠ V4.heap.size := Nat.ne_of_lt hlt1
  have HWY := Lib.hid hWy
  clear hWy hX
  go_wp2_with fail
  rw [← HWY.out]
  clear HWY hlt1 hne1 s0 s1 s2 s3 s4 s5 s6 s7 s8 s9 s10 s11 s12 s13
  have hX := hXy
  clear hXy
  generalize V4.heap.size = gM at rM
  refine (kGd _ (ksu _ hX)).mono ?_
  rintro e V5 ⟨rfl, hB⟩
  have hY := hB
  replace hX := hX.trans (hB.mono hX.size)
  clear hB kGd
  obtain ⟨⟨s0, s1, s2, s3⟩, ⟨s4, s5, s6, s7⟩, ⟨s8, s9, s10⟩, s11, s12, s13⟩ := kk _ hX
  go_wp2_with fail
  have hD := hX.drew
  have hYd := hY.drew
  have hky := kk _ hD
  go_region_held3 (fun V => (V.cell? ⟨w1.heap.size, 0, none⟩ = some (.int .i64 x) ∧ V.cell? ⟨w1.heap.size, 1, none⟩ = some (.int .i64 y) ∧ V.cell? ⟨w1.heap.size, 2, none⟩ = some (.int .i64 z) ∧ V.cell? ⟨w1.heap.size, 3, none⟩ = some (.slice Au l.length cu)) ∧ (V.cell? ⟨w.heap.size, 0, none⟩ = some (.int .i64 x) ∧ V.cell? ⟨w.heap.size, 1, none⟩ = some (.int .i64 y) ∧ V.cell? ⟨w.heap.size, 2, none⟩ = some (.int .i64 z) ∧ V.cell? ⟨w.heap.size, 3, none⟩ = some (.slice A l.length cap)) ∧ (V.cell? ⟨w.heap.size + 1, 0, none⟩ = some (.int .i64 p) ∧ V.cell? ⟨w.heap.size + 1, 1, none⟩ = some (.int .i64 q) ∧ V.cell? ⟨w.heap.size + 1, 2, none⟩ = some (.int .i64 r)) ∧ (V.cell? ⟨w.heap.size + 1 + 1, 0, none⟩ = some (.int .i64 m0) ∧ V.cell? ⟨w.heap.size + 1 + 1, 1, none⟩ = some (.int .i64 m1) ∧ V.cell? ⟨w.heap.size + 1 + 1, 2, none⟩ = some (.int .i64 m2))) (first | exact hky | exact hkyA | go_keep)
    (first
      | (go_at_call 25; with_reducible refine (kCc _).mono ?_; rintro e v1 ⟨rfl, hQ1⟩; have hX1 := hD.trans (hQ1.mono hD.size); have hY1 := hYd.trans (hQ1.mono hYd.size); have hky := kk _ hX1)
      | (go_at_call 25; with_reducible refine (kCm _).mono ?_; rintro e v2 ⟨rfl, hQ2⟩; have hX2 := hX1.trans (hQ2.mono hX1.size); have hY2 := hY1.trans (hQ2.mono hY1.size); have hky := kk _ hX2; have hX3 := hX2.alloc hX2.size (.cells #[.int .i64 n, .int .i64 ca, .int .i64 cb] 3); have hY3 := hY2.alloc hY2.size (.cells #[.int .i64 n, .int .i64 ca, .int .i64 cb] 3); have hkyA := kk _ hX3)
      | (go_at_call 13; refine (ho3 _ _ _ ?_ ?_ ?_).mono ?_; (go_simp); (go_simp); (go_simp); rintro e w5 ⟨rfl, rfl⟩))
  rename_i hHeld
  clear hHeld hkyA hky hX hY hX1 hX2 hY1 hY2 hQ1 hQ2 hD hYd s0 s1 s2 s3 s4 s5 s6 s7 s8 s9 s10 s11 s12 s13
  generalize v2.alloc (.cells #[.int .i64 n, .int .i64 ca, .int .i64 cb] 3) = V6 at hX3 hY3 ⊢
  have hX := hX3
  have hY := hY3
  clear hX3 hY3
  obtain ⟨⟨s0, s1, s2, s3⟩, ⟨s4, s5, s6, s7⟩, ⟨s8, s9, s10⟩, s11, s12, s13⟩ := kk _ hX
  go_wp2_with fail
  refine (kCc _).mono ?_
  rintro e V7 ⟨rfl, hB⟩
  replace hX := hX.trans (hB.mono hX.size)
  replace hY := hY.trans (hB.mono hY.size)
  clear hB s0 s1 s2 s3 s4 s5 s6 s7 s8 s9 s10 s11 s12 s13
  go_wp2_with fail
  refine (ho2 _ _ _ ?_ ?_).mono ?_
  · go_simp
  · go_simp
  rintro e w5 ⟨rfl, rfl⟩
  replace hX := hX.alloc hX.size (.cells #[.int .i64 n, .int .i64 ca] 3)
  replace hY := hY.alloc hY.size (.cells #[.int .i64 n, .int .i64 ca] 3)
  generalize V7.alloc (.cells #[.int .i64 n, .int .i64 ca] 3) = V8 at hX hY ⊢
  obtain ⟨⟨s0, s1, s2, s3⟩, ⟨s4, s5, s6, s7⟩, ⟨s8, s9, s10⟩, s11, s12, s13⟩ := kk _ hX
  go_wp2_with fail
  refine (kW _).mono ?_
  rintro e w5 ⟨rfl, hw5⟩
  obtain rfl : V8 = w5 := hw5.symm
  clear s0 s1 s2 s3 s4 s5 s6 s7 s8 s9 s10 s11 s12 s13
  go_wp2_with fail
  refine (ho7 _ _ _ ?_ ?_).mono ?_
  · go_simp
  · go_simp
  rintro e w5 ⟨rfl, rfl⟩
  replace hX := hX.alloc hX.size (.cells #[.int .i64 e2, .int .i64 c7] 3)
  replace hY := hY.alloc hY.size (.cells #[.int .i64 e2, .int .i64 c7] 3)
  generalize V8.alloc (.cells #[.int .i64 e2, .int .i64 c7] 3) = V9 at hX hY ⊢
  obtain ⟨Wz, hWz⟩ : ∃ Wz, Wz = V9.alloc (.cells #[.int .i64 0, .int .i64 0, .int .i64 0] 65) := ⟨_, rfl⟩
  have rN : RowK Wz 65 V9.heap.size [.int .i64 0, .int .i64 0, .int .i64 0] := by subst hWz; exact heap_alloc_new V9 _
  have hXz : Below Wx.heap.size Wx Wz := by subst hWz; exact hX.alloc hX.size _
  have hYz : Below Wy.heap.size Wy Wz := by subst hWz; exact hY.alloc hY.size _
  have hx9 := hX.size
  have hy9 := hY.size
  have hm9 := rM.lt
  go_upto_region 13 with fail
  rw [← hWz]
  clear hWz
  generalize V9.heap.size = gN at rN hx9 hy9 ⊢
  have HMG := Lib.hid (rM.below hYz)
  have HNG := Lib.hid rN
  have HNE := Lib.hid (show gM < gN by omega)
  clear hX hY rM rN hYz ho2 ho3 ho7 kW
  have hX := hXz
  clear hXz
  by_cases hz1 : e1 = 0
  · have hz2 := H12.out hz1
    by_cases hz3 : e3 = 0
    · skip
      have hb1 : (e1 == 0) = true := by simpa using hz1
      have hb2 : (e2 == 0) = true := by simpa using hz2
      have hb3 : (e3 == 0) = true := by simpa using hz3
      have hr1 := fun W => refDist_ok (x, y, z) (p, q, r) (m0, m1, m2) (.slice Au l.length cu) W (wt_wide ((HOK.out 0).1 (HZ1.out hz1).1).wt) (col_wide ((HOK.out 0).2.1 (HZ1.out hz1).2.1)) (col_wide ((HOK.out 0).2.2 (HZ1.out hz1).2.2))
      rw [dist_sym, ← hd1.1 hz1] at hr1
      unfold gdV colV at hr1
      dsimp only at hr1
      have hd10 : RowKit.Hid (e1 = 0 ∨ d1 = 0) := Lib.hid (.inl hz1)
      have hn0 := HZ2.out hz2
      have hr2 : ∀ W, SlT W (.slice Au l.length cu) l → Calls Tryz.prog 27 #[gdV (x, y, z) (.slice Au l.length cu), colV (p, q, r)] W fun e w' => e = .returned (.int .i64 d2) ∧ Below W.heap.size W w' := fun W h => (refNearest_ok (x, y, z) (p, q, r) _ l W h ((HOK.out 0).1 hn0.1) ((HOK.out 0).2.1 hn0.2)).mono (by
        rintro e w' ⟨⟨j, rfl, hj⟩, hB⟩
        obtain ⟨j2, rfl, hj2⟩ := hd2.1 hz2
        rw [hj.same hj2]
        exact ⟨rfl, hB⟩)
      unfold gdV colV at hr2
      dsimp only at hr2
      have hd20 : RowKit.Hid (e2 = 0 ∨ d2 = 0) := Lib.hid (.inl hz2)
      have hc7 := HZ3.out hz3
      have h2l : 2 ≤ l.length := by
        apply Classical.byContradiction
        intro h4
        rw [decide_eq_true (show (l.length : Int) < 2 by omega)] at hb7
        exact HC7.out hb7.symm hc7
      obtain ⟨qi, qk, rfl, rfl, hT⟩ := hd3.1 hz3
      have hr3 : ∀ W, SlT W (.slice Au l.length cu) l → Calls Tryz.prog 28 #[gdV (x, y, z) (.slice Au l.length cu), colV (p, q, r)] W fun e w' => e = .returned (.agg #[.int .i64 qi, .int .i64 qk, .int .i64 qg]) ∧ Below W.heap.size W w' := fun W h => (refMixed_ok (x, y, z) (p, q, r) _ l W h ((HOK.out 0).1 hn0.1) ((HOK.out 0).2.1 hn0.2) h2l).mono (by
        rintro e w' ⟨⟨a, b, g, rfl, hT2⟩, hB⟩
        obtain ⟨rfl, rfl, rfl⟩ := hT2.same hT
        exact ⟨rfl, hB⟩)
      unfold gdV colV at hr3
      dsimp only at hr3
      have hZ := Below.refl Wz.heap.size Wz
      have kI1 := fun W => lawInt_ok d1 e1 hd10.out W
      have kI2 := fun W => lawInt_ok d2 e2 hd20.out W
      clear hz1 hz2 hz3 hd10 hd20
      obtain ⟨⟨s0, s1, s2, s3⟩, ⟨s4, s5, s6, s7⟩, ⟨s8, s9, s10⟩, s11, s12, s13⟩ := kk _ (hX.trans (hZ.mono hX.size))
      go_wp2_with fail
      refine (hr1 _).mono ?_
      rintro e Va ⟨rfl, hB⟩
      replace hZ := hZ.trans (hB.mono hZ.size)
      clear hB s0 s1 s2 s3 s4 s5 s6 s7 s8 s9 s10 s11 s12 s13
      obtain ⟨⟨s0, s1, s2, s3⟩, ⟨s4, s5, s6, s7⟩, ⟨s8, s9, s10⟩, s11, s12, s13⟩ := kk _ (hX.trans (hZ.mono hX.size))
      go_wp2_with fail
      refine (hr2 _ (ksu _ (hX.trans (hZ.mono hX.size)))).mono ?_
      rintro e Vb ⟨rfl, hB⟩
      replace hZ := hZ.trans (hB.mono hZ.size)
      clear hB s0 s1 s2 s3 s4 s5 s6 s7 s8 s9 s10 s11 s12 s13
      obtain ⟨⟨s0, s1, s2, s3⟩, ⟨s4, s5, s6, s7⟩, ⟨s8, s9, s10⟩, s11, s12, s13⟩ := kk _ (hX.trans (hZ.mono hX.size))
      go_wp2_with fail
      refine (hr3 _ (ksu _ (hX.trans (hZ.mono hX.size)))).mono ?_
      rintro e Vc ⟨rfl, hB⟩
      replace hZ := hZ.trans (hB.mono hZ.size)
      clear hB s0 s1 s2 s3 s4 s5 s6 s7 s8 s9 s10 s11 s12 s13
      have rN := HNG.out.below hZ
      have z0 : Vc.cell? ⟨gN, 0, none⟩ = some (.int .i64 0) := rN.cell (by rfl)
      have z1 : Vc.cell? ⟨gN, 1, none⟩ = some (.int .i64 0) := rN.cell (by rfl)
      have z2 : Vc.cell? ⟨gN, 2, none⟩ = some (.int .i64 0) := rN.cell (by rfl)
      have f0 := rN.fz 0
      have f1 := rN.fz 1
      have f2 := rN.fz 2
      have rN3 : RowK (((Vc.setCell ⟨gN, 0, none⟩ (.int .i64 qi)).setCell ⟨gN, 1, none⟩ (.int .i64 qk)).setCell ⟨gN, 2, none⟩ (.int .i64 qg)) 65 gN [.int .i64 qi, .int .i64 qk, .int .i64 qg] := ((rN.set 0 (.int .i64 qi)).set 1 (.int .i64 qk)).set 2 (.int .i64 qg)
      have hF3 := (((hZ.mono (Nat.le_of_lt HNG.out.lt)).setCell (p := ⟨gN, 0, none⟩) (Nat.le_refl _) (.int .i64 qi)).setCell (p := ⟨gN, 1, none⟩) (Nat.le_refl _) (.int .i64 qk)).setCell (p := ⟨gN, 2, none⟩) (Nat.le_refl _) (.int .i64 qg)
      have HF := Lib.hid (And.intro rN3 hF3)
      clear rN rN3 hF3
      go_upto_region 19 with fail
      obtain ⟨rN, hF⟩ := HF.out
      generalize ((Vc.setCell ⟨gN, 0, none⟩ (.int .i64 qi)).setCell ⟨gN, 1, none⟩ (.int .i64 qk)).setCell ⟨gN, 2, none⟩ (.int .i64 qg) = W9 at rN hF ⊢
      clear HF z0 z1 z2 f0 f1 f2 hr3
      clear hZ
      have rM : RowK W9 60 gM [.int .i64 qi, .int .i64 qk, .int .i64 qg] := HMG.out.keep (hF.block _ HNE.out)
      have hFx := hX.trans (hF.mono hx9)
      obtain ⟨-, ⟨s0, s1, s2, s3⟩, -⟩ := kk _ hFx
      go_wp2_with fail
      refine (kG _ (ksl _ hFx)).mono ?_
      rintro e Vd ⟨rfl, hB⟩
      have hFd := hFx.trans (hB.mono hFx.size)
      have hBo := hBw _ hFd
      have m0' : Vd.cell? ⟨gM, 0, none⟩ = some (.int .i64 qi) := (rM.below hB).cell (by rfl)
      have m1' : Vd.cell? ⟨gM, 1, none⟩ = some (.int .i64 qk) := (rM.below hB).cell (by rfl)
      have m2' : Vd.cell? ⟨gM, 2, none⟩ = some (.int .i64 qg) := (rM.below hB).cell (by rfl)
      have n0' : Vd.cell? ⟨gN, 0, none⟩ = some (.int .i64 qi) := (rN.below hB).cell (by rfl)
      have n1' : Vd.cell? ⟨gN, 1, none⟩ = some (.int .i64 qk) := (rN.below hB).cell (by rfl)
      have n2' : Vd.cell? ⟨gN, 2, none⟩ = some (.int .i64 qg) := (rN.below hB).cell (by rfl)
      have keq := eq_mixX qi qk qg
      clear hB rM rN s0 s1 s2 s3 hF hFx
      go_wp2_with (first
        | (go_at_call 30; (first | with_reducible refine (kI1 _).mono ?_ | with_reducible refine (kI2 _).mono ?_); rintro e w5 ⟨rfl, rfl⟩)
        | (go_at_call 9; refine (awake9_ok _ (hgk.below hBo)).mono ?_; rintro e w9 ⟨rfl, hQ9⟩))
      go_ret
      exact ⟨rfl, hBo.trans (hQ9.mono hBo.size)⟩
    · skip
      have hb1 : (e1 == 0) = true := by simpa using hz1
      have hb2 : (e2 == 0) = true := by simpa using hz2
      have hb3 : (e3 == 0) = false := by simpa using hz3
      have hr1 := fun W => refDist_ok (x, y, z) (p, q, r) (m0, m1, m2) (.slice Au l.length cu) W (wt_wide ((HOK.out 0).1 (HZ1.out hz1).1).wt) (col_wide ((HOK.out 0).2.1 (HZ1.out hz1).2.1)) (col_wide ((HOK.out 0).2.2 (HZ1.out hz1).2.2))
      rw [dist_sym, ← hd1.1 hz1] at hr1
      unfold gdV colV at hr1
      dsimp only at hr1
      have hd10 : RowKit.Hid (e1 = 0 ∨ d1 = 0) := Lib.hid (.inl hz1)
      have hn0 := HZ2.out hz2
      have hr2 : ∀ W, SlT W (.slice Au l.length cu) l → Calls Tryz.prog 27 #[gdV (x, y, z) (.slice Au l.length cu), colV (p, q, r)] W fun e w' => e = .returned (.int .i64 d2) ∧ Below W.heap.size W w' := fun W h => (refNearest_ok (x, y, z) (p, q, r) _ l W h ((HOK.out 0).1 hn0.1) ((HOK.out 0).2.1 hn0.2)).mono (by
        rintro e w' ⟨⟨j, rfl, hj⟩, hB⟩
        obtain ⟨j2, rfl, hj2⟩ := hd2.1 hz2
        rw [hj.same hj2]
        exact ⟨rfl, hB⟩)
      unfold gdV colV at hr2
      dsimp only at hr2
      have hd20 : RowKit.Hid (e2 = 0 ∨ d2 = 0) := Lib.hid (.inl hz2)
      obtain ⟨rfl, rfl, rfl⟩ := hd3.2 hz3
      have hZ := Below.refl Wz.heap.size Wz
      have kI1 := fun W => lawInt_ok d1 e1 hd10.out W
      have kI2 := fun W => lawInt_ok d2 e2 hd20.out W
      clear hz1 hz2 hz3 hd10 hd20
      obtain ⟨⟨s0, s1, s2, s3⟩, ⟨s4, s5, s6, s7⟩, ⟨s8, s9, s10⟩, s11, s12, s13⟩ := kk _ (hX.trans (hZ.mono hX.size))
      go_wp2_with fail
      refine (hr1 _).mono ?_
      rintro e Va ⟨rfl, hB⟩
      replace hZ := hZ.trans (hB.mono hZ.size)
      clear hB s0 s1 s2 s3 s4 s5 s6 s7 s8 s9 s10 s11 s12 s13
      obtain ⟨⟨s0, s1, s2, s3⟩, ⟨s4, s5, s6, s7⟩, ⟨s8, s9, s10⟩, s11, s12, s13⟩ := kk _ (hX.trans (hZ.mono hX.size))
      go_wp2_with fail
      refine (hr2 _ (ksu _ (hX.trans (hZ.mono hX.size)))).mono ?_
      rintro e Vb ⟨rfl, hB⟩
      replace hZ := hZ.trans (hB.mono hZ.size)
      clear hB s0 s1 s2 s3 s4 s5 s6 s7 s8 s9 s10 s11 s12 s13
      obtain ⟨⟨s0, s1, s2, s3⟩, ⟨s4, s5, s6, s7⟩, ⟨s8, s9, s10⟩, s11, s12, s13⟩ := kk _ (hX.trans (hZ.mono hX.size))
      clear s0 s1 s2 s3 s4 s5 s6 s7 s8 s9 s10 s11 s12 s13
      go_upto_region 19 with fail
      have rN := HNG.out.below hZ
      have hF := hZ.mono (Nat.le_of_lt HNG.out.lt)
      generalize Vb = W9 at rN hF hZ ⊢
      clear hZ
      have rM : RowK W9 60 gM [.int .i64 0, .int .i64 0, .int .i64 0] := HMG.out.keep (hF.block _ HNE.out)
      have hFx := hX.trans (hF.mono hx9)
      obtain ⟨-, ⟨s0, s1, s2, s3⟩, -⟩ := kk _ hFx
      go_wp2_with fail
      refine (kG _ (ksl _ hFx)).mono ?_
      rintro e Vd ⟨rfl, hB⟩
      have hFd := hFx.trans (hB.mono hFx.size)
      have hBo := hBw _ hFd
      have m0' : Vd.cell? ⟨gM, 0, none⟩ = some (.int .i64 0) := (rM.below hB).cell (by rfl)
      have m1' : Vd.cell? ⟨gM, 1, none⟩ = some (.int .i64 0) := (rM.below hB).cell (by rfl)
      have m2' : Vd.cell? ⟨gM, 2, none⟩ = some (.int .i64 0) := (rM.below hB).cell (by rfl)
      have n0' : Vd.cell? ⟨gN, 0, none⟩ = some (.int .i64 0) := (rN.below hB).cell (by rfl)
      have n1' : Vd.cell? ⟨gN, 1, none⟩ = some (.int .i64 0) := (rN.below hB).cell (by rfl)
      have n2' : Vd.cell? ⟨gN, 2, none⟩ = some (.int .i64 0) := (rN.below hB).cell (by rfl)
      have keq := eq_mixX 0 0 0
      clear hB rM rN s0 s1 s2 s3 hF hFx
      go_wp2_with (first
        | (go_at_call 30; (first | with_reducible refine (kI1 _).mono ?_ | with_reducible refine (kI2 _).mono ?_); rintro e w5 ⟨rfl, rfl⟩)
        | (go_at_call 9; refine (awake9_ok _ (hgk.below hBo)).mono ?_; rintro e w9 ⟨rfl, hQ9⟩))
      go_ret
      exact ⟨rfl, hBo.trans (hQ9.mono hBo.size)⟩
  · by_cases hz2 : e2 = 0
    · by_cases hz3 : e3 = 0
      · skip
        have hb1 : (e1 == 0) = false := by simpa using hz1
        have hb2 : (e2 == 0) = true := by simpa using hz2
        have hb3 : (e3 == 0) = true := by simpa using hz3
        obtain rfl := hd1.2 hz1
        have hd10 : RowKit.Hid (e1 = 0 ∨ (0 : Int) = 0) := Lib.hid (.inr rfl)
        have hn0 := HZ2.out hz2
        have hr2 : ∀ W, SlT W (.slice Au l.length cu) l → Calls Tryz.prog 27 #[gdV (x, y, z) (.slice Au l.length cu), colV (p, q, r)] W fun e w' => e = .returned (.int .i64 d2) ∧ Below W.heap.size W w' := fun W h => (refNearest_ok (x, y, z) (p, q, r) _ l W h ((HOK.out 0).1 hn0.1) ((HOK.out 0).2.1 hn0.2)).mono (by
          rintro e w' ⟨⟨j, rfl, hj⟩, hB⟩
          obtain ⟨j2, rfl, hj2⟩ := hd2.1 hz2
          rw [hj.same hj2]
          exact ⟨rfl, hB⟩)
        unfold gdV colV at hr2
        dsimp only at hr2
        have hd20 : RowKit.Hid (e2 = 0 ∨ d2 = 0) := Lib.hid (.inl hz2)
        have hc7 := HZ3.out hz3
        have h2l : 2 ≤ l.length := by
          apply Classical.byContradiction
          intro h4
          rw [decide_eq_true (show (l.length : Int) < 2 by omega)] at hb7
          exact HC7.out hb7.symm hc7
        obtain ⟨qi, qk, rfl, rfl, hT⟩ := hd3.1 hz3
        have hr3 : ∀ W, SlT W (.slice Au l.length cu) l → Calls Tryz.prog 28 #[gdV (x, y, z) (.slice Au l.length cu), colV (p, q, r)] W fun e w' => e = .returned (.agg #[.int .i64 qi, .int .i64 qk, .int .i64 qg]) ∧ Below W.heap.size W w' := fun W h => (refMixed_ok (x, y, z) (p, q, r) _ l W h ((HOK.out 0).1 hn0.1) ((HOK.out 0).2.1 hn0.2) h2l).mono (by
          rintro e w' ⟨⟨a, b, g, rfl, hT2⟩, hB⟩
          obtain ⟨rfl, rfl, rfl⟩ := hT2.same hT
          exact ⟨rfl, hB⟩)
        unfold gdV colV at hr3
        dsimp only at hr3
        have hZ := Below.refl Wz.heap.size Wz
        have kI1 := fun W => lawInt_ok 0 e1 hd10.out W
        have kI2 := fun W => lawInt_ok d2 e2 hd20.out W
        clear hz1 hz2 hz3 hd10 hd20
        obtain ⟨⟨s0, s1, s2, s3⟩, ⟨s4, s5, s6, s7⟩, ⟨s8, s9, s10⟩, s11, s12, s13⟩ := kk _ (hX.trans (hZ.mono hX.size))
        go_wp2_with fail
        refine (hr2 _ (ksu _ (hX.trans (hZ.mono hX.size)))).mono ?_
        rintro e Vb ⟨rfl, hB⟩
        replace hZ := hZ.trans (hB.mono hZ.size)
        clear hB s0 s1 s2 s3 s4 s5 s6 s7 s8 s9 s10 s11 s12 s13
        obtain ⟨⟨s0, s1, s2, s3⟩, ⟨s4, s5, s6, s7⟩, ⟨s8, s9, s10⟩, s11, s12, s13⟩ := kk _ (hX.trans (hZ.mono hX.size))
        go_wp2_with fail
        refine (hr3 _ (ksu _ (hX.trans (hZ.mono hX.size)))).mono ?_
        rintro e Vc ⟨rfl, hB⟩
        replace hZ := hZ.trans (hB.mono hZ.size)
        clear hB s0 s1 s2 s3 s4 s5 s6 s7 s8 s9 s10 s11 s12 s13
        have rN := HNG.out.below hZ
        have z0 : Vc.cell? ⟨gN, 0, none⟩ = some (.int .i64 0) := rN.cell (by rfl)
        have z1 : Vc.cell? ⟨gN, 1, none⟩ = some (.int .i64 0) := rN.cell (by rfl)
        have z2 : Vc.cell? ⟨gN, 2, none⟩ = some (.int .i64 0) := rN.cell (by rfl)
        have f0 := rN.fz 0
        have f1 := rN.fz 1
        have f2 := rN.fz 2
        have rN3 : RowK (((Vc.setCell ⟨gN, 0, none⟩ (.int .i64 qi)).setCell ⟨gN, 1, none⟩ (.int .i64 qk)).setCell ⟨gN, 2, none⟩ (.int .i64 qg)) 65 gN [.int .i64 qi, .int .i64 qk, .int .i64 qg] := ((rN.set 0 (.int .i64 qi)).set 1 (.int .i64 qk)).set 2 (.int .i64 qg)
        have hF3 := (((hZ.mono (Nat.le_of_lt HNG.out.lt)).setCell (p := ⟨gN, 0, none⟩) (Nat.le_refl _) (.int .i64 qi)).setCell (p := ⟨gN, 1, none⟩) (Nat.le_refl _) (.int .i64 qk)).setCell (p := ⟨gN, 2, none⟩) (Nat.le_refl _) (.int .i64 qg)
        have HF := Lib.hid (And.intro rN3 hF3)
        clear rN rN3 hF3
        go_upto_region 19 with fail
        obtain ⟨rN, hF⟩ := HF.out
        generalize ((Vc.setCell ⟨gN, 0, none⟩ (.int .i64 qi)).setCell ⟨gN, 1, none⟩ (.int .i64 qk)).setCell ⟨gN, 2, none⟩ (.int .i64 qg) = W9 at rN hF ⊢
        clear HF z0 z1 z2 f0 f1 f2 hr3
        clear hZ
        have rM : RowK W9 60 gM [.int .i64 qi, .int .i64 qk, .int .i64 qg] := HMG.out.keep (hF.block _ HNE.out)
        have hFx := hX.trans (hF.mono hx9)
        obtain ⟨-, ⟨s0, s1, s2, s3⟩, -⟩ := kk _ hFx
        go_wp2_with fail
        refine (kG _ (ksl _ hFx)).mono ?_
        rintro e Vd ⟨rfl, hB⟩
        have hFd := hFx.trans (hB.mono hFx.size)
        have hBo := hBw _ hFd
        have m0' : Vd.cell? ⟨gM, 0, none⟩ = some (.int .i64 qi) := (rM.below hB).cell (by rfl)
        have m1' : Vd.cell? ⟨gM, 1, none⟩ = some (.int .i64 qk) := (rM.below hB).cell (by rfl)
        have m2' : Vd.cell? ⟨gM, 2, none⟩ = some (.int .i64 qg) := (rM.below hB).cell (by rfl)
        have n0' : Vd.cell? ⟨gN, 0, none⟩ = some (.int .i64 qi) := (rN.below hB).cell (by rfl)
        have n1' : Vd.cell? ⟨gN, 1, none⟩ = some (.int .i64 qk) := (rN.below hB).cell (by rfl)
        have n2' : Vd.cell? ⟨gN, 2, none⟩ = some (.int .i64 qg) := (rN.below hB).cell (by rfl)
        have keq := eq_mixX qi qk qg
        clear hB rM rN s0 s1 s2 s3 hF hFx
        go_wp2_with (first
          | (go_at_call 30; (first | with_reducible refine (kI1 _).mono ?_ | with_reducible refine (kI2 _).mono ?_); rintro e w5 ⟨rfl, rfl⟩)
          | (go_at_call 9; refine (awake9_ok _ (hgk.below hBo)).mono ?_; rintro e w9 ⟨rfl, hQ9⟩))
        go_ret
        exact ⟨rfl, hBo.trans (hQ9.mono hBo.size)⟩
      · skip
        have hb1 : (e1 == 0) = false := by simpa using hz1
        have hb2 : (e2 == 0) = true := by simpa using hz2
        have hb3 : (e3 == 0) = false := by simpa using hz3
        obtain rfl := hd1.2 hz1
        have hd10 : RowKit.Hid (e1 = 0 ∨ (0 : Int) = 0) := Lib.hid (.inr rfl)
        have hn0 := HZ2.out hz2
        have hr2 : ∀ W, SlT W (.slice Au l.length cu) l → Calls Tryz.prog 27 #[gdV (x, y, z) (.slice Au l.length cu), colV (p, q, r)] W fun e w' => e = .returned (.int .i64 d2) ∧ Below W.heap.size W w' := fun W h => (refNearest_ok (x, y, z) (p, q, r) _ l W h ((HOK.out 0).1 hn0.1) ((HOK.out 0).2.1 hn0.2)).mono (by
          rintro e w' ⟨⟨j, rfl, hj⟩, hB⟩
          obtain ⟨j2, rfl, hj2⟩ := hd2.1 hz2
          rw [hj.same hj2]
          exact ⟨rfl, hB⟩)
        unfold gdV colV at hr2
        dsimp only at hr2
        have hd20 : RowKit.Hid (e2 = 0 ∨ d2 = 0) := Lib.hid (.inl hz2)
        obtain ⟨rfl, rfl, rfl⟩ := hd3.2 hz3
        have hZ := Below.refl Wz.heap.size Wz
        have kI1 := fun W => lawInt_ok 0 e1 hd10.out W
        have kI2 := fun W => lawInt_ok d2 e2 hd20.out W
        clear hz1 hz2 hz3 hd10 hd20
        obtain ⟨⟨s0, s1, s2, s3⟩, ⟨s4, s5, s6, s7⟩, ⟨s8, s9, s10⟩, s11, s12, s13⟩ := kk _ (hX.trans (hZ.mono hX.size))
        go_wp2_with fail
        refine (hr2 _ (ksu _ (hX.trans (hZ.mono hX.size)))).mono ?_
        rintro e Vb ⟨rfl, hB⟩
        replace hZ := hZ.trans (hB.mono hZ.size)
        clear hB s0 s1 s2 s3 s4 s5 s6 s7 s8 s9 s10 s11 s12 s13
        obtain ⟨⟨s0, s1, s2, s3⟩, ⟨s4, s5, s6, s7⟩, ⟨s8, s9, s10⟩, s11, s12, s13⟩ := kk _ (hX.trans (hZ.mono hX.size))
        clear s0 s1 s2 s3 s4 s5 s6 s7 s8 s9 s10 s11 s12 s13
        go_upto_region 19 with fail
        have rN := HNG.out.below hZ
        have hF := hZ.mono (Nat.le_of_lt HNG.out.lt)
        generalize Vb = W9 at rN hF hZ ⊢
        clear hZ
        have rM : RowK W9 60 gM [.int .i64 0, .int .i64 0, .int .i64 0] := HMG.out.keep (hF.block _ HNE.out)
        have hFx := hX.trans (hF.mono hx9)
        obtain ⟨-, ⟨s0, s1, s2, s3⟩, -⟩ := kk _ hFx
        go_wp2_with fail
        refine (kG _ (ksl _ hFx)).mono ?_
        rintro e Vd ⟨rfl, hB⟩
        have hFd := hFx.trans (hB.mono hFx.size)
        have hBo := hBw _ hFd
        have m0' : Vd.cell? ⟨gM, 0, none⟩ = some (.int .i64 0) := (rM.below hB).cell (by rfl)
        have m1' : Vd.cell? ⟨gM, 1, none⟩ = some (.int .i64 0) := (rM.below hB).cell (by rfl)
        have m2' : Vd.cell? ⟨gM, 2, none⟩ = some (.int .i64 0) := (rM.below hB).cell (by rfl)
        have n0' : Vd.cell? ⟨gN, 0, none⟩ = some (.int .i64 0) := (rN.below hB).cell (by rfl)
        have n1' : Vd.cell? ⟨gN, 1, none⟩ = some (.int .i64 0) := (rN.below hB).cell (by rfl)
        have n2' : Vd.cell? ⟨gN, 2, none⟩ = some (.int .i64 0) := (rN.below hB).cell (by rfl)
        have keq := eq_mixX 0 0 0
        clear hB rM rN s0 s1 s2 s3 hF hFx
        go_wp2_with (first
          | (go_at_call 30; (first | with_reducible refine (kI1 _).mono ?_ | with_reducible refine (kI2 _).mono ?_); rintro e w5 ⟨rfl, rfl⟩)
          | (go_at_call 9; refine (awake9_ok _ (hgk.below hBo)).mono ?_; rintro e w9 ⟨rfl, hQ9⟩))
        go_ret
        exact ⟨rfl, hBo.trans (hQ9.mono hBo.size)⟩
    · have hz3 : e3 ≠ 0 := fun h => hz2 (H32.out h)
      have hb1 : (e1 == 0) = false := by simpa using hz1
      have hb2 : (e2 == 0) = false := by simpa using hz2
      have hb3 : (e3 == 0) = false := by simpa using hz3
      obtain rfl := hd1.2 hz1
      have hd10 : RowKit.Hid (e1 = 0 ∨ (0 : Int) = 0) := Lib.hid (.inr rfl)
      obtain rfl := hd2.2 hz2
      have hd20 : RowKit.Hid (e2 = 0 ∨ (0 : Int) = 0) := Lib.hid (.inr rfl)
      obtain ⟨rfl, rfl, rfl⟩ := hd3.2 hz3
      have hZ := Below.refl Wz.heap.size Wz
      have kI1 := fun W => lawInt_ok 0 e1 hd10.out W
      have kI2 := fun W => lawInt_ok 0 e2 hd20.out W
      clear hz1 hz2 hz3 hd10 hd20
      obtain ⟨⟨s0, s1, s2, s3⟩, ⟨s4, s5, s6, s7⟩, ⟨s8, s9, s10⟩, s11, s12, s13⟩ := kk _ (hX.trans (hZ.mono hX.size))
      clear s0 s1 s2 s3 s4 s5 s6 s7 s8 s9 s10 s11 s12 s13
      go_upto_region 19 with fail
      have rN := HNG.out
      have hF := Below.refl gN Wz
      clear hZ
      have rM : RowK Wz 60 gM [.int .i64 0, .int .i64 0, .int .i64 0] := HMG.out.keep (hF.block _ HNE.out)
      have hFx := hX.trans (hF.mono hx9)
      obtain ⟨-, ⟨s0, s1, s2, s3⟩, -⟩ := kk _ hFx
      go_wp2_with fail
      refine (kG _ (ksl _ hFx)).mono ?_
      rintro e Vd ⟨rfl, hB⟩
      have hFd := hFx.trans (hB.mono hFx.size)
      have hBo := hBw _ hFd
      have m0' : Vd.cell? ⟨gM, 0, none⟩ = some (.int .i64 0) := (rM.below hB).cell (by rfl)
      have m1' : Vd.cell? ⟨gM, 1, none⟩ = some (.int .i64 0) := (rM.below hB).cell (by rfl)
      have m2' : Vd.cell? ⟨gM, 2, none⟩ = some (.int .i64 0) := (rM.below hB).cell (by rfl)
      have n0' : Vd.cell? ⟨gN, 0, none⟩ = some (.int .i64 0) := (rN.below hB).cell (by rfl)
      have n1' : Vd.cell? ⟨gN, 1, none⟩ = some (.int .i64 0) := (rN.below hB).cell (by rfl)
      have n2' : Vd.cell? ⟨gN, 2, none⟩ = some (.int .i64 0) := (rN.below hB).cell (by rfl)
      have keq := eq_mixX 0 0 0
      clear hB rM rN s0 s1 s2 s3 hF hFx
      go_wp2_with (first
        | (go_at_call 30; (first | with_reducible refine (kI1 _).mono ?_ | with_reducible refine (kI2 _).mono ?_); rintro e w5 ⟨rfl, rfl⟩)
        | (go_at_call 9; refine (awake9_ok _ (hgk.below hBo)).mono ?_; rintro e w9 ⟨rfl, hQ9⟩))
      go_ret
      exact ⟨rfl, hBo.trans (hQ9.mono hBo.size)⟩
end Go.Proofs
