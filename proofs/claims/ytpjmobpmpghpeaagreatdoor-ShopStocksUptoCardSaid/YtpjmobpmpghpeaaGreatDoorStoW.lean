/- ShopStocks: the walk. -/
import Derived.Test.YtpjmobpmpghpeaaGreatDoorStoR
import Derived.Test.YtpjmobpmpghpeaaGreatDoorTakW0
import Derived.Test.YtpjmobpmpghpeaaGreatDoorAwkShop
import Derived.Laws.StructEq
import Derived.Deep.Cut
import Derived.Deep.CutRange
namespace Go.Proofs
open Go.AM Go.RowKit Go.MapKept
set_option maxHeartbeats 16000000
set_option maxRecDepth 1000000
theorem lawFirst4L (a b c d : Int) (blk cap : Nat) (w : World) (h0 : w.cell? ⟨blk, 0, none⟩ = some (.int .i64 a)) (h1 : w.cell? ⟨blk, 1, none⟩ = some (.int .i64 b)) (h2 : w.cell? ⟨blk, 2, none⟩ = some (.int .i64 c)) (h3 : w.cell? ⟨blk, 3, none⟩ = some (.int .i64 d)) :
    Calls Tryz.prog 13 #[.slice (some ⟨blk, 0, none⟩) 4 cap] w fun e w' => e = .returned (.int .i64 (orL [a, b, c, d])) ∧ w' = w := by
  go_enter Tryz.func13, Tryz.ntmps13
  go_wp2
  refine wp_loop_rounds 5 ?_
  rw [rounds_succ]
  go_wp2
  all_goals (try (rw [rounds_succ]; go_wp2))
  all_goals (try (rw [rounds_succ]; go_wp2))
  all_goals (try (rw [rounds_succ]; go_wp2))
  all_goals (try (rw [rounds_succ]; go_wp2))
  all_goals go_ret
  all_goals (refine ⟨?_, rfl⟩; simp only [orL]; simp_all)
theorem eq_take (a b : Int) (w : World) : (Op.equalIn 10000 44 (.agg #[.int .i64 a, .int .i64 b]) (.agg #[.int .i64 a, .int .i64 b])).run Tryz.prog w = .ok true w := by
  have u3 := Tryz.underlying3
  have a3 := Tryz.isAgg3
  have z3 := Tryz.sizeOf3
  have hS : Tryz.prog.underlying 44 = some (.struct (Tryz.prog.fieldsOf 44)) := by kernel_rfl
  have hp : Tryz.prog.stoodInHeld 44 = false := by kernel_rfl
  rw [show (10000 : Nat) = 9999 + 1 from rfl, run_equalIn_agg w 9999 44 _ _ hS hp]
  simp only [Program.fieldsOf, Tryz.underlying44]
  go_simp
theorem sameTakes_ok (v1 v2 : Value) (T : List TakT) (w : World) (h1 : SlF encK w v1 T) (h2 : SlF encK w v2 T) (hn : T.length ≤ 1048000) :
    Calls Tryz.prog 18 #[v1, v2] w fun e w' => e = .returned (.bool true) ∧ Below w.heap.size w w' := by
  obtain ⟨A1, c1, rfl⟩ := h1.form
  obtain ⟨A2, c2, rfl⟩ := h2.form
  have HN := Lib.hid hn
  clear hn
  go_enter Tryz.func18, Tryz.ntmps18
  go_wp2
  go_loopw [5] (fun i wr => ∃ k : Nat, k ≤ T.length ∧ i = .int .i64 k ∧ Below w.heap.size w wr) (fun i _ => T.length - (intOf i).toNat)
  case atStart => exact ⟨0, Nat.zero_le _, rfl, Below.refl _ _⟩
  case round =>
    obtain ⟨k, hk, rfl, hB⟩ := hrel
    rcases Nat.lt_or_eq_of_le hk with hkn | rfl
    · obtain ⟨⟨i, y⟩, hy⟩ : ∃ x, T[k]? = some x := ⟨_, List.getElem?_eq_getElem hkn⟩
      obtain ⟨b1, o1, rfl, -, -, r0, r1⟩ := tak_cells (h1.below hB) hy
      obtain ⟨b2, o2, rfl, -, -, q0, q1⟩ := tak_cells (h2.below hB) hy
      dsimp only at r0 r1 q0 q1
      have keq := fun W => eq_take (i : Int) y W
      have hi0 : (0 : Int) ≤ k := by omega
      have hi1 : (k : Int) < T.length := by omega
      have HWK := Lib.hid (wrapsL (show k < 1048576 by have := HN.out; omega))
      have HKK := Lib.hid (show k + 1 ≤ T.length from hkn)
      have HKM := Lib.hid (show T.length - (k + 1) < T.length - k by omega)
      obtain ⟨wk1, wk2⟩ := HWK.out
      clear hy
      go_wp2_with fail
      go_quiet (fail)
      go_wp2
      go_roundw
      case rel => exact ⟨k + 1, HKK.out, by simp, below_drewN hB _⟩
      case measure => exact HKM.out
    · go_wp2
      go_ret
      exact ⟨rfl, hB⟩
theorem stocks_in (v : Value) (l : List BatT) (kind : ByteArray) (g0 day : Int) (w : World) (hgk : GOk gN gRows w) (hl : SlF encB w v l) (hn : l.length ≤ 1048576) :
    Calls Tryz.prog 3 #[v, .agg #[.string kind, .int .i64 g0, .int .i64 day]] w fun e w' => e = .returned (.bool true) ∧ Below w.heap.size w w' := by
  obtain ⟨n, hgx⟩ := batX_ex l
  obtain ⟨A, cap, rfl⟩ := hl.form
  obtain ⟨W0, hW⟩ : ∃ W0, W0 = w.alloc (.cells #[.string kind, .int .i64 g0, .int .i64 day] 24) := ⟨_, rfl⟩
  have rw0 : RowK W0 24 w.heap.size [.string kind, .int .i64 g0, .int .i64 day] := by subst hW; exact heap_alloc_new w _
  have hB0 : Below w.heap.size w W0 := by subst hW; exact (Below.refl _ _).alloc (Nat.le_refl _) _
  have hlt0 := rw0.lt
  have kS := lawStock_ok _ l W0 (hl.below hB0) hn
  go_enter Tryz.func3, Tryz.ntmps3
  go_wp2_with fail
  rw [← hW]
  clear hW
  refine kS.mono ?_
  rintro e w1 ⟨⟨u, rfl, hu⟩, hB1⟩
  clear kS
  obtain ⟨Au, cu, rfl⟩ := (hu.sl encB_len).form
  have hus := hu.sl encB_len
  have hB01 := hB0.trans (hB1.mono hB0.size)
  have hBw : ∀ V, Below w1.heap.size w1 V → Below w.heap.size w V := fun V h => hB01.trans (h.mono hB01.size)
  have ksl : ∀ V, Below w1.heap.size w1 V → SlF encB V (.slice A l.length cap) l := fun V h => hl.below (hBw V h)
  have ksu : ∀ V, Below w1.heap.size w1 V → SlF encB V (.slice Au l.length cu) l := fun V h => hus.below h
  have kk : ∀ V, Below w1.heap.size w1 V → V.cell? ⟨w.heap.size, 0, none⟩ = some (.string kind) ∧ V.cell? ⟨w.heap.size, 1, none⟩ = some (.int .i64 g0) ∧ V.cell? ⟨w.heap.size, 2, none⟩ = some (.int .i64 day) := fun V h => by
    have h2 := hB1.trans (h.mono hB1.size)
    exact ⟨(rw0.below h2).cell (by rfl), (rw0.below h2).cell (by rfl), (rw0.below h2).cell (by rfl)⟩
  have kSh := fun V (h : SlF encB V (.slice Au l.length cu) l) => refShortB_ok _ l 12 V h
  have kCk := fun V (h : SlF encB V (.slice Au l.length cu) l) => refBatN_ok _ l n V h hgx
  have kCs := fun V (h : SlF encB V (.slice A l.length cap) l) => shBatN_ok _ l n V h hgx
  have kNm := fun V => refNameX_ok kind V
  have kGr := fun V => checkRange_ok g0 0 999999999 V
  have kDy := fun V => checkRange_ok day 0 99999 V
  have HGX := Lib.hid hgx
  clear hgx hu hB0 rw0 hlt0
  have hX := Below.refl w1.heap.size w1
  obtain ⟨s0, s1, s2⟩ := kk _ hX
  obtain ⟨b60, hb60⟩ : ∃ b, decide ((60 : Int) < (kind.size : Int)) = b := ⟨_, rfl⟩
  go_wp2_with fail
  refine (kSh _ (ksu _ hX)).mono ?_
  rintro e V1 ⟨⟨rs, rfl, hS⟩, hB⟩
  replace hX := hX.trans (hB.mono hX.size)
  clear hB kSh s0 s1 s2
  obtain ⟨s0, s1, s2⟩ := kk _ hX
  cases rs with
  | false =>
    have hBo := hBw _ hX
    clear hS
    go_wp2_with (go_at_call 9; refine (awake9_ok _ (hgk.below hBo)).mono ?_; rintro e w9 ⟨rfl, hQ9⟩)
    go_ret
    exact ⟨rfl, hBo.trans (hQ9.mono hBo.size)⟩
  | true =>
  have HSH := Lib.hid (hS rfl)
  clear hS
  cases b60 with
  | true =>
    have hBo := hBw _ hX
    go_wp2_with (go_at_call 9; refine (awake9_ok _ (hgk.below hBo)).mono ?_; rintro e w9 ⟨rfl, hQ9⟩)
    go_ret
    exact ⟨rfl, hBo.trans (hQ9.mono hBo.size)⟩
  | false =>
  obtain ⟨e0, he0⟩ : ∃ e0, e0 = wishE n kind g0 day := ⟨_, rfl⟩
  by_cases hz0 : e0 = 0
  case neg =>
    have kT := fun V (h : SlF encB V (.slice A l.length cap) l) => takenErr_ok _ l n kind g0 day V h HGX.out (by rw [← he0]; exact hz0)
    rw [← he0] at kT
    have HE := Lib.hid he0
    clear he0
    go_wp2_with fail
    refine (kT _ (ksl _ hX)).mono ?_
    rintro e V2 ⟨rfl, hB⟩
    replace hX := hX.trans (hB.mono hX.size)
    clear hB kT s0 s1 s2
    obtain ⟨s0, s1, s2⟩ := kk _ hX
    go_wp2_with fail
    refine (kCk _ (ksu _ hX)).mono ?_
    rintro e V3 ⟨rfl, hB⟩
    replace hX := hX.trans (hB.mono hX.size)
    clear hB s0 s1 s2
    go_wp2_with fail
    refine (kCs _ (ksl _ hX)).mono ?_
    rintro e V4 ⟨rfl, hB⟩
    replace hX := hX.trans (hB.mono hX.size)
    clear hB
    go_wp2_with fail
    have hD := hX.drew
    have hky := kk _ hD
    have HWE := HE.out
    have hNE : nameE kind = if nameB kind then 0 else 8 := rfl
    have kNm2 := kNm
    obtain ⟨nb, hnb⟩ : ∃ nb, nb = nameB kind := ⟨_, rfl⟩
    simp only [← hnb] at kNm2
    rw [← hnb] at hNE
    obtain ⟨eg, heg⟩ : ∃ eg, eg = withinI g0 0 999999999 := ⟨_, rfl⟩
    obtain ⟨ed, hed⟩ : ∃ ed, ed = withinI day 0 99999 := ⟨_, rfl⟩
    have kGr2 := kGr
    have kDy2 := kDy
    simp only [← heg] at kGr2
    simp only [← hed] at kDy2
    unfold wishE at HWE
    rw [← heg, ← hed] at HWE
    have hNE2 : nameE kind = if (!nb) = true then 8 else 0 := by rw [hNE]; cases nb <;> rfl
    rw [hNE2] at HWE
    have kWh := fun W => lawWhen_ok (!nb) 8 W
    obtain ⟨en, hen⟩ : ∃ en, en = (if (!nb) = true then (8 : Int) else 0) := ⟨_, rfl⟩
    rw [← hen] at HWE
    simp only [← hen] at kWh
    have ho4 := fun blk cap W => lawFirst4L n en eg ed blk cap W
    rw [← HWE] at ho4
    obtain ⟨nbn, hnbn⟩ : ∃ x, x = (!nb) := ⟨_, rfl⟩
    rw [← hnbn] at kWh
    have hnbn2 : (!nb) = nbn := hnbn.symm
    have hXA := fun V (h : Below w1.heap.size w1 V) => h.alloc h.size (.cells #[.int .i64 n, .int .i64 en, .int .i64 eg, .int .i64 ed] 3)
    have hkyA := kk _ (hXA _ hD)
    clear HWE hNE hNE2 hnb heg hed hen hnbn
    go_region_held3 (fun V => V.cell? ⟨w.heap.size, 0, none⟩ = some (.string kind) ∧ V.cell? ⟨w.heap.size, 1, none⟩ = some (.int .i64 g0) ∧ V.cell? ⟨w.heap.size, 2, none⟩ = some (.int .i64 day)) (first | exact hky | exact hkyA | go_keep)
      (first
        | (go_at_call 15; refine (kNm2 _).mono ?_; rintro e v5 ⟨rfl, hv5⟩; obtain rfl := hv5)
        | (go_at_call 14; refine (kWh _).mono ?_; rintro e v5 ⟨rfl, hv5⟩; obtain rfl := hv5)
        | (go_at_call 16; (first | with_reducible refine (kGr2 _).mono ?_ | with_reducible refine (kDy2 _).mono ?_); rintro e v5 ⟨rfl, hv5⟩; obtain rfl := hv5)
        | (go_at_call 13; refine (ho4 _ _ _ ?_ ?_ ?_ ?_).mono ?_; (go_simp); (go_simp); (go_simp); (go_simp); rintro e v5 ⟨rfl, hv5⟩; obtain rfl := hv5))
    rename_i hHeld
    have hXn := (hX.alloc hX.size (.cells #[.int .i64 n, .int .i64 en, .int .i64 eg, .int .i64 ed] 3)).drew
    clear hHeld hky hkyA hX hD 
    generalize World.drew (World.alloc V4 (.cells #[.int .i64 n, .int .i64 en, .int .i64 eg, .int .i64 ed] 3)) = V5 at hXn  ⊢
    have hX := hXn
    clear hXn hXA ho4 kWh kNm2 kGr2 kDy2 
    have hzb : (e0 == 0) = false := by simpa using hz0
    have hnil : ∀ V, SlF encK V (.slice none 0 0) [] := fun V => .inl ⟨rfl, rfl⟩
    have kSame := fun W => sameTakes_ok _ _ [] W (hnil W) (hnil W) (by simp)
    clear hz0
    go_wp2_with fail
    refine wp_loop_rounds 1 ?_
    rw [rounds_succ]
    go_wp2_with (go_at_call 18; refine (kSame _).mono ?_; rintro e w8 ⟨rfl, hB8⟩; have hX8 := hX.trans (hB8.mono hX.size); have hBo := hBw _ hX8)
    refine (awake9_ok _ (hgk.below hBo)).mono ?_
    rintro e w9 ⟨rfl, hQ9⟩
    go_wp2_with fail
    go_ret
    exact ⟨rfl, hBo.trans (hQ9.mono hBo.size)⟩
  case pos =>
  subst hz0
  have h0 := orL_eq0.1 he0.symm
  have hn0 : n = 0 := h0 n (by simp)
  subst hn0
  have hfew : l.length ≤ 12 := by
    have h1 := HGX.out.ok.few
    have h2 := HSH.out
    unfold ShortB at h2
    omega
  have hg9 : 0 ≤ g0 ∧ g0 ≤ 999999999 := (within_cases _ _ _).2.2.1 (h0 (withinI g0 0 999999999) (by simp))
  have hd9 : 0 ≤ day ∧ day ≤ 99999 := (within_cases _ _ _).2.2.1 (h0 (withinI day 0 99999) (by simp))
  have kT := fun V (h : SlF encB V (.slice A l.length cap) l) => takenAll_ok _ l 0 kind g0 day V h HGX.out hfew he0.symm
  have kR := fun p V (h : SlF encB V (.slice Au l.length cu) l) (hp : OrderS (l.map (·.2.2.2)) p) => refTaken_ok _ l kind g0 day p V h hfew HGX.out.ok hg9 hd9 hp
  have HE := Lib.hid he0
  clear he0 h0 hg9 hd9
  go_wp2_with fail
  refine (kT _ (ksl _ hX)).mono ?_
  rintro e V2 ⟨⟨u, p, hp, hcase⟩, hB⟩
  replace kR := fun V h => kR p V h hp
  have hX2 := hX.trans (hB.mono hX.size)
  have hlp : (runT l kind day p g0).1.length ≤ 12 := by
    have h1 := run_len l kind day p g0
    have h2 := hp.1.length_eq
    simp at h2
    omega
  have HFE := Lib.hid hfew
  generalize runT l kind day p g0 = st at hcase kR hlp
  obtain ⟨TT, m⟩ := st
  dsimp only at hcase kR hlp
  have HCASE := Lib.hid hcase
  have HLP := Lib.hid hlp
  have HXX := Lib.hid hX2
  clear hB kT s0 s1 s2 hp hX hX2 hcase hlp hfew
  rcases HCASE.out with ⟨hm, rfl⟩ | ⟨hm, rfl, hown⟩
  · have hX := HXX.out
    clear HCASE HXX
    obtain ⟨s0, s1, s2⟩ := kk _ hX
    go_wp2_with fail
    refine (kCk _ (ksu _ hX)).mono ?_
    rintro e V3 ⟨rfl, hB⟩
    replace hX := hX.trans (hB.mono hX.size)
    clear hB s0 s1 s2
    go_wp2_with fail
    refine (kCs _ (ksl _ hX)).mono ?_
    rintro e V4 ⟨rfl, hB⟩
    replace hX := hX.trans (hB.mono hX.size)
    clear hB
    go_wp2_with fail
    have hD := hX.drew
    have hky := kk _ hD
    have HWE := HE.out
    have hNE : nameE kind = if nameB kind then 0 else 8 := rfl
    have kNm2 := kNm
    obtain ⟨nb, hnb⟩ : ∃ nb, nb = nameB kind := ⟨_, rfl⟩
    simp only [← hnb] at kNm2
    rw [← hnb] at hNE
    obtain ⟨eg, heg⟩ : ∃ eg, eg = withinI g0 0 999999999 := ⟨_, rfl⟩
    obtain ⟨ed, hed⟩ : ∃ ed, ed = withinI day 0 99999 := ⟨_, rfl⟩
    have kGr2 := kGr
    have kDy2 := kDy
    simp only [← heg] at kGr2
    simp only [← hed] at kDy2
    unfold wishE at HWE
    rw [← heg, ← hed] at HWE
    have hNE2 : nameE kind = if (!nb) = true then 8 else 0 := by rw [hNE]; cases nb <;> rfl
    rw [hNE2] at HWE
    have kWh := fun W => lawWhen_ok (!nb) 8 W
    obtain ⟨en, hen⟩ : ∃ en, en = (if (!nb) = true then (8 : Int) else 0) := ⟨_, rfl⟩
    rw [← hen] at HWE
    simp only [← hen] at kWh
    have ho4 := fun blk cap W => lawFirst4L 0 en eg ed blk cap W
    rw [← HWE] at ho4
    obtain ⟨nbn, hnbn⟩ : ∃ x, x = (!nb) := ⟨_, rfl⟩
    rw [← hnbn] at kWh
    have hnbn2 : (!nb) = nbn := hnbn.symm
    have hXA := fun V (h : Below w1.heap.size w1 V) => h.alloc h.size (.cells #[.int .i64 0, .int .i64 en, .int .i64 eg, .int .i64 ed] 3)
    have hkyA := kk _ (hXA _ hD)
    clear HWE hNE hNE2 hnb heg hed hen hnbn
    go_region_held3 (fun V => V.cell? ⟨w.heap.size, 0, none⟩ = some (.string kind) ∧ V.cell? ⟨w.heap.size, 1, none⟩ = some (.int .i64 g0) ∧ V.cell? ⟨w.heap.size, 2, none⟩ = some (.int .i64 day)) (first | exact hky | exact hkyA | go_keep)
      (first
        | (go_at_call 15; refine (kNm2 _).mono ?_; rintro e v5 ⟨rfl, hv5⟩; obtain rfl := hv5)
        | (go_at_call 14; refine (kWh _).mono ?_; rintro e v5 ⟨rfl, hv5⟩; obtain rfl := hv5)
        | (go_at_call 16; (first | with_reducible refine (kGr2 _).mono ?_ | with_reducible refine (kDy2 _).mono ?_); rintro e v5 ⟨rfl, hv5⟩; obtain rfl := hv5)
        | (go_at_call 13; refine (ho4 _ _ _ ?_ ?_ ?_ ?_).mono ?_; (go_simp); (go_simp); (go_simp); (go_simp); rintro e v5 ⟨rfl, hv5⟩; obtain rfl := hv5))
    rename_i hHeld
    have hXn := (hX.alloc hX.size (.cells #[.int .i64 0, .int .i64 en, .int .i64 eg, .int .i64 ed] 3)).drew
    clear hHeld hky hkyA hX hD 
    generalize World.drew (World.alloc V4 (.cells #[.int .i64 0, .int .i64 en, .int .i64 eg, .int .i64 ed] 3)) = V5 at hXn  ⊢
    have hX := hXn
    clear hXn hXA ho4 kWh kNm2 kGr2 kDy2 
    have hm' := hm
    obtain ⟨s0, s1, s2⟩ := kk _ hX
    go_wp2_with fail
    refine (kR _ (ksu _ hX)).mono ?_
    rintro e V6 ⟨⟨u2, hcase2⟩, hB⟩
    replace hX := hX.trans (hB.mono hX.size)
    clear kR s0 s1 s2
    rcases hcase2 with ⟨hm2, rfl⟩ | ⟨hm2, -, -⟩
    · have hnil : ∀ V, SlF encK V (.slice none 0 0) [] := fun V => .inl ⟨rfl, rfl⟩
      have kSame := fun W => sameTakes_ok _ _ [] W (hnil W) (hnil W) (by simp)
      clear hm hm2 hm'
      go_wp2_with fail
      refine wp_loop_rounds 1 ?_
      rw [rounds_succ]
      go_wp2_with (go_at_call 18; refine (kSame _).mono ?_; rintro e w8 ⟨rfl, hB8⟩; have hX8 := hX.trans (hB8.mono hX.size); have hBo := hBw _ hX8)
      refine (awake9_ok _ (hgk.below hBo)).mono ?_
      rintro e w9 ⟨rfl, hQ9⟩
      go_wp2_with fail
      go_ret
      exact ⟨rfl, hBo.trans (hQ9.mono hBo.size)⟩
    · exact absurd hm' (Int.not_lt.2 hm2)
  · have hX := HXX.out
    have hUs := hown.sl encK_len
    obtain ⟨AU, cU, hUf⟩ := hUs.form
    subst hUf
    have ksk : ∀ V, Below V2.heap.size V2 V → SlF encK V (.slice AU TT.length cU) TT := fun V h => hUs.below h
    have hY := Below.refl V2.heap.size V2
    clear HCASE HXX hown hUs
    obtain ⟨s0, s1, s2⟩ := kk _ hX
    go_wp2_with fail
    refine (kCk _ (ksu _ hX)).mono ?_
    rintro e V3 ⟨rfl, hB⟩
    replace hX := hX.trans (hB.mono hX.size)
    replace hY := hY.trans (hB.mono hY.size)
    clear hB s0 s1 s2
    go_wp2_with fail
    refine (kCs _ (ksl _ hX)).mono ?_
    rintro e V4 ⟨rfl, hB⟩
    replace hX := hX.trans (hB.mono hX.size)
    replace hY := hY.trans (hB.mono hY.size)
    clear hB
    go_wp2_with fail
    have hD := hX.drew
    have hYd := hY.drew
    have hky := kk _ hD
    have HWE := HE.out
    have hNE : nameE kind = if nameB kind then 0 else 8 := rfl
    have kNm2 := kNm
    obtain ⟨nb, hnb⟩ : ∃ nb, nb = nameB kind := ⟨_, rfl⟩
    simp only [← hnb] at kNm2
    rw [← hnb] at hNE
    obtain ⟨eg, heg⟩ : ∃ eg, eg = withinI g0 0 999999999 := ⟨_, rfl⟩
    obtain ⟨ed, hed⟩ : ∃ ed, ed = withinI day 0 99999 := ⟨_, rfl⟩
    have kGr2 := kGr
    have kDy2 := kDy
    simp only [← heg] at kGr2
    simp only [← hed] at kDy2
    unfold wishE at HWE
    rw [← heg, ← hed] at HWE
    have hNE2 : nameE kind = if (!nb) = true then 8 else 0 := by rw [hNE]; cases nb <;> rfl
    rw [hNE2] at HWE
    have kWh := fun W => lawWhen_ok (!nb) 8 W
    obtain ⟨en, hen⟩ : ∃ en, en = (if (!nb) = true then (8 : Int) else 0) := ⟨_, rfl⟩
    rw [← hen] at HWE
    simp only [← hen] at kWh
    have ho4 := fun blk cap W => lawFirst4L 0 en eg ed blk cap W
    rw [← HWE] at ho4
    obtain ⟨nbn, hnbn⟩ : ∃ x, x = (!nb) := ⟨_, rfl⟩
    rw [← hnbn] at kWh
    have hnbn2 : (!nb) = nbn := hnbn.symm
    have hXA := fun V (h : Below w1.heap.size w1 V) => h.alloc h.size (.cells #[.int .i64 0, .int .i64 en, .int .i64 eg, .int .i64 ed] 3)
    have hkyA := kk _ (hXA _ hD)
    clear HWE hNE hNE2 hnb heg hed hen hnbn
    go_region_held3 (fun V => V.cell? ⟨w.heap.size, 0, none⟩ = some (.string kind) ∧ V.cell? ⟨w.heap.size, 1, none⟩ = some (.int .i64 g0) ∧ V.cell? ⟨w.heap.size, 2, none⟩ = some (.int .i64 day)) (first | exact hky | exact hkyA | go_keep)
      (first
        | (go_at_call 15; refine (kNm2 _).mono ?_; rintro e v5 ⟨rfl, hv5⟩; obtain rfl := hv5)
        | (go_at_call 14; refine (kWh _).mono ?_; rintro e v5 ⟨rfl, hv5⟩; obtain rfl := hv5)
        | (go_at_call 16; (first | with_reducible refine (kGr2 _).mono ?_ | with_reducible refine (kDy2 _).mono ?_); rintro e v5 ⟨rfl, hv5⟩; obtain rfl := hv5)
        | (go_at_call 13; refine (ho4 _ _ _ ?_ ?_ ?_ ?_).mono ?_; (go_simp); (go_simp); (go_simp); (go_simp); rintro e v5 ⟨rfl, hv5⟩; obtain rfl := hv5))
    rename_i hHeld
    have hXn := (hX.alloc hX.size (.cells #[.int .i64 0, .int .i64 en, .int .i64 eg, .int .i64 ed] 3)).drew
    have hYn := (hY.alloc hY.size (.cells #[.int .i64 0, .int .i64 en, .int .i64 eg, .int .i64 ed] 3)).drew
    clear hHeld hky hkyA hX hD hY hYd
    generalize World.drew (World.alloc V4 (.cells #[.int .i64 0, .int .i64 en, .int .i64 eg, .int .i64 ed] 3)) = V5 at hXn hYn ⊢
    have hX := hXn
    have hY := hYn
    clear hXn hXA ho4 kWh kNm2 kGr2 kDy2 hYn
    have hm' := hm
    obtain ⟨s0, s1, s2⟩ := kk _ hX
    go_wp2_with fail
    refine (kR _ (ksu _ hX)).mono ?_
    rintro e V6 ⟨⟨u2, hcase2⟩, hB⟩
    replace hX := hX.trans (hB.mono hX.size)
    replace hY := hY.trans (hB.mono hY.size)
    clear kR s0 s1 s2
    rcases hcase2 with ⟨hm2, -⟩ | ⟨hm2, rfl, hown2⟩
    · exact absurd hm2 (Int.not_lt.2 hm')
    · have hWs := hown2.sl encK_len
      obtain ⟨AW, cW, hWf⟩ := hWs.form
      subst hWf
      clear hm hm2 hm' hown2
      have hWk : ∀ V, Below V6.heap.size V6 V → SlF encK V (.slice AW TT.length cW) TT := fun V h => hWs.below h
      have hUk : ∀ V, Below V6.heap.size V6 V → SlF encK V (.slice AU TT.length cU) TT := fun V h => ksk V (hY.trans (h.mono hY.size))
      have hXk : ∀ V, Below V6.heap.size V6 V → Below w1.heap.size w1 V := fun V h => hX.trans (h.mono hX.size)
      clear hWs hY hX ksk
      go_wp2_with fail
      go_loopw [10, 71] (fun hv iv wr => ∃ k : Nat, k ≤ TT.length ∧ iv = .int .i64 k ∧ OwnF encK 2 44 wr V6.heap.size hv (TT.take k) ∧ Below V6.heap.size V6 wr) (fun _ iv _ => TT.length - (intOf iv).toNat)
      case atStart => exact ⟨0, Nat.zero_le _, rfl, OwnF.nil _ _ _, Below.refl _ _⟩
      case round =>
        obtain ⟨k, hk, rfl, hown, hX⟩ := hrel
        rename World => w7
        obtain ⟨Ah, ch, hh⟩ := (hown.sl encK_len).form
        rw [takeF_len hk] at hh
        subst hh
        rcases Nat.lt_or_eq_of_le hk with hkn | rfl
        · obtain ⟨⟨i, y⟩, hy⟩ : ∃ x, TT[k]? = some x := ⟨_, List.getElem?_eq_getElem hkn⟩
          obtain ⟨ub, uo, rfl, -, -, u0, u1⟩ := tak_cells (hUk _ hX) hy
          dsimp only at u0 u1
          have hi0 : (0 : Int) ≤ k := by omega
          have hi1 : (k : Int) < TT.length := by omega
          have HWK := Lib.hid (wrapsL (show k < 1048576 by have := HLP.out; omega))
          have HKK := Lib.hid (show k + 1 ≤ TT.length from hkn)
          have HKM := Lib.hid (show TT.length - (k + 1) < TT.length - k by omega)
          obtain ⟨Wt, hW⟩ : ∃ Wt, Wt = (w7.alloc (.cells #[.int .i64 (i : Int), .int .i64 y] 43)).alloc (.cells #[.int .i64 (i : Int), .int .i64 y] 44) := ⟨_, rfl⟩
          have hQt : Below w7.heap.size w7 Wt := by subst hW; exact ((Below.refl _ _).alloc (Nat.le_refl _) _).alloc (by simp) _
          have hrowN : Wt.heap[w7.heap.size + 1]? = some (.cells (encK (i, y)).toArray 44 (0, 0)) := by
            have := heap_alloc_new (w7.alloc (.cells #[.int .i64 (i : Int), .int .i64 y] 43)) (.cells #[.int .i64 (i : Int), .int .i64 y] 44)
            rw [← hW] at this
            unfold encK
            simpa using this
          have hownT := hown.keep hQt
          have hBt := hX.trans (hQt.mono hX.size)
          have hlt := hownT.lt
          obtain ⟨A2, c2, w4, hap, hown2, hg2, -⟩ := run_append_one (P := Tryz.prog) Wt 39 39 44 V6.heap.size _ (TT.take k) (i, y) encK_len encK_one hownT (w7.heap.size + 1) 1 16 (.agg #[.int .i64 0, .int .i64 0]) Tryz.underlying39 (by kernel_rfl) rfl (by decide) (by decide) (flat_row hrowN) (by rw [takeF_len hk]; have := HLP.out; omega) hBt.size
          rw [takeF_len hk] at hap hown2
          rw [← takeF_succ hy] at hown2
          have hB4 := hBt.grown hg2 hBt.size (fun g e => (hlt g e).1)
          have HW1 := Lib.hid hW
          have HAP := Lib.hid hap
          have HO := Lib.hid (And.intro hown2 hB4)
          clear hap hW hown2 hg2 hB4 hlt hBt hownT hrowN hQt hown hX hy
          obtain ⟨wk1, wk2⟩ := HWK.out
          go_wp2_with (at_builtin; rw [← HW1.out]; refine Lib.wpList_append_run _ rfl _ _ _ _ rfl _ _ rfl rfl _ _ HAP.out ?_)
          go_roundw
          case rel => exact ⟨k + 1, HKK.out, by simp, HO.out.1, HO.out.2⟩
          case measure => exact HKM.out
        · rw [List.take_of_length_le (Nat.le_refl _)] at hown
          have kSame := sameTakes_ok _ _ TT w7 (hown.sl encK_len) (hWk _ hX) (by have := HLP.out; omega)
          have hXw := hXk _ hX
          clear hown hX hUk hWk hXk
          go_wp2_with (go_at_call 18; refine kSame.mono ?_; rintro e w8 ⟨rfl, hB8⟩; have hX8 := hXw.trans (hB8.mono hXw.size); have hBo := hBw _ hX8)
          refine (awake9_ok _ (hgk.below hBo)).mono ?_
          rintro e w9 ⟨rfl, hQ9⟩
          go_wp2_with fail
          go_ret
          exact ⟨rfl, hBo.trans (hQ9.mono hBo.size)⟩
end Go.Proofs
