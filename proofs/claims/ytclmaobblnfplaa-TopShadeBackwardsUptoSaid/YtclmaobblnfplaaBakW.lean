/- Jobs backwards: the walk. -/
import Derived.Test.YtclmaobblnfplaaBakL
namespace Go.Proofs
open Go.AM Go.RowKit Go.MapKept
set_option maxHeartbeats 16000000
set_option maxRecDepth 1000000
theorem back_in (v vo : Value) (L : List JobV) (js : List JobT) (o : List Int) (mo : Int) (w : World) (hl : SlF encJ w v L) (hi : InJ w L js) (hcap : CapV L) (hvc : ∀ (A : Option Addr) (n c : Nat), v = .slice A n c → n ≤ c) (ho : SlI w vo o) (hn : L.length ≤ 1048576) (hmo : 0 ≤ mo ∧ mo ≤ 255) :
    Calls Try.prog 3 #[v, vo, .int .u8 mo] w fun e w' => e = .returned (.bool true) ∧ Below w.heap.size w w' := by
  obtain ⟨n, hx⟩ := jobX_is js
  have hlj := InJ.slj hl hi
  have hljc : SlJC w v js := ⟨hlj, capV_of hl hi hcap⟩
  have HLJ := Lib.hid hi.1
  have kOwn := shadeJobs_ok v L w hl hn
  obtain ⟨Al, cl, rfl⟩ := hl.form
  obtain ⟨Ao, co, rfl⟩ := ho.form
  have HVC := Lib.hid (hvc _ _ _ rfl)
  have HMO := Lib.hid hmo
  clear hmo hvc
  go_enter Try.func3, Try.ntmps3
  go_wp2_with fail
  refine kOwn.mono ?_
  rintro e w1 ⟨⟨u, rfl, hu⟩, hB01⟩
  clear kOwn
  have hus := hu.sl encJ_len
  obtain ⟨Au, cu, rfl⟩ := hus.form
  have huj := InJ.slj hus (hi.below hB01)
  have hBw : ∀ V, Below w1.heap.size w1 V → Below w.heap.size w V := fun V h => hB01.trans (h.mono hB01.size)
  have kSh := refShortJ_ok _ L 4 w1 hus
  have HIJ := Lib.hid hi
  have HCL := Lib.hid hcap
  have HSF := Lib.hid hl
  rw [HLJ.out] at hlj hljc huj kSh ⊢
  have ksl : ∀ V, Below w1.heap.size w1 V → SlJ V (.slice Al js.length cl) js := fun V h => hlj.below (hBw V h)
  have ksc : ∀ V, Below w1.heap.size w1 V → SlJC V (.slice Al js.length cl) js := fun V h => hljc.below (hBw V h)
  have ksu : ∀ V, Below w1.heap.size w1 V → SlJ V (.slice Au js.length cu) js := fun V h => huj.below h
  have kso : ∀ V, Below w1.heap.size w1 V → SlI V (.slice Ao o.length co) o := fun V h => ho.below (hBw V h)
  have HKSO := Lib.hid kso
  have HKSL := Lib.hid ksl
  have HKSC := Lib.hid ksc
  have HKSU := Lib.hid ksu
  have hX := Below.refl w1.heap.size w1
  clear hu hus hl hi ho hlj huj hljc hcap hB01 kso ksl ksc ksu
  obtain ⟨b5, hb5⟩ : ∃ b, decide ((4 : Int) < (js.length : Int)) = b := ⟨_, rfl⟩
  obtain ⟨bo5, hbo5⟩ : ∃ b, decide ((4 : Int) < (o.length : Int)) = b := ⟨_, rfl⟩
  have HB5 := Lib.hid hb5
  have HO5 := Lib.hid hbo5
  go_wp2_with fail
  refine kSh.mono ?_
  rintro e V1 ⟨⟨rs, rfl, hSh⟩, hB⟩
  replace hX := hX.trans (hB.mono hX.size)
  clear hB kSh
  cases rs with
  | false =>
    have hBo := hBw _ hX
    clear hSh
    go_wp2_with (go_at_call 8; refine (shadeShop_ok _).mono ?_; rintro e w9 ⟨rfl, hQ9⟩)
    go_ret
    exact ⟨rfl, hBo.trans (hQ9.mono hBo.size)⟩
  | true =>
  have HSH := Lib.hid (hSh rfl)
  clear hSh
  have hs : ∀ j ∈ js, j.2.1.length ≤ 1000 ∧ j.2.2.length ≤ 1000 := fun j hj => by
    obtain ⟨k, hk⟩ := List.mem_iff_getElem?.1 hj
    obtain ⟨nm, A, n1, c, A', n2, c', t, d, h1, h2, h3, h4, h5, h6⟩ := HIJ.out.some_ (List.getElem?_eq_some_iff.1 hk).1
    obtain rfl := Option.some.inj (hk.symm.trans h2)
    have := HSH.out.2.2 k _ h1
    dsimp only at this ⊢
    omega
  have HJS := Lib.hid hs
  have HX := Lib.hid hx
  clear hs hx
  cases b5 with
  | true =>
    have hBo := hBw _ hX
    go_wp2_with (go_at_call 8; refine (shadeShop_ok _).mono ?_; rintro e w9 ⟨rfl, hQ9⟩)
    go_ret
    exact ⟨rfl, hBo.trans (hQ9.mono hBo.size)⟩
  | false =>
  have hl5 : js.length ≤ 4 := by have := of_decide_eq_false HB5.out; omega
  have HL5 := Lib.hid hl5
  clear hl5
  have kC := fun V (h : Below w1.heap.size w1 V) => refJobN_ok js _ n V (HKSU.out V h) HJS.out HX.out
  obtain ⟨bn, hbn⟩ : ∃ bn, (n != 0) = bn := ⟨_, rfl⟩
  have HBN := Lib.hid hbn
  go_wp2_with fail
  refine (kC _ hX).mono ?_
  rintro e V2 ⟨rfl, hB⟩
  replace hX := hX.trans (hB.mono hX.size)
  clear hB kC
  cases bn with
  | true =>
    have hBo := hBw _ hX
    go_wp2_with (go_at_call 8; refine (shadeShop_ok _).mono ?_; rintro e w9 ⟨rfl, hQ9⟩)
    go_ret
    exact ⟨rfl, hBo.trans (hQ9.mono hBo.size)⟩
  | false =>
  obtain rfl : n = 0 := by have := HBN.out; simpa using this
  cases bo5 with
  | true =>
    have hBo := hBw _ hX
    go_wp2_with (go_at_call 8; refine (shadeShop_ok _).mono ?_; rintro e w9 ⟨rfl, hQ9⟩)
    go_ret
    exact ⟨rfl, hBo.trans (hQ9.mono hBo.size)⟩
  | false =>
  have hol : o.length ≤ 4 := by have := of_decide_eq_false HO5.out; omega
  have kO := fun V (h : Below w1.heap.size w1 V) => refCheckOrder_ok o js _ _ V (HKSU.out V h) (HKSO.out V h) (by omega)
  clear hbn
  go_wp2_with fail
  refine (kO _ hX).mono ?_
  rintro e V3 ⟨⟨eo, rfl, heo⟩, hB⟩
  replace hX := hX.trans (hB.mono hX.size)
  clear hB kO hol
  by_cases hz : eo = 0
  case neg =>
    have hzb : (eo != 0) = true := by simpa using hz
    have hBo := hBw _ hX
    clear hz heo
    go_wp2_with (go_at_call 8; refine (shadeShop_ok _).mono ?_; rintro e w9 ⟨rfl, hQ9⟩)
    go_ret
    exact ⟨rfl, hBo.trans (hQ9.mono hBo.size)⟩
  case pos =>
  subst hz
  obtain ⟨p, hop, hp⟩ := heo.ok
  subst hop
  clear heo
  have hil : (ints p).length = js.length := by rw [ints_len, hp.len]
  have HP := Lib.hid hp
  have HKSO : RowKit.Hid (∀ V, Below w1.heap.size w1 V → SlI V (.slice Ao js.length co) (ints p)) := Lib.hid (by have h := HKSO.out; rw [hil] at h; exact h)
  rw [hil]
  obtain ⟨bJ, oJ, cap, hJe, hbJ, -⟩ := (HKSL.out _ hX).addr HX.out.ok.pos
  injection hJe with hJe _ hJc
  subst hJe hJc
  have HBJ := Lib.hid hbJ
  obtain ⟨ed, hed⟩ : ∃ ed : Int, mo % 5 = ed := ⟨_, rfl⟩
  have hmo := HMO.out
  have hed1 : 0 ≤ ed ∧ ed < 5 := by omega
  have HED := Lib.hid hed1
  have HEE := Lib.hid hed
  have hR0 := JR2.nil V3 w1.heap.size
  clear hil hp hbJ hed1 hed hmo
  go_wp2_with fail
  go_loopw [8, 9, 65] (fun vb vs iv wr => ∃ (k : Nat) (Lb Ls : List JobV), k ≤ js.length ∧ iv = .int .i64 k ∧ JR2 wr w1.heap.size vb vs Lb Ls ((backL js).take k) ((slowL ed js).take k) ∧ Below w1.heap.size w1 wr) (fun _ _ iv _ => js.length - (intOf iv).toNat)
  case atStart => exact ⟨0, [], [], Nat.zero_le _, rfl, hR0, hX⟩
  case round =>
    clear hR0 hX
    obtain ⟨k, Lb, Ls, hk, rfl, hR, hX⟩ := hrel
    rename World => v2
    rcases Nat.lt_or_eq_of_le hk with hkn | rfl
    · obtain ⟨⟨nm, t, d⟩, hj⟩ : ∃ j, js[k]? = some j := ⟨_, List.getElem?_eq_getElem hkn⟩
      have hjo := HX.out.ok.ok _ (List.mem_of_getElem? hj)
      obtain ⟨-, -, At, Ad, ct, cd, q0, q1, q2, -, -, hct, hcd⟩ := (HKSC.out _ hX).at_ hj
      obtain ⟨-, -, At', Ad', ct', cd', q0', q1', q2', ht, hd, -, -⟩ := (HKSC.out _ (Below.refl _ _)).at_ hj
      dsimp only at q0 q1 q2 q0' q1' q2' ht hd hct hcd
      have hcell : ∀ i, v2.cell? ⟨bJ, i, none⟩ = w1.cell? ⟨bJ, i, none⟩ := fun i => hX.cell (p := ⟨bJ, i, none⟩) (by
        have h := ((HKSC.out _ (Below.refl w1.heap.size w1)).at_ hj).1
        exact h)
      rw [hcell] at q0 q1 q2
      have e1 := Option.some.inj (q1.symm.trans q1')
      have e2 := Option.some.inj (q2.symm.trans q2')
      rw [← e1] at ht
      rw [← e2] at hd
      rw [← hcell] at q0 q1 q2
      clear q0' q1' q2' e1 e2 hcell
      have hlen1 : t.length ≤ 8 ∧ d.length ≤ 8 := by
        have h1 := hjo.t
        have h2 := hjo.d
        have h3 := hjo.few
        dsimp only at h1 h2
        omega
      have hdb := hjo.db
      dsimp only at hdb
      have HDB := Lib.hid hdb
      have HL8 := Lib.hid hlen1
      have hbk : (backL js)[k]? = some (nm, t.reverse, d.reverse) := by unfold backL; rw [List.getElem?_map, hj]; rfl
      have hsk : (slowL ed js)[k]? = some (nm, t, d.map fun n => min 1440 (n + ed)) := by unfold slowL; rw [List.getElem?_map, hj]; rfl
      have htk1 := take_snoc' hbk
      have htk2 := take_snoc' hsk
      obtain ⟨W1, hW1⟩ : ∃ W1, W1 = v2.alloc (.cells #[.string nm, .slice At t.length ct, .slice Ad d.length cd] 31) := ⟨_, rfl⟩
      have rb : RowK W1 31 v2.heap.size [.string nm, .slice At t.length ct, .slice Ad d.length cd] := by subst hW1; exact heap_alloc_new v2 _
      have hB1 : Below v2.heap.size v2 W1 := by subst hW1; exact (Below.refl _ _).alloc (Nat.le_refl _) _
      have hXW := hX.trans (hB1.mono hX.size)
      obtain ⟨BX, hBX⟩ : ∃ BX, BX = v2.heap.size := ⟨_, rfl⟩
      rw [← hBX] at rb
      have kk : ∀ V, Below W1.heap.size W1 V → V.cell? ⟨BX, 0, none⟩ = some (.string nm) ∧ V.cell? ⟨BX, 1, none⟩ = some (.slice At t.length ct) ∧ V.cell? ⟨BX, 2, none⟩ = some (.slice Ad d.length cd) := fun V h => ⟨(rb.below h).cell (i := 0) rfl, (rb.below h).cell (i := 1) rfl, (rb.below h).cell (i := 2) rfl⟩
      have kT := fun V (h : Below W1.heap.size W1 V) => shadeBack_ok t _ V (ht.below (hXW.trans (h.mono hXW.size))) (by omega)
      have kD := fun V (h : Below W1.heap.size W1 V) => shadeBack_ok d _ V (hd.below (hXW.trans (h.mono hXW.size))) (by omega)
      have hRW := hR.below hB1
      have hbl : Lb.length = k := by have h := hR.i.1; rw [h]; exact takeV_len (by rw [backL_len]; exact hk)
      have hsl : Ls.length = k := by have h := hR.i'.1; rw [h]; exact takeV_len (by rw [slowL_len]; exact hk)
      obtain ⟨Ab, cb, hvb⟩ := (hR.o.sl encJ_len).form
      obtain ⟨As, cs, hvs⟩ := (hR.o'.sl encJ_len).form
      rw [hbl] at hvb
      rw [hsl] at hvs
      subst hvb hvs
      have HR := Lib.hid hRW
      have HRK := Lib.hid hR
      have HBXL := Lib.hid rb.lt
      have HKT := Lib.hid kT
      have HKD := Lib.hid kD
      have HKK := Lib.hid kk
      have HXW := Lib.hid hXW
      have HTD := Lib.hid (And.intro ht hd)
      have HCC := Lib.hid (And.intro hct hcd)
      have HBL := Lib.hid (And.intro hbl hsl)
      have HTK := Lib.hid (And.intro htk1 htk2)
      have hD1 := (Below.refl W1.heap.size W1).drew
      have hky := kk _ hD1
      have HW1 := Lib.hid (And.intro hW1 hBX)
      have hk0 : (0 : Int) ≤ k := by omega
      have hk1 : (k : Int) < js.length := by omega
      have HK := Lib.hid (show k + 1 ≤ js.length from hkn)
      have HM := Lib.hid (show js.length - (k + 1) < js.length - k by omega)
      have HWK := Lib.hid (wrapsV (show k < 1048576 by have := HL5.out; omega))
      clear hj hjo ht hd hct hcd hlen1 hdb hbk hsk htk1 htk2 rb hB1 hXW kk kT kD hR hRW hbl hsl hW1 hBX hX
      go_wp2_with fail
      rw [← HW1.out.1, ← HW1.out.2]
      clear q0 q1 q2
      refine wp_region_held_drew (S := fun V => V.cell? ⟨BX, 0, none⟩ = some (.string nm) ∧ V.cell? ⟨BX, 1, none⟩ = some (.slice At t.length ct) ∧ V.cell? ⟨BX, 2, none⟩ = some (.slice Ad d.length cd)) (by kernel_rfl) hky (fun hHeld => ?_)
      refine held_yes 0 (some 69) (.slice Ab k cb) rfl rfl (by kernel_rfl) (by kernel_rfl) (by kernel_rfl) (fun _ _ _ h => h) rfl (fun w' hS => by obtain ⟨s0, s1, s2⟩ := hS; go_simp) hHeld ?_
      try simp only [Act.put, List.setIfInBounds_toArray, List.set_cons_zero, List.set_cons_succ]
      refine held_yes 1 (some 70) (.pointer (some ⟨BX, 0, none⟩)) rfl rfl (by kernel_rfl) (by kernel_rfl) (by kernel_rfl) (fun _ _ _ h => h) rfl (fun w' hS => by obtain ⟨s0, s1, s2⟩ := hS; go_simp) hHeld ?_
      try simp only [Act.put, List.setIfInBounds_toArray, List.set_cons_zero, List.set_cons_succ]
      refine held_yes 2 (some 71) (.string nm) rfl rfl (by kernel_rfl) (by kernel_rfl) (by kernel_rfl) (fun _ _ _ h => h) rfl (fun w' hS => by obtain ⟨s0, s1, s2⟩ := hS; go_simp) hHeld ?_
      try simp only [Act.put, List.setIfInBounds_toArray, List.set_cons_zero, List.set_cons_succ]
      refine held_yes 3 (some 72) (.pointer (some ⟨BX, 1, none⟩)) rfl rfl (by kernel_rfl) (by kernel_rfl) (by kernel_rfl) (fun _ _ _ h => h) rfl (fun w' hS => by obtain ⟨s0, s1, s2⟩ := hS; go_simp) hHeld ?_
      try simp only [Act.put, List.setIfInBounds_toArray, List.set_cons_zero, List.set_cons_succ]
      refine held_yes 4 (some 73) (.slice At t.length ct) rfl rfl (by kernel_rfl) (by kernel_rfl) (by kernel_rfl) (fun _ _ _ h => h) rfl (fun w' hS => by obtain ⟨s0, s1, s2⟩ := hS; go_simp) hHeld ?_
      try simp only [Act.put, List.setIfInBounds_toArray, List.set_cons_zero, List.set_cons_succ]
      refine held_yes 6 (some 75) (.pointer (some ⟨BX, 2, none⟩)) rfl rfl (by kernel_rfl) (by kernel_rfl) (by kernel_rfl) (fun _ _ _ h => h) rfl (fun w' hS => by obtain ⟨s0, s1, s2⟩ := hS; go_simp) hHeld ?_
      try simp only [Act.put, List.setIfInBounds_toArray, List.set_cons_zero, List.set_cons_succ]
      refine held_yes 7 (some 76) (.slice Ad d.length cd) rfl rfl (by kernel_rfl) (by kernel_rfl) (by kernel_rfl) (fun _ _ _ h => h) rfl (fun w' hS => by obtain ⟨s0, s1, s2⟩ := hS; go_simp) hHeld ?_
      try simp only [Act.put, List.setIfInBounds_toArray, List.set_cons_zero, List.set_cons_succ]
      refine wpAnyH_ready (rs := [5]) (by kernel_rfl) (by simp) ?_
      refine AllReadyH.cons rfl (fun K hK => ?_) AllReadyH.nil
      go_simp
      refine (HKT.out _ hD1).mono ?_
      rintro e V4 ⟨⟨u1, rfl, hu1⟩, hB4⟩
      obtain ⟨A1, c1, hu1e, hc1⟩ := ownI_form hu1
      rw [List.length_reverse] at hu1e hc1
      subst hu1e
      have hX4 := hD1.trans (hB4.mono hD1.size)
      go_wp2_with fail
      refine hK.out _ _ (HKK.out _ hX4) (fun hHeld => ?_)
      clear hK K
      try simp only [Act.put, List.setIfInBounds_toArray, List.set_cons_zero, List.set_cons_succ]
      refine wpAnyH_ready (rs := [8]) (by kernel_rfl) (by simp) ?_
      refine AllReadyH.cons rfl (fun K hK => ?_) AllReadyH.nil
      go_simp
      refine (HKD.out _ hX4).mono ?_
      rintro e V5 ⟨⟨u2, rfl, hu2⟩, hB5⟩
      obtain ⟨A2, c2, hu2e, hc2⟩ := ownI_form hu2
      rw [List.length_reverse] at hu2e hc2
      subst hu2e
      have hX5 := hX4.trans (hB5.mono hX4.size)
      go_wp2_with fail
      refine hK.out _ _ (HKK.out _ hX5) (fun hHeld => ?_)
      clear hK K
      try simp only [Act.put, List.setIfInBounds_toArray, List.set_cons_zero, List.set_cons_succ]
      refine held_yes 9 (some 78) (.agg #[.string nm, .slice A1 t.length c1, .slice A2 d.length c2]) rfl rfl (by kernel_rfl) (by kernel_rfl) (by kernel_rfl) (fun _ _ _ h => h) rfl (fun w' hS => by obtain ⟨s0, s1, s2⟩ := hS; go_simp) hHeld ?_
      try simp only [Act.put, List.setIfInBounds_toArray, List.set_cons_zero, List.set_cons_succ]
      obtain ⟨W6, hW6⟩ : ∃ W6, W6 = V5.alloc (.cells #[.string nm, .slice A1 t.length c1, .slice A2 d.length c2] 31) := ⟨_, rfl⟩
      have hB6 : Below V5.heap.size V5 W6 := by rw [hW6]; exact (Below.refl _ _).alloc (Nat.le_refl _) _
      have hX6 := hX5.trans (hB6.mono hX5.size)
      have hXA := hD1.trans (hB4.mono hD1.size)
      have hrow6 : W6.heap[V5.heap.size]? = some (.cells (encJ (nm, (A1, t.length, c1), (A2, d.length, c2))).toArray 31 (0, 0)) := by
        have := heap_alloc_new V5 (.cells #[.string nm, .slice A1 t.length c1, .slice A2 d.length c2] 31)
        rw [← hW6] at this
        unfold encJ vS
        simpa using this
      have hR6 := HR.out.below hX6
      obtain ⟨A7, c7, w7, hap, hown7, hg7, hn7⟩ := run_append_one (P := Try.prog) W6 22 22 31 w1.heap.size _ Lb (nm, (A1, t.length, c1), (A2, d.length, c2)) encJ_len encJ_one hR6.o V5.heap.size 1 64 (.agg #[.string ⟨#[]⟩, .slice none 0 0, .slice none 0 0]) Try.underlying22 (by kernel_rfl) rfl (by decide) (by decide) (flatV_row hrow6) (by have := HBL.out.1; have := HL5.out; omega) (HXW.out.trans (hX6.mono HXW.out.size)).size
      have hX1 := HXW.out.trans (hX6.mono HXW.out.size)
      have hblk := hR6.o.lt
      have hblk' := hR6.o'.lt
      have hRk := HR.out
      have hlt0 := hRk.o.lt
      have hlt0' := hRk.o'.lt
      have hfr : ∀ g, (Value.slice Ab k cb).ownBlock = some g ∨ (Value.slice As k cs).ownBlock = some g → Fr g (A1, t.length, c1) t.reverse ∧ Fr g (A2, d.length, c2) d.reverse := fun g e => by
        have hg : g < W1.heap.size := by rcases e with e | e; exact (hlt0 g e).2; exact (hlt0' g e).2
        exact ⟨fr_own hu1 rfl hg, fr_own hu2 rfl (Nat.lt_of_lt_of_le hg hX4.size)⟩
      have hR7 := hR6.put (x := (nm, (A1, t.length, c1), (A2, d.length, c2))) (j := (nm, t.reverse, d.reverse)) rfl ((hu1.sl.below hB5).below hB6) (hu2.sl.below hB6) ⟨hc1, hc2⟩ hfr hown7 hg7 hn7
      rw [HTK.out.1] at hR7
      have hX7 : Below w1.heap.size w1 w7 := hX1.grown hg7 hX1.size (fun g e => (hblk g e).1)
      have hrbX : ∀ g, (Value.slice Ab k cb).ownBlock = some g → g ≠ BX := fun g e => by
        have h := (HRK.out.o.lt g e).2
        rw [HW1.out.2]
        omega
      have hkk7 : w7.cell? ⟨BX, 0, none⟩ = some (.string nm) ∧ w7.cell? ⟨BX, 1, none⟩ = some (.slice At t.length ct) ∧ w7.cell? ⟨BX, 2, none⟩ = some (.slice Ad d.length cd) := by
        have hb : w7.heap[BX]? = W6.heap[BX]? := hg7.block BX (Nat.lt_of_lt_of_le HBXL.out hX6.size) fun e => hrbX BX e.symm rfl
        have h := HKK.out _ hX6
        exact ⟨(World.cell?_of_block (a := ⟨BX, 0, none⟩) hb).trans h.1, (World.cell?_of_block (a := ⟨BX, 1, none⟩) hb).trans h.2.1, (World.cell?_of_block (a := ⟨BX, 2, none⟩) hb).trans h.2.2⟩
      rw [HBL.out.1] at hap hR7
      have HAP := Lib.hid hap
      have HR7 := Lib.hid hR7
      have HX7 := Lib.hid hX7
      have HGS := Lib.hid (Nat.le_trans hX6.size hg7.size)
      clear hap hR7 hX7 hown7 hg7 hn7 hR6 hX1 hblk hblk' hRk hlt0 hlt0' hfr hrow6 hrbX
      refine wpAnyH_ready (rs := [10]) (by kernel_rfl) (by simp) ?_
      refine AllReadyH.cons rfl (fun K hK => ?_) AllReadyH.nil
      go_simp
      rw [← hW6]
      refine hK.out _ _ (HKK.out _ hX6) (fun hHeld => ?_)
      clear hK K
      try simp only [Act.put, List.setIfInBounds_toArray, List.set_cons_zero, List.set_cons_succ]
      refine wpAnyH_ready (rs := [11]) (by kernel_rfl) (by simp) ?_
      refine AllReadyH.cons rfl (fun K hK => ?_) AllReadyH.nil
      refine step_app (w' := w7) rfl (.tmp 69) (.tmp 79) _ rfl (.slice Ab k cb) (.slice (some ⟨V5.heap.size, 0, none⟩) 1 1) (.slice A7 (k + 1) c7) (by rfl) (by rfl) HAP.out ?_
      refine hK.out _ _ hkk7 (fun hHeld => ?_)
      clear hK K
      try simp only [Act.put, List.setIfInBounds_toArray]
      refine held_yes 12 (some 8) (.slice A7 (k + 1) c7) rfl rfl (by kernel_rfl) (by kernel_rfl) (by kernel_rfl) (fun _ _ _ h => h) rfl (fun w' hS => by obtain ⟨s0, s1, s2⟩ := hS; go_simp) hHeld ?_
      try simp only [Act.put]
      refine wpAnyH_done (by kernel_rfl) ?_ _
      clear hHeld
      obtain ⟨s0, s1, s2⟩ := hkk7
      have hdw : SlI w7 (.slice Ad d.length cd) d := HTD.out.2.below HX7.out
      have hO0 : OwnI 3 w7 w7.heap.size (.slice none 0 0) ((d.map fun n => min 1440 (n + ed)).take 0) := OwnI.nil _ _ _
      have hY0 := Below.refl w7.heap.size w7
      clear hu1 hu2 hc1 hc2 hB4 hB5 hB6 hW6 hX4 hX5 hX6 hXA
      go_wp2_with fail
      go_loopw [12, 84] (fun dv iv wr => ∃ q : Nat, q ≤ d.length ∧ iv = .int .i64 q ∧ OwnI 3 wr w7.heap.size dv ((d.map fun n => min 1440 (n + ed)).take q) ∧ Below w7.heap.size w7 wr) (fun _ iv _ => d.length - (intOf iv).toNat)
      case atStart => exact ⟨0, Nat.zero_le _, rfl, hO0, hY0⟩
      case round =>
        clear hO0 hY0
        obtain ⟨q, hq, rfl, hown, hY⟩ := hrel
        rename World => v8
        have htl : ((d.map fun n => min 1440 (n + ed)).take q).length = q := takeV_len (by rw [List.length_map]; exact hq)
        rcases Nat.lt_or_eq_of_le hq with hqn | rfl
        · obtain ⟨bd, od, z, hAd, -, hbd, hz, rz⟩ := (hdw.below hY).cells (k := q) hqn
          subst hAd
          have hzb := HDB.out z (List.mem_of_getElem? hz)
          have hedb := HED.out
          obtain ⟨y, hy, hyc⟩ := min_two 1440 (z + ed)
          have hmz : (d.map fun n => min 1440 (n + ed))[q]? = some y := by rw [List.getElem?_map, hz]; exact congrArg some hy
          obtain ⟨W9, hW9⟩ : ∃ W9, W9 = v8.alloc (.cells #[.int .i64 y] 3) := ⟨_, rfl⟩
          have hB9 : Below v8.heap.size v8 W9 := by subst hW9; exact (Below.refl _ _).alloc (Nat.le_refl _) _
          have hrow : RowK W9 3 v8.heap.size [.int .i64 y] := by subst hW9; exact heap_alloc_new v8 _
          have hI : IAt W9 v8.heap.size 0 [y] := fun q x hi => by
            match q, hi with
            | 0, hi =>
              obtain rfl : y = x := by simpa using hi
              exact hrow.cell (by rfl)
            | q + 1, hi => simp at hi
          have ho1 := hown.keep hB9
          have hX1 := hY.trans (hB9.mono hY.size)
          obtain ⟨A10, c10, W10, hap, hown2, hg, -, -⟩ := run_append_ints W9 23 w7.heap.size _ _ [y] ho1 v8.heap.size 0 1 hI (by simp) (by rw [htl]; show q + 1 ≤ 100000; have := HL8.out; omega) hX1.size
          rw [htl, List.length_singleton] at hap hown2
          rw [← takeV_succ hmz] at hown2
          have hX2 : Below w7.heap.size w7 W10 := hX1.grown hg hX1.size (fun g e => (ho1.lt g e).1)
          obtain ⟨Au', cu', hu⟩ := hown.sl.form
          rw [htl] at hu
          subst hu
          have HAP2 := Lib.hid hap
          have HW9 := Lib.hid hW9
          have HR2 := Lib.hid (And.intro hown2 hX2)
          have HK2 := Lib.hid (show q + 1 ≤ d.length from hqn)
          have HM2 := Lib.hid (show d.length - (q + 1) < d.length - q by omega)
          have hq0 : (0 : Int) ≤ q := by omega
          have hq1 : (q : Int) < d.length := by omega
          obtain ⟨wz1, wz2⟩ := wrapC2 (n := z + ed) (by omega)
          obtain ⟨we1, we2⟩ := wrapC2 (n := ed) (by omega)
          obtain ⟨wk1, wk2⟩ := wrapsV (show q < 1048576 by have := HL8.out; omega)
          have hmo := HMO.out
          have hee := HEE.out
          clear hap hW9 hown2 hX2 hg ho1 hX1 hI hrow hB9 hown hmz hzb hedb hz hbd htl hY hdw
          rcases hyc with ⟨hlt, rfl⟩ | ⟨hlt, rfl⟩
          all_goals
            go_wp2_with (at_builtin; rw [← HW9.out]; refine Lib.wpList_append_run _ rfl _ _ _ _ rfl _ _ rfl rfl _ _ HAP2.out ?_)
            go_roundw
            case rel => exact ⟨q + 1, HK2.out, by simp, HR2.out.1, HR2.out.2⟩
            case measure => exact HM2.out
        · rw [List.take_of_length_le (by rw [List.length_map]; exact Nat.le_refl _)] at hown
          obtain ⟨A11, c11, hu11, hc11⟩ := ownI_form hown
          rw [List.length_map] at hu11 hc11
          subst hu11
          obtain ⟨t0, t1, t2⟩ : v8.cell? ⟨BX, 0, none⟩ = some (.string nm) ∧ v8.cell? ⟨BX, 1, none⟩ = some (.slice At t.length ct) ∧ v8.cell? ⟨BX, 2, none⟩ = some (.slice Ad d.length cd) := by
            have hb : w7.heap.size > BX := Nat.lt_of_lt_of_le HBXL.out HGS.out
            exact ⟨(hY.cell (p := ⟨BX, 0, none⟩) hb).trans s0, (hY.cell (p := ⟨BX, 1, none⟩) hb).trans s1, (hY.cell (p := ⟨BX, 2, none⟩) hb).trans s2⟩
          obtain ⟨W12, hW12⟩ : ∃ W12, W12 = v8.alloc (.cells #[.string nm, .slice At t.length ct, .slice A11 d.length c11] 31) := ⟨_, rfl⟩
          have hB12 : Below v8.heap.size v8 W12 := by rw [hW12]; exact (Below.refl _ _).alloc (Nat.le_refl _) _
          have hrow12 : W12.heap[v8.heap.size]? = some (.cells (encJ (nm, (At, t.length, ct), (A11, d.length, c11))).toArray 31 (0, 0)) := by
            have := heap_alloc_new v8 (.cells #[.string nm, .slice At t.length ct, .slice A11 d.length c11] 31)
            rw [← hW12] at this
            unfold encJ vS
            simpa using this
          have hXV := HX7.out.trans (hY.mono HX7.out.size)
          have hX12 := hXV.trans (hB12.mono hXV.size)
          have hS12 := ((HR7.out.below hY).below hB12).swap
          obtain ⟨A13, c13, w13, hap, hown13, hg13, hn13⟩ := run_append_one (P := Try.prog) W12 22 22 31 w1.heap.size _ Ls (nm, (At, t.length, ct), (A11, d.length, c11)) encJ_len encJ_one hS12.o v8.heap.size 1 64 (.agg #[.string ⟨#[]⟩, .slice none 0 0, .slice none 0 0]) Try.underlying22 (by kernel_rfl) rfl (by decide) (by decide) (flatV_row hrow12) (by have := HBL.out.2; have := HL5.out; omega) hX12.size
          have hblk := hS12.o.lt
          have h7 := HR7.out
          have hlt7 := h7.o.lt
          have hlt7' := h7.o'.lt
          have hfr : ∀ g, (Value.slice As k cs).ownBlock = some g ∨ (Value.slice A7 (k + 1) c7).ownBlock = some g → Fr g (At, t.length, ct) t ∧ Fr g (A11, d.length, c11) (d.map fun n => min 1440 (n + ed)) := fun g e => by
            have hg : w1.heap.size ≤ g ∧ g < w7.heap.size := by
              rcases e with e | e
              · exact hlt7' g e
              · exact hlt7 g e
            exact ⟨fr_new (w := w1) HTD.out.1 hg.1, fr_own hown rfl hg.2⟩
          have hR13 := hS12.put (x := (nm, (At, t.length, ct), (A11, d.length, c11))) (j := (nm, t, d.map fun n => min 1440 (n + ed))) rfl (HTD.out.1.below hX12) (hown.sl.below hB12) ⟨HCC.out.1, hc11⟩ hfr hown13 hg13 hn13
          rw [HTK.out.2] at hR13
          have hR14 := hR13.swap
          have hX13 : Below w1.heap.size w1 w13 := hX12.grown hg13 hX12.size (fun g e => (hblk g e).1)
          rw [HBL.out.2] at hap hR14
          have HAP3 := Lib.hid hap
          have HW12 := Lib.hid hW12
          have HR14 := Lib.hid (And.intro hR14 hX13)
          obtain ⟨wk1, wk2⟩ := HWK.out
          clear hap hW12 hR14 hX13 hR13 hown13 hg13 hn13 hfr h7 hlt7 hlt7' hblk hS12 hX12 hXV hrow12 hB12 hown hc11 htl hY hdw s0 s1 s2
          go_wp2_with (at_builtin; rw [← HW12.out]; refine Lib.wpList_append_run _ rfl _ _ _ _ rfl _ _ rfl rfl _ _ HAP3.out ?_)
          go_roundw
          case rel => exact ⟨k + 1, _, _, HK.out, by simp, HR14.out.1, HR14.out.2⟩
          case measure => exact HM.out
    · rw [List.take_of_length_le (by rw [backL_len]; exact Nat.le_refl _), List.take_of_length_le (by rw [slowL_len]; exact Nat.le_refl _)] at hR
      have hbl : Lb.length = js.length := by have h := hR.i.1; rw [h, backL_len]
      have hsl : Ls.length = js.length := by have h := hR.i'.1; rw [h, slowL_len]
      obtain ⟨Ab, cb, hvb⟩ := (hR.o.sl encJ_len).form
      obtain ⟨As, cs, hvs⟩ := (hR.o'.sl encJ_len).form
      rw [hbl] at hvb
      rw [hsl] at hvs
      subst hvb hvs
      have jA0 : JobsAt w (.slice (some ⟨bJ, oJ, none⟩) js.length cl) js := by
        have h := HSF.out
        rw [HLJ.out] at h
        exact .mk' h HIJ.out HCL.out
      have jA := jA0.keep (hBw _ hX)
      have jB : JobsAt v2 (.slice Ab js.length cb) (backL js) := .mk' (hR.o.sl encJ_len) hR.i hR.c
      have jC : JobsAt v2 (.slice As js.length cs) (slowL ed js) := .mk' (hR.o'.sl encJ_len) hR.i' hR.c'
      have HJA := Lib.hid jA
      have HJB := Lib.hid jB
      have HJC := Lib.hid jC
      have hxb := jobX_back HX.out
      have hxs := jobX_slow HED.out.1 HX.out
      have HXB := Lib.hid hxb
      have HXS := Lib.hid hxs
      obtain ⟨m, hm⟩ : ∃ m, m = stN js := ⟨_, rfl⟩
      have hmp := stN_pos HX.out
      have HMM := Lib.hid hm
      have hpb : OrdN (backL js).length p.reverse := by rw [backL_len]; exact HP.out.rev
      have kE1 := shadeEnd_ok js p _ _ v2 (HKSL.out _ hX) HX.out (HKSO.out _ hX) HP.out
      have kBk := fun V (h : Below w1.heap.size w1 V) => shadeBack_ok (ints p) _ V (HKSO.out V h) (by rw [ints_len, HP.out.len]; have := HL5.out; omega)
      have kE2 := fun V vo (h : Below v2.heap.size v2 V) (ho : SlI V vo (ints p.reverse)) => shadeEnd_ok (backL js) p.reverse _ vo V (HJB.out.slc h).1 HXB.out ho hpb
      have hbe := back_eq hmp.1 HX.out.ok.ok HX.out.ok.pos HP.out
      have hbest := (best_is HX.out)
      obtain ⟨-, -, -, -, hbest⟩ := hbest
      have hbest := hbest p HP.out
      have hst := stN_back js
      rw [hst, hbe] at kE2
      obtain ⟨en, hen⟩ : ∃ en, en = endP js (stN js) p := ⟨_, rfl⟩
      rw [← hen] at kE1 kE2 hbest
      have HBEST := Lib.hid hbest
      have hZ := Below.refl v2.heap.size v2
      clear hR hbl hsl jA0 jA jB jC hxb hxs hm hmp hpb hbe hbest hst hen hk
      go_wp2_with fail
      refine kE1.mono ?_
      rintro e V4 ⟨rfl, hB⟩
      replace hX := hX.trans (hB.mono hX.size)
      replace hZ := hZ.trans (hB.mono hZ.size)
      clear hB kE1
      go_wp2_with fail
      refine (kBk _ hX).mono ?_
      rintro e V5 ⟨⟨uo, rfl, huo⟩, hB⟩
      replace hX := hX.trans (hB.mono hX.size)
      replace hZ := hZ.trans (hB.mono hZ.size)
      have hus := huo.sl
      rw [← ints_rev] at hus
      clear hB kBk huo
      go_wp2_with fail
      refine (kE2 _ _ hZ hus).mono ?_
      rintro e V6 ⟨rfl, hB⟩
      replace hX := hX.trans (hB.mono hX.size)
      replace hZ := hZ.trans (hB.mono hZ.size)
      clear hB kE2 hus
      have hnn : (en != en) = false := by simp
      have hmo := HMO.out
      have hpos := HX.out.ok.pos
      obtain ⟨e2, he2⟩ : ∃ e2 : Int, mo % 2 = e2 := ⟨_, rfl⟩
      obtain ⟨s, hs, hsc⟩ : ∃ s : Nat, (js.length : Int) - 1 + e2 = s ∧ (s = js.length - 1 ∨ s = js.length) := by
        have : e2 = 0 ∨ e2 = 1 := by omega
        rcases this with rfl | rfl
        · exact ⟨js.length - 1, by omega, .inl rfl⟩
        · exact ⟨js.length, by omega, .inr rfl⟩
      have hsl : s ≤ L.length := by rw [HLJ.out]; omega
      obtain ⟨A', c', hrun, hpart⟩ := slcJ (some ⟨bJ, oJ, none⟩) cl s L hsl HVC.out
      rw [HLJ.out] at hrun
      have jD : JobsAt V6 (.slice A' s c') (js.take s) := .mk' ((hpart _ HSF.out).below (hBw _ hX)) ((HIJ.out.take s).below (hBw _ hX)) fun x hx => HCL.out x (List.mem_of_mem_take hx)
      have hs4 : s ≤ 4 := by have := HL5.out; omega
      have HJD := Lib.hid jD
      have HSC := Lib.hid hsc
      obtain ⟨Wa, hWa⟩ : ∃ Wa, Wa = V6.alloc (.cells #[.int .i64 0, .int .i64 0, .int .i64 0, .int .i64 0] 35) := ⟨_, rfl⟩
      have ra : RowK Wa 35 V6.heap.size (endsK (fourJ js ed s) 0) := by subst hWa; exact heap_alloc_new V6 _
      have hBa : Below V6.heap.size V6 Wa := by subst hWa; exact (Below.refl _ _).alloc (Nat.le_refl _) _
      have hsza : Wa.heap.size = V6.heap.size + 1 := by subst hWa; simp
      obtain ⟨Wb, hWb⟩ : ∃ Wb, Wb = Wa.alloc (.cells #[.slice (some ⟨bJ, oJ, none⟩) js.length cl, .slice Ab js.length cb, .slice As js.length cs, .slice A' s c'] 22) := ⟨_, rfl⟩
      have rr : RowK Wb 22 Wa.heap.size [.slice (some ⟨bJ, oJ, none⟩) js.length cl, .slice Ab js.length cb, .slice As js.length cs, .slice A' s c'] := by subst hWb; exact heap_alloc_new Wa _
      have hBb : Below Wa.heap.size Wa Wb := by subst hWb; exact (Below.refl _ _).alloc (Nat.le_refl _) _
      have ra2 := ra.below hBb
      have hZb : Below V6.heap.size V6 Wb := hBa.trans (hBb.mono hBa.size)
      rw [hsza] at rr
      have hw1 : IntKind.i64.wrap ((js.length : Int) - 1) = (js.length : Int) - 1 := wrap_small (by omega)
      have hw2 : wrap64 ((js.length : Int) - 1) = (js.length : Int) - 1 := wrap64_small (by omega)
      have hw3 : IntKind.i64.wrap ((js.length : Int) - 1 + e2) = (s : Int) := by rw [hs]; exact wrap_small (by omega)
      have hw4 : wrap64 ((js.length : Int) - 1 + e2) = (s : Int) := by rw [hs]; exact wrap64_small (by omega)
      obtain ⟨wz1, wz2⟩ := wrapC2 (n := e2) (by omega)
      have hs0 : (0 : Int) ≤ s := by omega
      have hscl : (s : Int) ≤ cl := by have := HVC.out; omega
      have HW := Lib.hid (And.intro hWa hWb)
      have HRA := Lib.hid ra2
      have HRR := Lib.hid rr
      have HZB := Lib.hid hZb
      have HS4 := Lib.hid hs4
      have hF : ∀ q, q < 4 → ∃ (A : Option Addr) (c : Nat), [Value.slice (some ⟨bJ, oJ, none⟩) js.length cl, .slice Ab js.length cb, .slice As js.length cs, .slice A' s c'][q]? = some (.slice A (fourJ js ed s q).length c) ∧ JobsAt V6 (.slice A (fourJ js ed s q).length c) (fourJ js ed s q) ∧ (0 < (fourJ js ed s q).length → JobX (fourJ js ed s q) 0) ∧ (fourJ js ed s q).length ≤ 4 := fun q hq => by
        have hl4 := HL5.out
        match q, hq with
        | 0, _ => exact ⟨_, _, rfl, HJA.out.keep hZ, fun _ => HX.out, hl4⟩
        | 1, _ =>
          have e : (fourJ js ed s 1).length = js.length := backL_len js
          rw [e]
          exact ⟨_, _, rfl, HJB.out.keep hZ, fun _ => HXB.out, hl4⟩
        | 2, _ =>
          have e : (fourJ js ed s 2).length = js.length := slowL_len ed js
          rw [e]
          exact ⟨_, _, rfl, HJC.out.keep hZ, fun _ => HXS.out, hl4⟩
        | 3, _ =>
          have e : (fourJ js ed s 3).length = s := by
            show (js.take s).length = s
            rw [List.length_take]
            omega
          rw [e]
          exact ⟨_, _, rfl, HJD.out, fun h => jobX_take HX.out h (by omega), hs4⟩
      have HF := Lib.hid hF
      clear hsl hpart jD hsc hs4 hWa hWb ra hBa rr hBb ra2 hZb hsza hF hs hpos
      go_wp2_with fail
      rw [← HW.out.1, ← HW.out.2]
      clear hrun hw1 hw2 hw3 hw4 wz1 wz2 hs0 hscl hmo he2
      obtain ⟨ge, hge⟩ : ∃ ge, ge = V6.heap.size := ⟨_, rfl⟩
      have hra := HRA.out
      have hrr := HRR.out
      have hZ0 := HZB.out
      obtain ⟨SL, hSL⟩ : ∃ SL, SL = [Value.slice (some ⟨bJ, oJ, none⟩) js.length cl, .slice Ab js.length cb, .slice As js.length cs, .slice A' s c'] := ⟨_, rfl⟩
      have hF := HF.out
      rw [← hSL] at hrr hF
      rw [← hge] at hra hrr ⊢
      have HGE := Lib.hid hge
      have HF := Lib.hid hF
      obtain ⟨F, hFF⟩ : ∃ F, F = fourJ js ed s := ⟨_, rfl⟩
      have HFF := Lib.hid hFF
      rw [← hFF] at hra
      have HF : RowKit.Hid (∀ q, q < 4 → ∃ (A : Option Addr) (c : Nat), SL[q]? = some (.slice A (F q).length c) ∧ JobsAt V6 (.slice A (F q).length c) (F q) ∧ (0 < (F q).length → JobX (F q) 0) ∧ (F q).length ≤ 4) := Lib.hid (by rw [hFF]; exact hF)
      clear hSL hge hF hFF HRA HRR HZB HW
      go_loopw [146] (fun iv wr => ∃ k : Nat, k ≤ 4 ∧ iv = .int .i64 k ∧ RowK wr 35 ge (endsK F k) ∧ RowK wr 22 (ge + 1) SL ∧ Below V6.heap.size V6 wr) (fun iv _ => 4 - (intOf iv).toNat)
      case atStart => exact ⟨0, Nat.zero_le _, rfl, hra, hrr, hZ0⟩
      case round =>
        clear hra hrr hZ0
        obtain ⟨k, hk, rfl, hra, hrr, hQ⟩ := hrel
        rename World => v3
        rcases Nat.lt_or_eq_of_le hk with hkn | rfl
        · obtain ⟨A, c, hu, jK, hjx, hj4⟩ := HF.out k hkn
          have c0 := hrr.cell hu
          have hes := endsK_set F hkn
          have hesk := endsK_skip F hkn
          have hget := endsK_get F hkn k
          obtain ⟨jk, hjk⟩ : ∃ jk, jk = F k := ⟨_, rfl⟩
          rw [← hjk] at jK hjx hj4 c0 hes hesk
          have hk0 : (0 : Int) ≤ k := by omega
          have hk1 : (k : Int) < 4 := by omega
          have HK := Lib.hid (show k + 1 ≤ 4 from hkn)
          have HM := Lib.hid (show 4 - (k + 1) < 4 - k by omega)
          have HWK := Lib.hid (wrapsV (show k < 1048576 by omega))
          have HES := Lib.hid hes
          have HGT := Lib.hid hget
          have HJK := Lib.hid jK
          have HRR := Lib.hid hrr
          have HRA := Lib.hid hra
          clear hjk hes hget jK hu hrr
          by_cases hz : jk.length = 0
          case pos =>
            have hzb : ((jk.length : Int) == 0) = true := by simp [hz]
            have he := hesk hz
            rw [← he] at hra
            have HRA2 := Lib.hid hra
            obtain ⟨wk1, wk2⟩ := HWK.out
            clear he hesk hz hjx hj4 hra
            go_wp2_with fail
            go_roundw
            case rel => exact ⟨k + 1, HK.out, by simp, HRA2.out, HRR.out, hQ⟩
            case measure => exact HM.out
          case neg =>
            have hzb : ((jk.length : Int) == 0) = false := by simpa using hz
            have hxk := hjx (by omega)
            have HXK := Lib.hid hxk
            have HJ4 := Lib.hid hj4
            have kB := bestC_ok jk _ v3 (HJK.out.slc hQ).1 hxk (by omega)
            clear hesk hz hjx hxk hj4 hra
            go_wp2_with fail
            refine kB.mono ?_
            rintro e V7 ⟨⟨Ar, cr, b, rfl, hbs, hob, hbe⟩, hB⟩
            have hY := (Below.refl v3.heap.size v3).trans hB
            have HBE := Lib.hid (And.intro hob hbe)
            have HBS := Lib.hid hbs
            have hT := Below.refl V7.heap.size V7
            clear kB hB hob hbe hbs c0
            have kJ := HJK.out.jobs (V := V7) (hQ.trans (hY.mono hQ.size)) (by have := HJ4.out; omega)
            go_wp2_with fail
            refine kJ.mono ?_
            rintro e V8 ⟨⟨ux, rfl, hux⟩, hB⟩
            replace hY := hY.trans (hB.mono hY.size)
            replace hT := hT.trans (hB.mono hT.size)
            have kO := refOrder0_ok jk b _ _ V8 hux (HBS.out.below hT) HBE.out.1 (by have := HJ4.out; omega)
            clear kJ hB hux
            go_wp2_with fail
            refine kO.mono ?_
            rintro e V9 ⟨rfl, hB⟩
            replace hY := hY.trans (hB.mono hY.size)
            replace hT := hT.trans (hB.mono hT.size)
            clear kO hB
            have kE := shadeEnd_ok jk b _ _ V9 (HJK.out.slc (hQ.trans (hY.mono hQ.size))).1 HXK.out (HBS.out.below hT) HBE.out.1
            rw [HBE.out.2] at kE
            go_wp2_with fail
            refine kE.mono ?_
            rintro e V10 ⟨rfl, hB⟩
            replace hY := hY.trans (hB.mono hY.size)
            clear kE hB hT
            have hra := HRA.out.below hY
            have o0 := hra.cell HGT.out
            have fz := hra.fz
            obtain ⟨v4, hv4⟩ : ∃ v4, v4 = V10.setCell ⟨ge, k, none⟩ (.int .i64 (bestE jk)) := ⟨_, rfl⟩
            have hra4 : RowK v4 35 ge (endsK F (k + 1)) := by rw [hv4, ← HES.out]; exact hra.set k _
            have hrr4 : RowK v4 22 (ge + 1) SL := (HRR.out.below hY).keep (by rw [hv4]; exact Below.heap_setCell V10 ⟨ge, k, none⟩ _ (ge + 1) (by show ge + 1 ≠ ge; omega))
            have hQ4 : Below V6.heap.size V6 v4 := by rw [hv4]; exact (hQ.trans (hY.mono hQ.size)).setCell (by show V6.heap.size ≤ ge; rw [HGE.out]; exact Nat.le_refl _) _
            have HV4 := Lib.hid hv4
            have HR4 := Lib.hid (And.intro hra4 (And.intro hrr4 hQ4))
            obtain ⟨wk1, wk2⟩ := HWK.out
            clear hra4 hrr4 hQ4 hv4 hra hQ hY
            go_wp2_with fail
            rw [← HV4.out]
            go_roundw
            case rel => exact ⟨k + 1, HK.out, by simp, HR4.out.1, HR4.out.2.1, HR4.out.2.2⟩
            case measure => exact HM.out
        · have hbb := bestE_back HX.out
          have hbs2 := bestE_slow HX.out HED.out.1
          have hbt := bestE_take HX.out HSC.out
          have hbn := HBEST.out
          have g0 := hra.cell (endsK_get F (k := 0) (by omega) 4)
          have g1 := hra.cell (endsK_get F (k := 1) (by omega) 4)
          have g2 := hra.cell (endsK_get F (k := 2) (by omega) 4)
          have g3 := hra.cell (endsK_get F (k := 3) (by omega) 4)
          have hE : ∀ i, i < 4 → endV F 4 i = .int .i64 (bestE (F i)) := fun i hi => by unfold endV; rw [if_pos hi]
          rw [hE _ (by omega)] at g0 g1 g2 g3
          rw [HFF.out] at g0 g1 g2 g3
          have HQ := Lib.hid hQ
          obtain ⟨x0, hx0⟩ : ∃ x, x = bestE js := ⟨_, rfl⟩
          obtain ⟨x2, hx2⟩ : ∃ x, x = bestE (slowL ed js) := ⟨_, rfl⟩
          obtain ⟨x3, hx3⟩ : ∃ x, x = bestE (js.take s) := ⟨_, rfl⟩
          have g0 : v3.cell? ⟨ge, 0, none⟩ = some (.int .i64 x0) := by rw [hx0]; exact g0
          have g1 : v3.cell? ⟨ge, 1, none⟩ = some (.int .i64 x0) := by rw [hx0, ← hbb]; exact g1
          have g2 : v3.cell? ⟨ge, 2, none⟩ = some (.int .i64 x2) := by rw [hx2]; exact g2
          have g3 : v3.cell? ⟨ge, 3, none⟩ = some (.int .i64 x3) := by rw [hx3]; exact g3
          rw [← hx0, ← hx2] at hbs2
          rw [← hx0, ← hx3] at hbt
          rw [← hx0] at hbn
          have kg : ∀ V, Below v3.heap.size v3 V → V.cell? ⟨ge, 0, none⟩ = some (.int .i64 x0) ∧ V.cell? ⟨ge, 1, none⟩ = some (.int .i64 x0) ∧ V.cell? ⟨ge, 2, none⟩ = some (.int .i64 x2) ∧ V.cell? ⟨ge, 3, none⟩ = some (.int .i64 x3) := fun V h => by
            have hl := hra.lt
            exact ⟨(h.cell (p := ⟨ge, 0, none⟩) hl).trans g0, (h.cell (p := ⟨ge, 1, none⟩) hl).trans g1, (h.cell (p := ⟨ge, 2, none⟩) hl).trans g2, (h.cell (p := ⟨ge, 3, none⟩) hl).trans g3⟩
          have HKG := Lib.hid kg
          have HCMP := Lib.hid (And.intro hbs2 (And.intro hbt hbn))
          have hXQ := hX.trans (hQ.mono hX.size)
          have hZQ := hZ.trans (hQ.mono hZ.size)
          have kN1 := fun V (h : Below w1.heap.size w1 V) => shBound_ok js _ V (HKSC.out V h) HJS.out HX.out
          have kN2 := fun V (h : Below v2.heap.size v2 V) => shBound_ok (backL js) _ V (HJB.out.slc h) (jobs_short HXB.out) HXB.out
          rw [stN_back, bnd_back HX.out.ok.ok] at kN2
          obtain ⟨lo, hlo⟩ : ∃ lo, lo = bndK js (stN js) := ⟨_, rfl⟩
          rw [← hlo] at kN1 kN2
          have hR := Below.refl v3.heap.size v3
          clear hbb hbs2 hbt hbn g0 g1 g2 g3 hE hx0 hx2 hx3 kg hra hrr hQ hlo hX hZ hk
          go_wp2_with fail
          refine (kN1 _ hXQ).mono ?_
          rintro e V11 ⟨rfl, hB⟩
          replace hXQ := hXQ.trans (hB.mono hXQ.size)
          replace hZQ := hZQ.trans (hB.mono hZQ.size)
          replace hR := hR.trans (hB.mono hR.size)
          clear hB kN1
          go_wp2_with fail
          refine (kN2 _ hZQ).mono ?_
          rintro e V12 ⟨rfl, hB⟩
          replace hXQ := hXQ.trans (hB.mono hXQ.size)
          replace hZQ := hZQ.trans (hB.mono hZQ.size)
          replace hR := hR.trans (hB.mono hR.size)
          clear hB kN2
          obtain ⟨j0, hj0⟩ : ∃ j, js[0]? = some j := ⟨_, List.getElem?_eq_getElem HX.out.ok.pos⟩
          obtain ⟨-, -, At0, Ad0, ct0, cd0, -, q1, -, -, -, -, -⟩ := (HKSC.out _ hXQ).at_ hj0
          have hj0m : j0.2.1.length = stN js := by unfold stN; rw [hj0]
          rw [Nat.zero_mul, Nat.add_zero, hj0m, ← HMM.out] at q1
          have hn1 : (0 : Int) < js.length := by have := HX.out.ok.pos; omega
          have hm8 := stN_pos HX.out
          rw [← HMM.out] at hm8
          have hmake := make8 hm8.2
          have hzo := zeros_own hm8.2 V12 V12.heap.size (Nat.le_refl _)
          rw [← ratK_0] at hzo
          have HM8 := Lib.hid hm8
          obtain ⟨W13, hW13⟩ : ∃ W13, W13 = V12.alloc (.cells (Array.replicate m (Value.int .i64 0)) 3) := ⟨_, rfl⟩
          rw [show (List.replicate m (Value.int IntKind.i64 0)).toArray = Array.replicate m (Value.int .i64 0) by simp, ← hW13] at hzo
          have hB13 : Below V12.heap.size V12 W13 := by subst hW13; exact (Below.refl _ _).alloc (Nat.le_refl _) _
          have HW13 := Lib.hid hW13
          obtain ⟨gm, hgm⟩ : ∃ gm, gm = V12.heap.size := ⟨_, rfl⟩
          rw [← hgm] at hzo
          have HGM := Lib.hid hgm
          clear hj0 hj0m hm8 hW13 hgm
          go_wp2_with fail
          rw [← HW13.out, ← HGM.out]
          clear hmake q1 hn1
          go_loopw [198] (fun iv wr => ∃ k : Nat, k ≤ m ∧ iv = .int .i64 k ∧ OwnI 3 wr V12.heap.size (.slice (some ⟨gm, 0, none⟩) m m) (ratK m k) ∧ Below V12.heap.size V12 wr) (fun iv _ => m - (intOf iv).toNat)
          case atStart => exact ⟨0, Nat.zero_le _, rfl, by rw [← HGM.out]; exact hzo, hB13⟩
          case round =>
            clear hzo hB13
            obtain ⟨k, hk, rfl, hown, hQ⟩ := hrel
            rename World => v5
            rcases Nat.lt_or_eq_of_le hk with hkn | hkm
            · have hst := hown.store (ratK_len m k).symm (k := k) ((k : Int) + 1)
              rw [ratK_set hkn] at hst
              have hat := OwnI.at_ hown (ratK_len m k).symm
              have o0 := hat k _ (ratK_get hkn)
              rw [Nat.zero_add] at o0
              have hlt := hown.lt gm rfl
              have fz : ∀ q, v5.frozen? ⟨gm, q, none⟩ = false := fun q => by
                rcases hown.2 with ⟨e, -⟩ | ⟨g', cap, cur, e, -, hg, -⟩
                · cases e
                · injection e with e
                  injection e with e
                  injection e with e _
                  subst e
                  exact frozen_of_row v5 gm q _ _ hg
              obtain ⟨v6, hv6⟩ : ∃ v6, v6 = v5.setCell ⟨gm, k, none⟩ (.int .i64 ((k : Int) + 1)) := ⟨_, rfl⟩
              have hQ6 : Below V12.heap.size V12 v6 := by rw [hv6]; exact hQ.setCell hlt.1 _
              rw [← hv6] at hst
              have HV6 := Lib.hid hv6
              have HR6 := Lib.hid (And.intro hst hQ6)
              have hk0 : (0 : Int) ≤ k := by omega
              have hk1 : (k : Int) < m := by omega
              have HK := Lib.hid (show k + 1 ≤ m from hkn)
              have HM := Lib.hid (show m - (k + 1) < m - k by omega)
              obtain ⟨wk1, wk2⟩ := wrapsV (show k < 1048576 by have := HM8.out; omega)
              clear hst hat hlt hv6 hQ6 hown hQ
              go_wp2_with fail
              rw [← HV6.out]
              go_roundw
              case rel => exact ⟨k + 1, HK.out, by simp, HR6.out.1, HR6.out.2⟩
              case measure => exact HM.out
            · have hkm := hkm.symm
              subst hkm
              have hrs := hown.sl
              have hrl : (ratK m m).length = stN js := by rw [ratK_len, HMM.out]
              have hrb := ratK_bd (m := m) (k := m) HM8.out.2
              have hXQ2 := hXQ.trans (hQ.mono hXQ.size)
              have hZQ2 := hZQ.trans (hQ.mono hZQ.size)
              have hR2 := hR.trans (hQ.mono hR.size)
              have hY := Below.refl v5.heap.size v5
              have kC1 := cost0_ok js (ratK m m) _ _ v5 (HKSL.out _ hXQ2) HX.out hrs hrl hrb (by have := HL5.out; omega)
              have kBk := fun V (h : Below v5.heap.size v5 V) => shadeBack_ok (ratK m m) _ V (hrs.below h) (by rw [ratK_len]; have := HM8.out; omega)
              have kC2 := fun V vo (h : Below v2.heap.size v2 V) (ho : SlI V vo (ratK m m).reverse) => cost0_ok (backL js) (ratK m m).reverse _ vo V (HJB.out.slc h).1 HXB.out ho (by rw [List.length_reverse, stN_back]; exact hrl) (fun x hx => hrb x (List.mem_reverse.1 hx)) (by rw [backL_len]; have := HL5.out; omega)
              have hcb := cost_back (r := ratK m m) HX.out.ok.ok hrl js.length (Nat.le_refl _)
              rw [backL_len, hcb] at kC2
              obtain ⟨cc, hcc⟩ : ∃ cc, cc = costK js (ratK m m) js.length := ⟨_, rfl⟩
              rw [← hcc] at kC1 kC2
              clear hrs hrl hrb hcb hcc hown hQ hXQ hZQ hR hk
              go_wp2_with fail
              refine kC1.mono ?_
              rintro e V13 ⟨rfl, hB⟩
              replace hXQ2 := hXQ2.trans (hB.mono hXQ2.size)
              replace hZQ2 := hZQ2.trans (hB.mono hZQ2.size)
              replace hR2 := hR2.trans (hB.mono hR2.size)
              replace hY := hY.trans (hB.mono hY.size)
              clear kC1 hB
              go_wp2_with fail
              refine (kBk _ hY).mono ?_
              rintro e V14 ⟨⟨uo, rfl, huo⟩, hB⟩
              replace hXQ2 := hXQ2.trans (hB.mono hXQ2.size)
              replace hZQ2 := hZQ2.trans (hB.mono hZQ2.size)
              replace hR2 := hR2.trans (hB.mono hR2.size)
              have hus := huo.sl
              clear kBk hB huo hY
              go_wp2_with fail
              refine (kC2 _ _ hZQ2 hus).mono ?_
              rintro e V15 ⟨rfl, hB⟩
              replace hXQ2 := hXQ2.trans (hB.mono hXQ2.size)
              replace hR2 := hR2.trans (hB.mono hR2.size)
              clear kC2 hB hus
              obtain ⟨g0, g1, g2, g3⟩ := HKG.out _ hR2
              obtain ⟨hc1, hc2, hc3⟩ := HCMP.out
              have d1 : decide (x0 ≤ x2) = true := decide_eq_true hc1
              have d2 : decide (x3 ≤ x0) = true := decide_eq_true hc2
              have d3 : decide (x0 ≤ en) = true := decide_eq_true hc3
              have hBo := hBw _ hXQ2
              clear hc1 hc2 hc3 hXQ2 hR2
              go_wp2_with (go_at_call 8; refine (shadeShop_ok _).mono ?_; rintro e w9 ⟨rfl, hQ9⟩)
              go_ret
              exact ⟨rfl, hBo.trans (hQ9.mono hBo.size)⟩
end Go.Proofs
