/- Jobs: starts and ends. -/
import Derived.Test.YtdiddniddohhgaaGreatDoorJobB
import Derived.Test.YtdiddniddohhgaaGreatDoorHeldF
namespace Go.Proofs
open Go.RowKit
set_option maxHeartbeats 16000000
set_option maxRecDepth 1000000
theorem wrapsJ {j n : Nat} (h : j < n) (hn : n ≤ 8) : wrap64 ((j : Int) + 1) = (j : Int) + 1 ∧ IntKind.i64.wrap ((j : Int) + 1) = (j : Int) + 1 ∧ wrap64 ((j : Int) + 1 - 1) = (j : Int) ∧ IntKind.i64.wrap ((j : Int) + 1 - 1) = (j : Int) ∧ wrap64 ((j : Int) + 1 + 1) = (j : Int) + 1 + 1 ∧ IntKind.i64.wrap ((j : Int) + 1 + 1) = (j : Int) + 1 + 1 ∧ wrap64 (j : Int) = (j : Int) ∧ IntKind.i64.wrap (j : Int) = (j : Int) :=
  ⟨wrap64_small (by omega), wrap_small (by omega), (wrap64_small (by omega)).trans (by omega), (wrap_small (by omega)).trans (by omega), wrap64_small (by omega), wrap_small (by omega), wrap64_small (by omega), wrap_small (by omega)⟩
theorem starts_ok (nm : ByteArray) (vt vd vf : Value) (t d free : List Int) (m : Nat) (B : Int) (w : World) (ht : SlI w vt t) (hd : SlI w vd d) (hf : SlI w vf free) (hj : JobOk m (nm, t, d)) (hfr : FreeOk m B free) (hm : 0 < m) (hB : B ≤ 900000000) :
    Calls Tryz.prog 65 #[jobV nm vt vd, vf] w fun e w' => (∃ u, e = .returned u ∧ OwnI 3 w' w.heap.size u (startsP t d free)) ∧ Below w.heap.size w w' := by
  have kC := fun W (h : SlI W vf free) => cloneI_ok free vf W h (by have := hfr.1; have := hj.few; omega)
  unfold jobV
  obtain ⟨W0, hW⟩ : ∃ W0, W0 = w.alloc (.cells #[.string nm, vt, vd] 132) := ⟨_, rfl⟩
  have hB0 : Below w.heap.size w W0 := by subst hW; exact (Below.refl _ _).alloc (Nat.le_refl _) _
  have rj : RowK W0 132 w.heap.size [.string nm, vt, vd] := by subst hW; exact heap_alloc_new w _
  obtain ⟨At, ct, rfl⟩ := ht.form
  obtain ⟨Ad, cd, rfl⟩ := hd.form
  have kC0 := kC W0 (hf.below hB0)
  clear kC
  go_enter Tryz.func65, Tryz.ntmps65
  go_wp2_with fail
  rw [← hW]
  clear hW
  refine kC0.mono ?_
  rintro e w1 ⟨⟨u, rfl, hu⟩, hB1⟩
  clear kC0 hf
  have hz0 : w.heap.size < W0.heap.size := rj.lt
  rcases hu.form with ⟨-, h0⟩ | ⟨g, cap, rfl, hg0, hg1, -⟩
  · exfalso
    have := hfr.1
    rw [h0] at this
    simp at this
    omega
  obtain rfl := hfr.1
  have hpl := fun k => preS_len t d free k
  have hgw : w.heap.size < g := Nat.lt_of_lt_of_le hz0 hg0
  have hfew := hj.few
  go_wp2_with fail
  go_loopw [6] (fun i wr => ∃ j : Nat, j + 1 ≤ free.length ∧ i = .int .i64 ((j : Int) + 1) ∧ OwnI 3 wr W0.heap.size (.slice (some ⟨g, 0, none⟩) free.length cap) (preS t d free (j + 1)) ∧ Below W0.heap.size W0 wr) (fun i _ => free.length + 1 - (intOf i).toNat)
  case atStart => exact ⟨0, hm, by simp, hu, hB1⟩
  case round =>
    obtain ⟨j, hjm, rfl, ho, hX⟩ := hrel
    rcases Nat.lt_or_eq_of_le hjm with hjn | hje
    · have hlp : (preS t d free (j + 1)).length = free.length := by rw [hpl]
      obtain ⟨x, hx⟩ : ∃ x, (preS t d free (j + 1))[j + 1]? = some x := ⟨_, List.getElem?_eq_getElem (by omega)⟩
      obtain ⟨y, hy⟩ : ∃ y, (preS t d free (j + 1))[j]? = some y := ⟨_, List.getElem?_eq_getElem (by omega)⟩
      have hby := preS_bd hj hfr (j + 1) (by omega) j
      have hy0 := (hfr.2 j).1
      have hxa := at0_some hx
      have hya := at0_some hy
      dsimp only at hby
      rw [hya] at hby
      have hjt := hj.t
      have hjd := hj.d
      dsimp only at hjt hjd
      have kR := fun W (h1 : SlI W (.slice At t.length ct) t) (h2 : SlI W (.slice Ad d.length cd) d) => ready_ok nm (.slice At t.length ct) (.slice Ad d.length cd) t d j y W h1 h2 (by omega) (by omega) hj.tb hj.db (by omega)
      have hnext : (preS t d free (j + 1)).set (j + 1) (max x (y + at0 t j + at0 d j)) = preS t d free (j + 2) := by
        show _ = if j + 1 = 0 then free else stepS t d (preS t d free (j + 1)) (j + 1)
        rw [if_neg (by omega)]
        unfold stepS
        rw [hxa, show j + 1 - 1 = j by omega, hya]
      have hq := ho.at_ (hpl _).symm
      have hq1 := hq (j + 1) x hx
      have hq0 := hq j y hy
      rw [Nat.zero_add] at hq1 hq0
      have hst := ho.store (hpl _).symm (k := j + 1) (max x (y + at0 t j + at0 d j))
      rw [hnext] at hst
      generalize y + at0 t j + at0 d j = z at kR hst hnext
      unfold jobV at kR
      have hgr := (ho.lt g rfl).2
      have kk : ∀ V, Below wr.heap.size wr V → (V.cell? ⟨w.heap.size, 0, none⟩ = some (.string nm) ∧ V.cell? ⟨w.heap.size, 1, none⟩ = some (.slice At t.length ct) ∧ V.cell? ⟨w.heap.size, 2, none⟩ = some (.slice Ad d.length cd)) ∧ V.cell? ⟨g, j, none⟩ = some (.int .i64 y) := fun V h => ⟨⟨(rj.below (hX.trans (h.mono hX.size))).cell (by rfl), (rj.below (hX.trans (h.mono hX.size))).cell (by rfl), (rj.below (hX.trans (h.mono hX.size))).cell (by rfl)⟩, (h.cell (p := ⟨g, j, none⟩) hgr).trans hq0⟩
      have kx : ∀ V, Below wr.heap.size wr V → V.cell? ⟨g, j + 1, none⟩ = some (.int .i64 x) ∧ V.frozen? ⟨g, j + 1, none⟩ = false := fun V h => ⟨(h.cell (p := ⟨g, j + 1, none⟩) hgr).trans hq1, by
        rcases ((ho.keep h).2) with ⟨h1, _⟩ | ⟨g', cap', cur, he, _, hgc, _⟩
        · cases h1
        · injection he with e1
          injection e1 with e1
          injection e1 with e1
          subst e1
          exact frozen_of_row V g (j + 1) _ _ hgc⟩
      have kt : ∀ V, Below wr.heap.size wr V → SlI V (.slice At t.length ct) t := fun V h => ht.below (hB0.trans ((hX.trans (h.mono hX.size)).mono hB0.size))
      have kd : ∀ V, Below wr.heap.size wr V → SlI V (.slice Ad d.length cd) d := fun V h => hd.below (hB0.trans ((hX.trans (h.mono hX.size)).mono hB0.size))
      have hHeld := kk _ (Below.refl wr.heap.size wr).drew
      have hi0 : (0 : Int) ≤ (j : Int) + 1 := by omega
      have hi1 : (j : Int) + 1 < free.length := by omega
      have hi2 : (0 : Int) ≤ (j : Int) := by omega
      have hi3 : (j : Int) < free.length := by omega
      have hti : ((j : Int) + 1).toNat = j + 1 := rfl
      have hjf : j + 1 < free.length := by omega
      have HK := Lib.hid (show j + 1 + 1 ≤ free.length from hjn)
      have HM := Lib.hid (show free.length + 1 - (j + 1 + 1) < free.length + 1 - (j + 1) by omega)
      obtain ⟨wk1, wk2, wk3, wk4, wk5, wk6, wk7, wk8⟩ := wrapsJ (show j < free.length by omega) hfew
      have HN := Lib.hid hnext
      have KK := Lib.hid kk
      have KX := Lib.hid kx
      have HO := Lib.hid ho
      have KT := Lib.hid kt
      have KD := Lib.hid kd
      have KR := Lib.hid kR
      have HST := Lib.hid hst
      have HB := Lib.hid (And.intro hfr hj)
      clear kk kx kt kd kR hst hfr hj hnext hx hy hby hy0 hxa hya hq hlp hpl hjt hjd
      go_wp2_with fail
      refine wp_region_held_drew (S := fun V => (V.cell? ⟨w.heap.size, 0, none⟩ = some (.string nm) ∧ V.cell? ⟨w.heap.size, 1, none⟩ = some (.slice At t.length ct) ∧ V.cell? ⟨w.heap.size, 2, none⟩ = some (.slice Ad d.length cd)) ∧ V.cell? ⟨g, j, none⟩ = some (.int .i64 y)) (by kernel_rfl) hHeld (fun hHeld => ?_)
      refine held_yes 0 (some 15) (.slice (some ⟨g, 0, none⟩) free.length cap) rfl rfl (by kernel_rfl) (by kernel_rfl) (by kernel_rfl) (fun _ _ _ h => h) rfl (fun w' hS => by obtain ⟨⟨s0, s1, s2⟩, s4⟩ := hS; go_simp) hHeld ?_
      try simp only [Act.put, List.setIfInBounds_toArray, List.set_cons_zero, List.set_cons_succ]
      refine held_yes 1 (some 16) (.int .i64 ((j : Int) + 1)) rfl rfl (by kernel_rfl) (by kernel_rfl) (by kernel_rfl) (fun _ _ _ h => h) rfl (fun w' hS => by obtain ⟨⟨s0, s1, s2⟩, s4⟩ := hS; go_simp) hHeld ?_
      try simp only [Act.put, List.setIfInBounds_toArray, List.set_cons_zero, List.set_cons_succ]
      refine held_yes 2 (some 17) (.slice (some ⟨g, 0, none⟩) free.length cap) rfl rfl (by kernel_rfl) (by kernel_rfl) (by kernel_rfl) (fun _ _ _ h => h) rfl (fun w' hS => by obtain ⟨⟨s0, s1, s2⟩, s4⟩ := hS; go_simp) hHeld ?_
      try simp only [Act.put, List.setIfInBounds_toArray, List.set_cons_zero, List.set_cons_succ]
      refine held_yes 3 (some 18) (.int .i64 ((j : Int) + 1)) rfl rfl (by kernel_rfl) (by kernel_rfl) (by kernel_rfl) (fun _ _ _ h => h) rfl (fun w' hS => by obtain ⟨⟨s0, s1, s2⟩, s4⟩ := hS; go_simp) hHeld ?_
      try simp only [Act.put, List.setIfInBounds_toArray, List.set_cons_zero, List.set_cons_succ]
      refine held_yes 4 (some 19) (.pointer (some ⟨g, j + 1, none⟩)) rfl rfl (by kernel_rfl) (by kernel_rfl) (by kernel_rfl) (fun _ _ _ h => h) rfl (fun w' hS => by obtain ⟨⟨s0, s1, s2⟩, s4⟩ := hS; go_simp) hHeld ?_
      try simp only [Act.put, List.setIfInBounds_toArray, List.set_cons_zero, List.set_cons_succ]
      refine held_yes 6 (some 21) (.agg #[.string nm, .slice At t.length ct, .slice Ad d.length cd]) rfl rfl (by kernel_rfl) (by kernel_rfl) (by kernel_rfl) (fun _ _ _ h => h) rfl (fun w' hS => by obtain ⟨⟨s0, s1, s2⟩, s4⟩ := hS; go_simp) hHeld ?_
      try simp only [Act.put, List.setIfInBounds_toArray, List.set_cons_zero, List.set_cons_succ]
      refine held_yes 7 (some 22) (.int .i64 ((j : Int) + 1)) rfl rfl (by kernel_rfl) (by kernel_rfl) (by kernel_rfl) (fun _ _ _ h => h) rfl (fun w' hS => by obtain ⟨⟨s0, s1, s2⟩, s4⟩ := hS; go_simp) hHeld ?_
      try simp only [Act.put, List.setIfInBounds_toArray, List.set_cons_zero, List.set_cons_succ]
      refine held_yes 8 (some 23) (.int .i64 j) rfl rfl (by kernel_rfl) (by kernel_rfl) (by kernel_rfl) (fun _ _ _ h => h) rfl (fun w' hS => by obtain ⟨⟨s0, s1, s2⟩, s4⟩ := hS; go_simp) hHeld ?_
      try simp only [Act.put, List.setIfInBounds_toArray, List.set_cons_zero, List.set_cons_succ]
      refine held_yes 9 (some 24) (.slice (some ⟨g, 0, none⟩) free.length cap) rfl rfl (by kernel_rfl) (by kernel_rfl) (by kernel_rfl) (fun _ _ _ h => h) rfl (fun w' hS => by obtain ⟨⟨s0, s1, s2⟩, s4⟩ := hS; go_simp) hHeld ?_
      try simp only [Act.put, List.setIfInBounds_toArray, List.set_cons_zero, List.set_cons_succ]
      refine held_yes 10 (some 25) (.int .i64 ((j : Int) + 1)) rfl rfl (by kernel_rfl) (by kernel_rfl) (by kernel_rfl) (fun _ _ _ h => h) rfl (fun w' hS => by obtain ⟨⟨s0, s1, s2⟩, s4⟩ := hS; go_simp) hHeld ?_
      try simp only [Act.put, List.setIfInBounds_toArray, List.set_cons_zero, List.set_cons_succ]
      refine held_yes 11 (some 26) (.int .i64 j) rfl rfl (by kernel_rfl) (by kernel_rfl) (by kernel_rfl) (fun _ _ _ h => h) rfl (fun w' hS => by obtain ⟨⟨s0, s1, s2⟩, s4⟩ := hS; go_simp) hHeld ?_
      try simp only [Act.put, List.setIfInBounds_toArray, List.set_cons_zero, List.set_cons_succ]
      refine held_yes 12 (some 27) (.pointer (some ⟨g, j, none⟩)) rfl rfl (by kernel_rfl) (by kernel_rfl) (by kernel_rfl) (fun _ _ _ h => h) rfl (fun w' hS => by obtain ⟨⟨s0, s1, s2⟩, s4⟩ := hS; go_simp) hHeld ?_
      try simp only [Act.put, List.setIfInBounds_toArray, List.set_cons_zero, List.set_cons_succ]
      refine held_yes 13 (some 28) (.int .i64 y) rfl rfl (by kernel_rfl) (by kernel_rfl) (by kernel_rfl) (fun _ _ _ h => h) rfl (fun w' hS => by obtain ⟨⟨s0, s1, s2⟩, s4⟩ := hS; go_simp) hHeld ?_
      try simp only [Act.put, List.setIfInBounds_toArray, List.set_cons_zero, List.set_cons_succ]
      refine wpAnyH_ready (rs := [5, 14]) (by kernel_rfl) (by simp) ?_
      refine AllReadyH.cons rfl (fun K hK => ?_) (AllReadyH.cons rfl (fun K hK => ?_) AllReadyH.nil)
      · have hx1 := (KX.out _ (Below.refl wr.heap.size wr).drew).1
        go_simp
        refine hK.out _ _ (KK.out _ (Below.refl wr.heap.size wr).drew) (fun hHeld => ?_)
        clear hK K hx1
        try simp only [Act.put, List.setIfInBounds_toArray, List.set_cons_zero, List.set_cons_succ]
        refine wpAnyH_ready (rs := [14]) (by kernel_rfl) (by simp) ?_
        refine AllReadyH.cons rfl (fun K hK => ?_) AllReadyH.nil
        go_simp
        refine (KR.out _ (KT.out _ (Below.refl wr.heap.size wr).drew) (KD.out _ (Below.refl wr.heap.size wr).drew)).mono ?_
        rintro e w2 ⟨rfl, hb2⟩
        have hbx := (Below.refl wr.heap.size wr).drew.trans (hb2.mono (Nat.le_trans ((Below.refl wr.heap.size wr).drew).size (Nat.le_refl _)))
        go_wp2_with fail
        refine hK.out _ _ (KK.out _ hbx) (fun hHeld => ?_)
        clear hK K
        try simp only [Act.put, List.setIfInBounds_toArray, List.set_cons_zero, List.set_cons_succ]
        refine wpAnyH_ready (rs := [15]) (by kernel_rfl) (by simp) ?_
        refine AllReadyH.cons rfl (fun K hK => ?_) AllReadyH.nil
        go_simp
        refine hK.out _ _ (KK.out _ hbx) (fun hHeld => ?_)
        clear hK K
        try simp only [Act.put, List.setIfInBounds_toArray, List.set_cons_zero, List.set_cons_succ]
        refine held_yes 16 (some 31) (.pointer (some ⟨g, j + 1, none⟩)) rfl rfl (by kernel_rfl) (by kernel_rfl) (by kernel_rfl) (fun _ _ _ h => h) rfl (fun w' hS => by obtain ⟨⟨s0, s1, s2⟩, s4⟩ := hS; go_simp) hHeld ?_
        try simp only [Act.put, List.setIfInBounds_toArray, List.set_cons_zero, List.set_cons_succ]
        obtain ⟨hx1, hfz⟩ := KX.out _ hbx
        refine wpAnyH_ready (rs := [17]) (by kernel_rfl) (by simp) ?_
        refine AllReadyH.cons rfl (fun K hK => ?_) AllReadyH.nil
        go_simp
        have hmx : (if x < z then z else x) = max x z := by omega
        have hst := (HO.out.keep hbx).store (preS_len t d free _).symm (k := j + 1) (if x < z then z else x)
        have hbs := (hX.trans (hbx.mono hX.size)).setCell (p := ⟨g, j + 1, none⟩) hg0 (.int .i64 (if x < z then z else x))
        rw [hmx, HN.out] at hst
        rw [hmx] at hbs ⊢
        refine hK.out _ _ ⟨⟨(rj.below hbs).cell (by rfl), (rj.below hbs).cell (by rfl), (rj.below hbs).cell (by rfl)⟩, ?_⟩ (fun _ => ?_)
        · have hne : (⟨g, j, none⟩ : Addr) ≠ ⟨g, j + 1, none⟩ := by intro e; injection e with _ e; omega
          rw [World.cell?_setCell_other _ _ _ _ hne.symm]
          exact (KK.out _ hbx).2
        clear hK K hx1 hfz hmx hHeld
        generalize w2.setCell ⟨g, j + 1, none⟩ (.int .i64 (max x z)) = w3 at hst hbs ⊢
        refine wpAnyH_done (by kernel_rfl) ?_ _
        go_wp2_with fail
        go_roundw
        case rel => exact ⟨j + 1, HK.out, by simp, hst, hbs⟩
        case measure => exact HM.out
      · go_simp
        refine (KR.out _ (KT.out _ (Below.refl wr.heap.size wr).drew) (KD.out _ (Below.refl wr.heap.size wr).drew)).mono ?_
        rintro e w2 ⟨rfl, hb2⟩
        have hbx := (Below.refl wr.heap.size wr).drew.trans (hb2.mono (Nat.le_trans ((Below.refl wr.heap.size wr).drew).size (Nat.le_refl _)))
        go_wp2_with fail
        refine hK.out _ _ (KK.out _ hbx) (fun hHeld => ?_)
        clear hK K
        try simp only [Act.put, List.setIfInBounds_toArray, List.set_cons_zero, List.set_cons_succ]
        refine wpAnyH_ready (rs := [5]) (by kernel_rfl) (by simp) ?_
        refine AllReadyH.cons rfl (fun K hK => ?_) AllReadyH.nil
        have hx1 := (KX.out _ hbx).1
        go_simp
        refine hK.out _ _ (KK.out _ hbx) (fun hHeld => ?_)
        clear hK K hx1
        try simp only [Act.put, List.setIfInBounds_toArray, List.set_cons_zero, List.set_cons_succ]
        refine wpAnyH_ready (rs := [15]) (by kernel_rfl) (by simp) ?_
        refine AllReadyH.cons rfl (fun K hK => ?_) AllReadyH.nil
        go_simp
        refine hK.out _ _ (KK.out _ hbx) (fun hHeld => ?_)
        clear hK K
        try simp only [Act.put, List.setIfInBounds_toArray, List.set_cons_zero, List.set_cons_succ]
        refine held_yes 16 (some 31) (.pointer (some ⟨g, j + 1, none⟩)) rfl rfl (by kernel_rfl) (by kernel_rfl) (by kernel_rfl) (fun _ _ _ h => h) rfl (fun w' hS => by obtain ⟨⟨s0, s1, s2⟩, s4⟩ := hS; go_simp) hHeld ?_
        try simp only [Act.put, List.setIfInBounds_toArray, List.set_cons_zero, List.set_cons_succ]
        obtain ⟨hx1, hfz⟩ := KX.out _ hbx
        refine wpAnyH_ready (rs := [17]) (by kernel_rfl) (by simp) ?_
        refine AllReadyH.cons rfl (fun K hK => ?_) AllReadyH.nil
        go_simp
        have hmx : (if x < z then z else x) = max x z := by omega
        have hst := (HO.out.keep hbx).store (preS_len t d free _).symm (k := j + 1) (if x < z then z else x)
        have hbs := (hX.trans (hbx.mono hX.size)).setCell (p := ⟨g, j + 1, none⟩) hg0 (.int .i64 (if x < z then z else x))
        rw [hmx, HN.out] at hst
        rw [hmx] at hbs ⊢
        refine hK.out _ _ ⟨⟨(rj.below hbs).cell (by rfl), (rj.below hbs).cell (by rfl), (rj.below hbs).cell (by rfl)⟩, ?_⟩ (fun _ => ?_)
        · have hne : (⟨g, j, none⟩ : Addr) ≠ ⟨g, j + 1, none⟩ := by intro e; injection e with _ e; omega
          rw [World.cell?_setCell_other _ _ _ _ hne.symm]
          exact (KK.out _ hbx).2
        clear hK K hx1 hfz hmx hHeld
        generalize w2.setCell ⟨g, j + 1, none⟩ (.int .i64 (max x z)) = w3 at hst hbs ⊢
        refine wpAnyH_done (by kernel_rfl) ?_ _
        go_wp2_with fail
        go_roundw
        case rel => exact ⟨j + 1, HK.out, by simp, hst, hbs⟩
        case measure => exact HM.out
    · have hdn : decide ((j : Int) + 1 < free.length) = false := by simp; omega
      have ho2 := ho.lower (B := w.heap.size) hB0.size
      rw [hje] at ho2
      have HO := Lib.hid ho2
      clear ho ho2 hje hjm hj hfr
      go_wp2_with fail
      go_ret
      exact ⟨⟨_, rfl, HO.out⟩, hB0.trans (hX.mono hB0.size)⟩
end Go.Proofs
