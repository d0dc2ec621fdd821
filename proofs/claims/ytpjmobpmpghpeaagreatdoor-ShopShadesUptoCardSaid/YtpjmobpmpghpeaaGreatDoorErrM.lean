/- Shades, exactly: Nearest and Mixed of the reference. -/
import Derived.Test.YtpjmobpmpghpeaaGreatDoorErrQ
import Derived.Test.YtpjmobpmpghpeaaGreatDoorShdT
import Derived.Test.YtpjmobpmpghpeaaGreatDoorHeldF
namespace Go.Proofs
open Go.RowKit Go.MapKept
set_option maxHeartbeats 16000000
set_option maxRecDepth 1000000
theorem wrapsM {k : Nat} (h : k ≤ 32) : wrap64 ((k : Int) + 1) = (k : Int) + 1 ∧ IntKind.i64.wrap ((k : Int) + 1) = (k : Int) + 1 := ⟨wrap64_small (by omega), wrap_small (by omega)⟩
theorem refNearest_ok (ws c : Cel) (v : Value) (l : List TabT) (w : World) (hl : SlT w v l) (ok : GuideOk ws l) (hc : ColOk c 0 255) :
    Calls Tryz.prog 27 #[gdV ws v, colV c] w fun e w' => (∃ j : Nat, e = .returned (.int .i64 j) ∧ Least1 (l.map (·.2)) ws c j) ∧ Below w.heap.size w w' := by
  have hpos := ok.pos
  have hfew := ok.few
  have kD := fun i t (h : l[i]? = some t) u W => refDist_ok ws t.2 c u W (wt_wide ok.wt) (col_wide (ok.at_ i t h).2) (col_wide hc)
  clear ok hc
  obtain ⟨A, cap, rfl⟩ := hl.form
  obtain ⟨b0, o0, rfl, -, -⟩ := hl.addr hpos
  obtain ⟨x, y, z⟩ := ws
  obtain ⟨p, q, r⟩ := c
  unfold gdV colV at *
  dsimp only at *
  obtain ⟨W0, hW⟩ : ∃ W0, W0 = (w.alloc (.cells #[.int .i64 x, .int .i64 y, .int .i64 z, .slice (some ⟨b0, o0, none⟩) l.length cap] 53)).alloc (.cells #[.int .i64 p, .int .i64 q, .int .i64 r] 47) := ⟨_, rfl⟩
  obtain ⟨rg, rc, hB0, hz0⟩ := rows2 w _ _ _ _ W0 hW
  have kk : ∀ V, Below W0.heap.size W0 V → (V.cell? ⟨w.heap.size, 0, none⟩ = some (.int .i64 x) ∧ V.cell? ⟨w.heap.size, 1, none⟩ = some (.int .i64 y) ∧ V.cell? ⟨w.heap.size, 2, none⟩ = some (.int .i64 z) ∧ V.cell? ⟨w.heap.size, 3, none⟩ = some (.slice (some ⟨b0, o0, none⟩) l.length cap)) ∧ (V.cell? ⟨w.heap.size + 1, 0, none⟩ = some (.int .i64 p) ∧ V.cell? ⟨w.heap.size + 1, 1, none⟩ = some (.int .i64 q) ∧ V.cell? ⟨w.heap.size + 1, 2, none⟩ = some (.int .i64 r)) := fun V h => ⟨four_cells ((h.block _ (by omega)).trans rg), three_cellsS ((h.block _ (by omega)).trans rc)⟩
  have htA : ∀ V, Below W0.heap.size W0 V → TabAt V b0 o0 l := fun V h => (hl.below (hB0.trans (h.mono hB0.size))).tabAt hpos
  have hX0 := Below.refl W0.heap.size W0
  clear rg rc hl
  go_enter Tryz.func27, Tryz.ntmps27
  go_wp2_with fail
  rw [← hW]
  clear hW
  go_loopw [5, 6] (fun o i wr => ∃ k m : Nat, k ≤ l.length ∧ m < l.length ∧ o = .int .i64 m ∧ i = .int .i64 k ∧ NearK (l.map (·.2)) (x, y, z) (p, q, r) k m ∧ Below W0.heap.size W0 wr) (fun _ i _ => l.length - (intOf i).toNat)
  case atStart => exact ⟨0, 0, Nat.zero_le _, hpos, rfl, rfl, NearK.start (by rw [List.length_map]; exact hpos), hX0⟩
  case round =>
    clear hX0
    obtain ⟨k, m, hk, hm, rfl, rfl, hN, hX⟩ := hrel
    have HN := Lib.hid hN
    clear hN
    obtain ⟨⟨s0, s1, s2, s3⟩, s4, s5, s6⟩ := kk _ hX
    rcases Nat.lt_or_eq_of_le hk with hkn | rfl
    · obtain ⟨⟨ks, kx, ky, kz⟩, hck⟩ : ∃ t, l[k]? = some t := ⟨_, List.getElem?_eq_getElem hkn⟩
      obtain ⟨⟨ms, mx, my, mz⟩, hcm⟩ : ∃ t, l[m]? = some t := ⟨_, List.getElem?_eq_getElem hm⟩
      have hi0 : (0 : Int) ≤ k := by omega
      have hi1 : (k : Int) < l.length := by omega
      have hj0 : (0 : Int) ≤ m := by omega
      have hj1 : (m : Int) < l.length := by omega
      have kDk := fun u W => kD k _ hck u W
      have kDm := fun u W => kD m _ hcm u W
      dsimp only at kDk kDm
      have hmk : (l.map (·.2))[k]? = some (kx, ky, kz) := by rw [List.getElem?_map, hck]; rfl
      have hmm : (l.map (·.2))[m]? = some (mx, my, mz) := by rw [List.getElem?_map, hcm]; rfl
      have hL := fun h => HN.out.less hmk hmm h
      have hM := fun h => HN.out.more hmk hmm h
      generalize distW (x, y, z) (kx, ky, kz) (p, q, r) = dk at kDk hL hM
      generalize distW (x, y, z) (mx, my, mz) (p, q, r) = dm at kDm hL hM
      have kt : ∀ V, Below W0.heap.size W0 V → (V.cell? ⟨w.heap.size, 0, none⟩ = some (.int .i64 x) ∧ V.cell? ⟨w.heap.size, 1, none⟩ = some (.int .i64 y) ∧ V.cell? ⟨w.heap.size, 2, none⟩ = some (.int .i64 z) ∧ V.cell? ⟨w.heap.size, 3, none⟩ = some (.slice (some ⟨b0, o0, none⟩) l.length cap)) ∧ (V.cell? ⟨w.heap.size + 1, 0, none⟩ = some (.int .i64 p) ∧ V.cell? ⟨w.heap.size + 1, 1, none⟩ = some (.int .i64 q) ∧ V.cell? ⟨w.heap.size + 1, 2, none⟩ = some (.int .i64 r)) ∧ (V.cell? ⟨b0, o0 + k * 4, none⟩ = some (.string ks) ∧ V.cell? ⟨b0, o0 + k * 4 + 1, none⟩ = some (.int .i64 kx) ∧ V.cell? ⟨b0, o0 + k * 4 + 2, none⟩ = some (.int .i64 ky) ∧ V.cell? ⟨b0, o0 + k * 4 + 3, none⟩ = some (.int .i64 kz)) ∧ (V.cell? ⟨b0, o0 + m * 4, none⟩ = some (.string ms) ∧ V.cell? ⟨b0, o0 + m * 4 + 1, none⟩ = some (.int .i64 mx) ∧ V.cell? ⟨b0, o0 + m * 4 + 2, none⟩ = some (.int .i64 my) ∧ V.cell? ⟨b0, o0 + m * 4 + 3, none⟩ = some (.int .i64 mz)) := fun V h => ⟨(kk V h).1, (kk V h).2, htA V h k _ hck, htA V h m _ hcm⟩
      have HK := Lib.hid (show k + 1 ≤ l.length from hkn)
      have HMs := Lib.hid (show l.length - (k + 1) < l.length - k by omega)
      have HWK := Lib.hid (wrapsM (show k ≤ 32 by omega))
      have HL := Lib.hid hL
      have HMo := Lib.hid hM
      clear hL hM hmk hmm kD
      obtain ⟨bl, hbl⟩ : ∃ bl, decide (dk < dm) = bl := ⟨_, rfl⟩
      go_wp2_with fail
      replace hX := hX.drew
      refine wp_region_held_drew (S := fun V => (V.cell? ⟨w.heap.size, 0, none⟩ = some (.int .i64 x) ∧ V.cell? ⟨w.heap.size, 1, none⟩ = some (.int .i64 y) ∧ V.cell? ⟨w.heap.size, 2, none⟩ = some (.int .i64 z) ∧ V.cell? ⟨w.heap.size, 3, none⟩ = some (.slice (some ⟨b0, o0, none⟩) l.length cap)) ∧ (V.cell? ⟨w.heap.size + 1, 0, none⟩ = some (.int .i64 p) ∧ V.cell? ⟨w.heap.size + 1, 1, none⟩ = some (.int .i64 q) ∧ V.cell? ⟨w.heap.size + 1, 2, none⟩ = some (.int .i64 r)) ∧ (V.cell? ⟨b0, o0 + k * 4, none⟩ = some (.string ks) ∧ V.cell? ⟨b0, o0 + k * 4 + 1, none⟩ = some (.int .i64 kx) ∧ V.cell? ⟨b0, o0 + k * 4 + 2, none⟩ = some (.int .i64 ky) ∧ V.cell? ⟨b0, o0 + k * 4 + 3, none⟩ = some (.int .i64 kz)) ∧ (V.cell? ⟨b0, o0 + m * 4, none⟩ = some (.string ms) ∧ V.cell? ⟨b0, o0 + m * 4 + 1, none⟩ = some (.int .i64 mx) ∧ V.cell? ⟨b0, o0 + m * 4 + 2, none⟩ = some (.int .i64 my) ∧ V.cell? ⟨b0, o0 + m * 4 + 3, none⟩ = some (.int .i64 mz))) (by kernel_rfl) (kt _ hX) (fun hHeld => ?_)
      refine held_yes 0 (some 14) (.agg #[.int .i64 x, .int .i64 y, .int .i64 z, .slice (some ⟨b0, o0, none⟩) l.length cap]) rfl rfl (by kernel_rfl) (by kernel_rfl) (by kernel_rfl) (fun _ _ _ h => h) rfl (fun w' hS => by obtain ⟨⟨s0, s1, s2, s3⟩, ⟨s4, s5, s6⟩, ⟨t0, t1, t2, t3⟩, u0, u1, u2, u3⟩ := hS; go_simp) hHeld ?_
      try simp only [Act.put, List.setIfInBounds_toArray, List.set_cons_zero, List.set_cons_succ]
      refine held_yes 1 (some 15) (.pointer (some ⟨w.heap.size, 3, none⟩)) rfl rfl (by kernel_rfl) (by kernel_rfl) (by kernel_rfl) (fun _ _ _ h => h) rfl (fun w' hS => by obtain ⟨⟨s0, s1, s2, s3⟩, ⟨s4, s5, s6⟩, ⟨t0, t1, t2, t3⟩, u0, u1, u2, u3⟩ := hS; go_simp) hHeld ?_
      try simp only [Act.put, List.setIfInBounds_toArray, List.set_cons_zero, List.set_cons_succ]
      refine held_yes 2 (some 16) (.slice (some ⟨b0, o0, none⟩) l.length cap) rfl rfl (by kernel_rfl) (by kernel_rfl) (by kernel_rfl) (fun _ _ _ h => h) rfl (fun w' hS => by obtain ⟨⟨s0, s1, s2, s3⟩, ⟨s4, s5, s6⟩, ⟨t0, t1, t2, t3⟩, u0, u1, u2, u3⟩ := hS; go_simp) hHeld ?_
      try simp only [Act.put, List.setIfInBounds_toArray, List.set_cons_zero, List.set_cons_succ]
      refine held_yes 3 (some 17) (.int .i64 k) rfl rfl (by kernel_rfl) (by kernel_rfl) (by kernel_rfl) (fun _ _ _ h => h) rfl (fun w' hS => by obtain ⟨⟨s0, s1, s2, s3⟩, ⟨s4, s5, s6⟩, ⟨t0, t1, t2, t3⟩, u0, u1, u2, u3⟩ := hS; go_simp) hHeld ?_
      try simp only [Act.put, List.setIfInBounds_toArray, List.set_cons_zero, List.set_cons_succ]
      refine held_yes 4 (some 18) (.pointer (some ⟨b0, o0 + k * 4, none⟩)) rfl rfl (by kernel_rfl) (by kernel_rfl) (by kernel_rfl) (fun _ _ _ h => h) rfl (fun w' hS => by obtain ⟨⟨s0, s1, s2, s3⟩, ⟨s4, s5, s6⟩, ⟨t0, t1, t2, t3⟩, u0, u1, u2, u3⟩ := hS; go_simp) hHeld ?_
      try simp only [Act.put, List.setIfInBounds_toArray, List.set_cons_zero, List.set_cons_succ]
      refine held_yes 5 (some 19) (.pointer (some ⟨b0, o0 + k * 4 + 1, none⟩)) rfl rfl (by kernel_rfl) (by kernel_rfl) (by kernel_rfl) (fun _ _ _ h => h) rfl (fun w' hS => by obtain ⟨⟨s0, s1, s2, s3⟩, ⟨s4, s5, s6⟩, ⟨t0, t1, t2, t3⟩, u0, u1, u2, u3⟩ := hS; go_simp) hHeld ?_
      try simp only [Act.put, List.setIfInBounds_toArray, List.set_cons_zero, List.set_cons_succ]
      refine held_yes 6 (some 20) (.agg #[.int .i64 kx, .int .i64 ky, .int .i64 kz]) rfl rfl (by kernel_rfl) (by kernel_rfl) (by kernel_rfl) (fun _ _ _ h => h) rfl (fun w' hS => by obtain ⟨⟨s0, s1, s2, s3⟩, ⟨s4, s5, s6⟩, ⟨t0, t1, t2, t3⟩, u0, u1, u2, u3⟩ := hS; go_simp) hHeld ?_
      try simp only [Act.put, List.setIfInBounds_toArray, List.set_cons_zero, List.set_cons_succ]
      refine held_yes 7 (some 21) (.agg #[.int .i64 p, .int .i64 q, .int .i64 r]) rfl rfl (by kernel_rfl) (by kernel_rfl) (by kernel_rfl) (fun _ _ _ h => h) rfl (fun w' hS => by obtain ⟨⟨s0, s1, s2, s3⟩, ⟨s4, s5, s6⟩, ⟨t0, t1, t2, t3⟩, u0, u1, u2, u3⟩ := hS; go_simp) hHeld ?_
      try simp only [Act.put, List.setIfInBounds_toArray, List.set_cons_zero, List.set_cons_succ]
      refine held_yes 9 (some 23) (.agg #[.int .i64 x, .int .i64 y, .int .i64 z, .slice (some ⟨b0, o0, none⟩) l.length cap]) rfl rfl (by kernel_rfl) (by kernel_rfl) (by kernel_rfl) (fun _ _ _ h => h) rfl (fun w' hS => by obtain ⟨⟨s0, s1, s2, s3⟩, ⟨s4, s5, s6⟩, ⟨t0, t1, t2, t3⟩, u0, u1, u2, u3⟩ := hS; go_simp) hHeld ?_
      try simp only [Act.put, List.setIfInBounds_toArray, List.set_cons_zero, List.set_cons_succ]
      refine held_yes 10 (some 24) (.pointer (some ⟨w.heap.size, 3, none⟩)) rfl rfl (by kernel_rfl) (by kernel_rfl) (by kernel_rfl) (fun _ _ _ h => h) rfl (fun w' hS => by obtain ⟨⟨s0, s1, s2, s3⟩, ⟨s4, s5, s6⟩, ⟨t0, t1, t2, t3⟩, u0, u1, u2, u3⟩ := hS; go_simp) hHeld ?_
      try simp only [Act.put, List.setIfInBounds_toArray, List.set_cons_zero, List.set_cons_succ]
      refine held_yes 11 (some 25) (.slice (some ⟨b0, o0, none⟩) l.length cap) rfl rfl (by kernel_rfl) (by kernel_rfl) (by kernel_rfl) (fun _ _ _ h => h) rfl (fun w' hS => by obtain ⟨⟨s0, s1, s2, s3⟩, ⟨s4, s5, s6⟩, ⟨t0, t1, t2, t3⟩, u0, u1, u2, u3⟩ := hS; go_simp) hHeld ?_
      try simp only [Act.put, List.setIfInBounds_toArray, List.set_cons_zero, List.set_cons_succ]
      refine held_yes 12 (some 26) (.int .i64 m) rfl rfl (by kernel_rfl) (by kernel_rfl) (by kernel_rfl) (fun _ _ _ h => h) rfl (fun w' hS => by obtain ⟨⟨s0, s1, s2, s3⟩, ⟨s4, s5, s6⟩, ⟨t0, t1, t2, t3⟩, u0, u1, u2, u3⟩ := hS; go_simp) hHeld ?_
      try simp only [Act.put, List.setIfInBounds_toArray, List.set_cons_zero, List.set_cons_succ]
      refine held_yes 13 (some 27) (.pointer (some ⟨b0, o0 + m * 4, none⟩)) rfl rfl (by kernel_rfl) (by kernel_rfl) (by kernel_rfl) (fun _ _ _ h => h) rfl (fun w' hS => by obtain ⟨⟨s0, s1, s2, s3⟩, ⟨s4, s5, s6⟩, ⟨t0, t1, t2, t3⟩, u0, u1, u2, u3⟩ := hS; go_simp) hHeld ?_
      try simp only [Act.put, List.setIfInBounds_toArray, List.set_cons_zero, List.set_cons_succ]
      refine held_yes 14 (some 28) (.pointer (some ⟨b0, o0 + m * 4 + 1, none⟩)) rfl rfl (by kernel_rfl) (by kernel_rfl) (by kernel_rfl) (fun _ _ _ h => h) rfl (fun w' hS => by obtain ⟨⟨s0, s1, s2, s3⟩, ⟨s4, s5, s6⟩, ⟨t0, t1, t2, t3⟩, u0, u1, u2, u3⟩ := hS; go_simp) hHeld ?_
      try simp only [Act.put, List.setIfInBounds_toArray, List.set_cons_zero, List.set_cons_succ]
      refine held_yes 15 (some 29) (.agg #[.int .i64 mx, .int .i64 my, .int .i64 mz]) rfl rfl (by kernel_rfl) (by kernel_rfl) (by kernel_rfl) (fun _ _ _ h => h) rfl (fun w' hS => by obtain ⟨⟨s0, s1, s2, s3⟩, ⟨s4, s5, s6⟩, ⟨t0, t1, t2, t3⟩, u0, u1, u2, u3⟩ := hS; go_simp) hHeld ?_
      try simp only [Act.put, List.setIfInBounds_toArray, List.set_cons_zero, List.set_cons_succ]
      refine held_yes 16 (some 30) (.agg #[.int .i64 p, .int .i64 q, .int .i64 r]) rfl rfl (by kernel_rfl) (by kernel_rfl) (by kernel_rfl) (fun _ _ _ h => h) rfl (fun w' hS => by obtain ⟨⟨s0, s1, s2, s3⟩, ⟨s4, s5, s6⟩, ⟨t0, t1, t2, t3⟩, u0, u1, u2, u3⟩ := hS; go_simp) hHeld ?_
      try simp only [Act.put, List.setIfInBounds_toArray, List.set_cons_zero, List.set_cons_succ]
      refine wpAnyH_ready (rs := [8]) (by kernel_rfl) (by simp) ?_
      refine AllReadyH.cons rfl (fun K hK => ?_) AllReadyH.nil
      go_simp
      refine (kDk _ _).mono ?_
      rintro e1 va ⟨rfl, hB⟩
      replace hX := hX.trans (hB.mono hX.size)
      go_wp2_with fail
      refine hK.out _ _ (kt _ hX) (fun hHeld => ?_)
      clear hK K hB
      try simp only [Act.put, List.setIfInBounds_toArray, List.set_cons_zero, List.set_cons_succ]
      refine wpAnyH_ready (rs := [17]) (by kernel_rfl) (by simp) ?_
      refine AllReadyH.cons rfl (fun K hK => ?_) AllReadyH.nil
      go_simp
      refine (kDm _ _).mono ?_
      rintro e1 vb ⟨rfl, hB⟩
      replace hX := hX.trans (hB.mono hX.size)
      go_wp2_with fail
      refine hK.out _ _ (kt _ hX) (fun hHeld => ?_)
      clear hK K hB
      try simp only [Act.put, List.setIfInBounds_toArray, List.set_cons_zero, List.set_cons_succ]
      refine held_yes 18 (some 32) (.bool bl) rfl rfl (by kernel_rfl) (by kernel_rfl) (by kernel_rfl) (fun _ _ _ h => h) rfl (fun w' hS => by obtain ⟨⟨s0, s1, s2, s3⟩, ⟨s4, s5, s6⟩, ⟨t0, t1, t2, t3⟩, u0, u1, u2, u3⟩ := hS; go_simp) hHeld ?_
      try simp only [Act.put, List.setIfInBounds_toArray, List.set_cons_zero, List.set_cons_succ]
      refine wpAnyH_done (by kernel_rfl) ?_ _
      clear hHeld kt
      obtain ⟨wk1, wk2⟩ := HWK.out
      cases bl with
      | true =>
        have HN2 := Lib.hid (HL.out (of_decide_eq_true hbl))
        clear hbl
        go_wp2_with fail
        go_roundw
        case rel => exact ⟨k + 1, k, HK.out, hkn, rfl, by simp, HN2.out, hX⟩
        case measure => exact HMs.out
      | false =>
        have HN2 := Lib.hid (HMo.out (Int.not_lt.1 (of_decide_eq_false hbl)))
        clear hbl
        go_wp2_with fail
        go_roundw
        case rel => exact ⟨k + 1, m, HK.out, hm, rfl, by simp, HN2.out, hX⟩
        case measure => exact HMs.out
    · go_wp2
      go_ret
      exact ⟨⟨m, rfl, HN.out.done (by rw [List.length_map]; exact Nat.le_refl _)⟩, hB0.trans (hX.mono hB0.size)⟩
theorem mix_at {ws c : Cel} {l : List TabT} {v : Value} {i k : Nat} {e : Int} (ok : GuideOk ws l) (hc : ColOk c 0 255) (hv : MixV l.length i k e) (W : World) (h : SlT W v l) :
    Calls Tryz.prog 31 #[gdV ws v, .agg #[.int .i64 i, .int .i64 k, .int .i64 e], colV c] W fun e' w' => e' = .returned (.int .i64 (DL ws l c i k e)) ∧ Below W.heap.size W w' := by
  obtain ⟨h1, h2, h3, h4⟩ := hv
  obtain ⟨⟨s1, c1⟩, ht1⟩ : ∃ t, l[i]? = some t := ⟨_, List.getElem?_eq_getElem (by omega)⟩
  obtain ⟨⟨s2, c2⟩, ht2⟩ : ∃ t, l[k]? = some t := ⟨_, List.getElem?_eq_getElem h2⟩
  have := refFar_ok ws l v i k e s1 s2 c1 c2 c W h ht1 ht2 ⟨h3, h4⟩ (ok.at_ _ _ ht1).2 (ok.at_ _ _ ht2).2 hc (wt_wide ok.wt)
  unfold DL
  rw [colM_at ht1 ht2]
  exact this
theorem wrap9 {e : Int} (h : -1000 ≤ e ∧ e ≤ 1000) : wrap64 (e + 1) = e + 1 ∧ IntKind.i64.wrap (e + 1) = e + 1 := ⟨wrap64_small (by omega), wrap_small (by omega)⟩
theorem refMixed_ok (ws c : Cel) (v : Value) (l : List TabT) (w : World) (hl : SlT w v l) (ok : GuideOk ws l) (hc : ColOk c 0 255) (h2 : 2 ≤ l.length) :
    Calls Tryz.prog 28 #[gdV ws v, colV c] w fun e w' => (∃ (a b : Nat) (g : Int), e = .returned (.agg #[.int .i64 a, .int .i64 b, .int .i64 g]) ∧ MixTop (DL ws l c) l.length a b g) ∧ Below w.heap.size w w' := by
  have hfew := ok.few
  have kF := fun i k e (h : MixV l.length i k e) W hs => mix_at (v := v) ok hc h W hs
  clear ok hc
  generalize DL ws l c = D at kF ⊢
  obtain ⟨A, cap, rfl⟩ := hl.form
  obtain ⟨x, y, z⟩ := ws
  obtain ⟨p, q, r⟩ := c
  unfold gdV colV at *
  dsimp only at *
  obtain ⟨W0, hW⟩ : ∃ W0, W0 = (((w.alloc (.cells #[.int .i64 x, .int .i64 y, .int .i64 z, .slice A l.length cap] 53)).alloc (.cells #[.int .i64 p, .int .i64 q, .int .i64 r] 47)).alloc (.cells #[.int .i64 0, .int .i64 0, .int .i64 0] 65)).alloc (.cells #[.int .i64 0, .int .i64 1, .int .i64 1] 65) := ⟨_, rfl⟩
  obtain ⟨rg, rc, rr, hB3, hz3⟩ := rows3 w 53 47 65 [.int .i64 x, .int .i64 y, .int .i64 z, .slice A l.length cap] [.int .i64 p, .int .i64 q, .int .i64 r] [.int .i64 0, .int .i64 0, .int .i64 0] _ rfl
  have ro : RowK W0 65 (w.heap.size + 1 + 1 + 1) [.int .i64 0, .int .i64 1, .int .i64 1] := by subst hW; rw [← hz3]; exact heap_alloc_new _ _
  have hQ : Below (w.heap.size + 1 + 1 + 1) (((w.alloc (.cells #[.int .i64 x, .int .i64 y, .int .i64 z, .slice A l.length cap] 53)).alloc (.cells #[.int .i64 p, .int .i64 q, .int .i64 r] 47)).alloc (.cells #[.int .i64 0, .int .i64 0, .int .i64 0] 65)) W0 := by subst hW; rw [← hz3]; exact (Below.refl _ _).alloc (Nat.le_refl _) _
  have kk : ∀ V, Below (w.heap.size + 1 + 1 + 1) W0 V → ((V.cell? ⟨w.heap.size, 0, none⟩ = some (.int .i64 x) ∧ V.cell? ⟨w.heap.size, 1, none⟩ = some (.int .i64 y) ∧ V.cell? ⟨w.heap.size, 2, none⟩ = some (.int .i64 z) ∧ V.cell? ⟨w.heap.size, 3, none⟩ = some (.slice A l.length cap))) ∧ (V.cell? ⟨w.heap.size + 1, 0, none⟩ = some (.int .i64 p) ∧ V.cell? ⟨w.heap.size + 1, 1, none⟩ = some (.int .i64 q) ∧ V.cell? ⟨w.heap.size + 1, 2, none⟩ = some (.int .i64 r)) ∧ RowK V 65 (w.heap.size + 1 + 1) [.int .i64 0, .int .i64 0, .int .i64 0] := fun V h => ⟨four_cells ((h.block _ (by omega)).trans ((hQ.block _ (by omega)).trans rg)), three_cellsS ((h.block _ (by omega)).trans ((hQ.block _ (by omega)).trans rc)), (h.block _ (by omega)).trans ((hQ.block _ (by omega)).trans rr)⟩
  have hB0 : Below w.heap.size w W0 := hB3.trans (hQ.mono (by omega))
  have hBw : ∀ V, Below (w.heap.size + 1 + 1 + 1) W0 V → Below w.heap.size w V := fun V h => hB0.trans (h.mono (by omega))
  have ks : ∀ V, Below (w.heap.size + 1 + 1 + 1) W0 V → SlT V (.slice A l.length cap) l := fun V h => hl.below (hBw V h)
  have hX0 := Below.refl (w.heap.size + 1 + 1 + 1) W0
  clear rg rc rr hB3 hz3 hQ hl hB0
  go_enter Tryz.func28, Tryz.ntmps28
  go_wp2_with fail
  rw [← hW]
  clear hW
  go_loopw [6] (fun i wr => ∃ (k a b : Nat) (g : Int), k ≤ l.length ∧ i = .int .i64 k ∧ MixInv D l.length k 0 1 a b g ∧ RowK wr 65 (w.heap.size + 1 + 1 + 1) [.int .i64 a, .int .i64 b, .int .i64 g] ∧ Below (w.heap.size + 1 + 1 + 1) W0 wr) (fun i _ => l.length - (intOf i).toNat)
  case atStart => exact ⟨0, 0, 1, 1, Nat.zero_le _, rfl, MixInv.start h2, ro, hX0⟩
  case round =>
    clear ro hX0
    obtain ⟨i, a, b, g, hi, rfl, hI, ro, hX⟩ := hrel
    rename World => w1
    have HI := Lib.hid hI
    clear hI
    obtain ⟨⟨s0, s1, s2, s3⟩, ⟨s4, s5, s6⟩, -⟩ := kk _ hX
    rcases Nat.lt_or_eq_of_le hi with hin | rfl
    · have HIM := Lib.hid (show l.length - (i + 1) < l.length - i by omega)
      have HIK := Lib.hid (show i + 1 ≤ l.length from hin)
      have HWI := Lib.hid (wrapsM (show i ≤ 32 by omega))
      have hii : (i : Int) < l.length := by omega
      obtain ⟨wi1, wi2⟩ := HWI.out
      go_wp2_with fail
      clear s0 s1 s2 s3 s4 s5 s6 wi1 wi2
      go_loopw [7] (fun kv wr => ∃ (k a b : Nat) (g : Int), i + 1 ≤ k ∧ k ≤ l.length ∧ kv = .int .i64 k ∧ MixInv D l.length i k 1 a b g ∧ RowK wr 65 (w.heap.size + 1 + 1 + 1) [.int .i64 a, .int .i64 b, .int .i64 g] ∧ Below (w.heap.size + 1 + 1 + 1) W0 wr) (fun kv _ => l.length - (intOf kv).toNat)
      case atStart => exact ⟨i + 1, a, b, g, Nat.le_refl _, hin, by simp, HI.out.mid, ro, hX⟩
      case round =>
        clear ro hX HI
        clear a b g
        obtain ⟨k, a, b, g, hik, hk, rfl, hI, ro, hX⟩ := hrel
        rename World => w2
        have HI := Lib.hid hI
        clear hI
        obtain ⟨⟨s0, s1, s2, s3⟩, ⟨s4, s5, s6⟩, -⟩ := kk _ hX
        rcases Nat.lt_or_eq_of_le hk with hkn | rfl
        · have HKM := Lib.hid (show l.length - (k + 1) < l.length - k by omega)
          have HKK := Lib.hid (show i + 1 ≤ k + 1 ∧ k + 1 ≤ l.length by omega)
          have HWK := Lib.hid (wrapsM (show k ≤ 32 by omega))
          have hkk : (k : Int) < l.length := by omega
          go_wp2_with fail
          clear s0 s1 s2 s3 s4 s5 s6
          go_loopw [8] (fun ev wr => ∃ (a b : Nat) (e g : Int), 1 ≤ e ∧ e ≤ 8 ∧ ev = .int .i64 e ∧ MixInv D l.length i k e a b g ∧ RowK wr 65 (w.heap.size + 1 + 1 + 1) [.int .i64 a, .int .i64 b, .int .i64 g] ∧ Below (w.heap.size + 1 + 1 + 1) W0 wr) (fun ev _ => 8 - (intOf ev).toNat)
          case atStart => exact ⟨a, b, 1, g, by omega, by omega, rfl, HI.out, ro, hX⟩
          case round =>
            clear ro hX HI
            clear a b g
            obtain ⟨a, b, e, g, he1, he8, rfl, hI, ro, hX⟩ := hrel
            rename World => w3
            rcases Int.lt_or_eq_of_le he8 with hen | rfl
            · have hv : MixV l.length i k e := ⟨by omega, hkn, he1, by omega⟩
              have kF1 := fun W h => kF i k e hv W h
              have kF2 := fun W h => kF a b g hI.1 W h
              have HL := Lib.hid (fun h => hI.less hv h)
              have HMo := Lib.hid (fun h => hI.more (i := i) (k := k) (e := e) h)
              have hSl := ro.lt
              have kt : ∀ V, Below w3.heap.size w3 V → ((V.cell? ⟨w.heap.size, 0, none⟩ = some (.int .i64 x) ∧ V.cell? ⟨w.heap.size, 1, none⟩ = some (.int .i64 y) ∧ V.cell? ⟨w.heap.size, 2, none⟩ = some (.int .i64 z) ∧ V.cell? ⟨w.heap.size, 3, none⟩ = some (.slice A l.length cap))) ∧ (V.cell? ⟨w.heap.size + 1, 0, none⟩ = some (.int .i64 p) ∧ V.cell? ⟨w.heap.size + 1, 1, none⟩ = some (.int .i64 q) ∧ V.cell? ⟨w.heap.size + 1, 2, none⟩ = some (.int .i64 r)) ∧ (V.cell? ⟨w.heap.size + 1 + 1 + 1, 0, none⟩ = some (.int .i64 a) ∧ V.cell? ⟨w.heap.size + 1 + 1 + 1, 1, none⟩ = some (.int .i64 b) ∧ V.cell? ⟨w.heap.size + 1 + 1 + 1, 2, none⟩ = some (.int .i64 g)) := fun V h => ⟨(kk V (hX.trans (h.mono (Nat.le_of_lt hSl)))).1, (kk V (hX.trans (h.mono (Nat.le_of_lt hSl)))).2.1, (ro.below h).cell (by rfl), (ro.below h).cell (by rfl), (ro.below h).cell (by rfl)⟩
              have kss : ∀ V, Below w3.heap.size w3 V → SlT V (.slice A l.length cap) l := fun V h => ks V (hX.trans (h.mono (Nat.le_of_lt hSl)))
              generalize D i k e = d1 at kF1 HL HMo
              generalize D a b g = d2 at kF2 HL HMo
              have HE := Lib.hid (show (1 : Int) ≤ e + 1 ∧ e + 1 ≤ 8 by omega)
              have HEM := Lib.hid (show 8 - (e + 1).toNat < 8 - e.toNat by omega)
              have HWE := Lib.hid (wrap9 (show -1000 ≤ e ∧ e ≤ 1000 by omega))
              have heq : (e : Int) < 8 := hen
              obtain ⟨bl, hbl⟩ : ∃ bl, decide (d1 < d2) = bl := ⟨_, rfl⟩
              clear hI hv
              go_wp2_with fail
              have hZ := (Below.refl w3.heap.size w3).drew
              refine wp_region_held_drew (S := fun V => ((V.cell? ⟨w.heap.size, 0, none⟩ = some (.int .i64 x) ∧ V.cell? ⟨w.heap.size, 1, none⟩ = some (.int .i64 y) ∧ V.cell? ⟨w.heap.size, 2, none⟩ = some (.int .i64 z) ∧ V.cell? ⟨w.heap.size, 3, none⟩ = some (.slice A l.length cap))) ∧ (V.cell? ⟨w.heap.size + 1, 0, none⟩ = some (.int .i64 p) ∧ V.cell? ⟨w.heap.size + 1, 1, none⟩ = some (.int .i64 q) ∧ V.cell? ⟨w.heap.size + 1, 2, none⟩ = some (.int .i64 r)) ∧ (V.cell? ⟨w.heap.size + 1 + 1 + 1, 0, none⟩ = some (.int .i64 a) ∧ V.cell? ⟨w.heap.size + 1 + 1 + 1, 1, none⟩ = some (.int .i64 b) ∧ V.cell? ⟨w.heap.size + 1 + 1 + 1, 2, none⟩ = some (.int .i64 g))) (by kernel_rfl) (kt _ hZ) (fun hHeld => ?_)
              refine held_yes 0 (some 30) (.agg #[.int .i64 x, .int .i64 y, .int .i64 z, .slice A l.length cap]) rfl rfl (by kernel_rfl) (by kernel_rfl) (by kernel_rfl) (fun _ _ _ h => h) rfl (fun w' hS => by obtain ⟨⟨s0, s1, s2, s3⟩, ⟨s4, s5, s6⟩, u0, u1, u2⟩ := hS; go_simp) hHeld ?_
              try simp only [Act.put, List.setIfInBounds_toArray, List.set_cons_zero, List.set_cons_succ]
              refine held_yes 1 (some 31) (.int .i64 i) rfl rfl (by kernel_rfl) (by kernel_rfl) (by kernel_rfl) (fun _ _ _ h => h) rfl (fun w' hS => by obtain ⟨⟨s0, s1, s2, s3⟩, ⟨s4, s5, s6⟩, u0, u1, u2⟩ := hS; go_simp) hHeld ?_
              try simp only [Act.put, List.setIfInBounds_toArray, List.set_cons_zero, List.set_cons_succ]
              refine held_yes 2 (some 32) (.int .i64 k) rfl rfl (by kernel_rfl) (by kernel_rfl) (by kernel_rfl) (fun _ _ _ h => h) rfl (fun w' hS => by obtain ⟨⟨s0, s1, s2, s3⟩, ⟨s4, s5, s6⟩, u0, u1, u2⟩ := hS; go_simp) hHeld ?_
              try simp only [Act.put, List.setIfInBounds_toArray, List.set_cons_zero, List.set_cons_succ]
              refine held_yes 3 (some 33) (.int .i64 e) rfl rfl (by kernel_rfl) (by kernel_rfl) (by kernel_rfl) (fun _ _ _ h => h) rfl (fun w' hS => by obtain ⟨⟨s0, s1, s2, s3⟩, ⟨s4, s5, s6⟩, u0, u1, u2⟩ := hS; go_simp) hHeld ?_
              try simp only [Act.put, List.setIfInBounds_toArray, List.set_cons_zero, List.set_cons_succ]
              refine held_yes 4 (some 34) (.agg #[.int .i64 i, .int .i64 k, .int .i64 e]) rfl rfl (by kernel_rfl) (by kernel_rfl) (by kernel_rfl) (fun _ _ _ h => h) rfl (fun w' hS => by obtain ⟨⟨s0, s1, s2, s3⟩, ⟨s4, s5, s6⟩, u0, u1, u2⟩ := hS; go_simp) hHeld ?_
              try simp only [Act.put, List.setIfInBounds_toArray, List.set_cons_zero, List.set_cons_succ]
              refine held_yes 5 (some 35) (.agg #[.int .i64 p, .int .i64 q, .int .i64 r]) rfl rfl (by kernel_rfl) (by kernel_rfl) (by kernel_rfl) (fun _ _ _ h => h) rfl (fun w' hS => by obtain ⟨⟨s0, s1, s2, s3⟩, ⟨s4, s5, s6⟩, u0, u1, u2⟩ := hS; go_simp) hHeld ?_
              try simp only [Act.put, List.setIfInBounds_toArray, List.set_cons_zero, List.set_cons_succ]
              refine held_yes 7 (some 37) (.agg #[.int .i64 x, .int .i64 y, .int .i64 z, .slice A l.length cap]) rfl rfl (by kernel_rfl) (by kernel_rfl) (by kernel_rfl) (fun _ _ _ h => h) rfl (fun w' hS => by obtain ⟨⟨s0, s1, s2, s3⟩, ⟨s4, s5, s6⟩, u0, u1, u2⟩ := hS; go_simp) hHeld ?_
              try simp only [Act.put, List.setIfInBounds_toArray, List.set_cons_zero, List.set_cons_succ]
              refine held_yes 8 (some 38) (.agg #[.int .i64 a, .int .i64 b, .int .i64 g]) rfl rfl (by kernel_rfl) (by kernel_rfl) (by kernel_rfl) (fun _ _ _ h => h) rfl (fun w' hS => by obtain ⟨⟨s0, s1, s2, s3⟩, ⟨s4, s5, s6⟩, u0, u1, u2⟩ := hS; go_simp) hHeld ?_
              try simp only [Act.put, List.setIfInBounds_toArray, List.set_cons_zero, List.set_cons_succ]
              refine held_yes 9 (some 39) (.agg #[.int .i64 p, .int .i64 q, .int .i64 r]) rfl rfl (by kernel_rfl) (by kernel_rfl) (by kernel_rfl) (fun _ _ _ h => h) rfl (fun w' hS => by obtain ⟨⟨s0, s1, s2, s3⟩, ⟨s4, s5, s6⟩, u0, u1, u2⟩ := hS; go_simp) hHeld ?_
              try simp only [Act.put, List.setIfInBounds_toArray, List.set_cons_zero, List.set_cons_succ]
              refine wpAnyH_ready (rs := [6]) (by kernel_rfl) (by simp) ?_
              refine AllReadyH.cons rfl (fun K hK => ?_) AllReadyH.nil
              go_simp
              refine (kF1 _ (kss _ hZ)).mono ?_
              rintro e1 va ⟨rfl, hB⟩
              replace hZ := hZ.trans (hB.mono hZ.size)
              go_wp2_with fail
              refine hK.out _ _ (kt _ hZ) (fun hHeld => ?_)
              clear hK K hB
              try simp only [Act.put, List.setIfInBounds_toArray, List.set_cons_zero, List.set_cons_succ]
              refine wpAnyH_ready (rs := [10]) (by kernel_rfl) (by simp) ?_
              refine AllReadyH.cons rfl (fun K hK => ?_) AllReadyH.nil
              go_simp
              refine (kF2 _ (kss _ hZ)).mono ?_
              rintro e1 vb ⟨rfl, hB⟩
              replace hZ := hZ.trans (hB.mono hZ.size)
              go_wp2_with fail
              refine hK.out _ _ (kt _ hZ) (fun hHeld => ?_)
              clear hK K hB
              try simp only [Act.put, List.setIfInBounds_toArray, List.set_cons_zero, List.set_cons_succ]
              refine held_yes 11 (some 41) (.bool bl) rfl rfl (by kernel_rfl) (by kernel_rfl) (by kernel_rfl) (fun _ _ _ h => h) rfl (fun w' hS => by obtain ⟨⟨s0, s1, s2, s3⟩, ⟨s4, s5, s6⟩, u0, u1, u2⟩ := hS; go_simp) hHeld ?_
              try simp only [Act.put, List.setIfInBounds_toArray, List.set_cons_zero, List.set_cons_succ]
              refine wpAnyH_done (by kernel_rfl) ?_ _
              clear hHeld kt
              have ro2 := ro.below hZ
              have hXz := hX.trans (hZ.mono (Nat.le_of_lt hSl))
              clear ro hX hZ kss kF1 kF2
              obtain ⟨we1, we2⟩ := HWE.out
              cases bl with
              | true =>
                have HI2 := Lib.hid (HL.out (of_decide_eq_true hbl))
                have z0 : vb.cell? ⟨w.heap.size + 1 + 1 + 1, 0, none⟩ = some (.int .i64 a) := ro2.cell (by rfl)
                have z1 : vb.cell? ⟨w.heap.size + 1 + 1 + 1, 1, none⟩ = some (.int .i64 b) := ro2.cell (by rfl)
                have z2 : vb.cell? ⟨w.heap.size + 1 + 1 + 1, 2, none⟩ = some (.int .i64 g) := ro2.cell (by rfl)
                have f0 := ro2.fz 0
                have f1 := ro2.fz 1
                have f2 := ro2.fz 2
                have ro3 : RowK (((vb.setCell ⟨w.heap.size + 1 + 1 + 1, 0, none⟩ (.int .i64 i)).setCell ⟨w.heap.size + 1 + 1 + 1, 1, none⟩ (.int .i64 k)).setCell ⟨w.heap.size + 1 + 1 + 1, 2, none⟩ (.int .i64 e)) 65 (w.heap.size + 1 + 1 + 1) [.int .i64 i, .int .i64 k, .int .i64 e] := ((ro2.set 0 (.int .i64 i)).set 1 (.int .i64 k)).set 2 (.int .i64 e)
                have hX3 := ((hXz.setCell (p := ⟨w.heap.size + 1 + 1 + 1, 0, none⟩) (Nat.le_refl _) (.int .i64 i)).setCell (p := ⟨w.heap.size + 1 + 1 + 1, 1, none⟩) (Nat.le_refl _) (.int .i64 k)).setCell (p := ⟨w.heap.size + 1 + 1 + 1, 2, none⟩) (Nat.le_refl _) (.int .i64 e)
                have HX := Lib.hid (And.intro ro3 hX3)
                clear hbl ro2 hXz ro3 hX3
                go_wp2_with fail
                go_roundw
                case rel => exact ⟨i, k, e + 1, e, HE.out.1, HE.out.2, by simp, HI2.out, HX.out.1, HX.out.2⟩
                case measure => exact HEM.out
              | false =>
                have HI2 := Lib.hid (HMo.out (Int.not_lt.1 (of_decide_eq_false hbl)))
                have HX := Lib.hid (And.intro ro2 hXz)
                clear hbl ro2 hXz
                go_wp2_with fail
                go_roundw
                case rel => exact ⟨a, b, e + 1, g, HE.out.1, HE.out.2, by simp, HI2.out, HX.out.1, HX.out.2⟩
                case measure => exact HEM.out
            · have HI2 := Lib.hid hI.up
              have HX := Lib.hid (And.intro ro hX)
              obtain ⟨wk1, wk2⟩ := HWK.out
              clear hI ro hX
              go_wp2_with fail
              go_roundw
              case rel => exact ⟨k + 1, a, b, g, HKK.out.1, HKK.out.2, by simp, HI2.out, HX.out.1, HX.out.2⟩
              case measure => exact HKM.out
        · have HI2 := Lib.hid (HI.out.out (Nat.le_refl _))
          obtain ⟨wi1, wi2⟩ := HWI.out
          go_wp2_with fail
          go_roundw
          case rel => exact ⟨i + 1, a, b, g, HIK.out, by simp, HI2.out, ro, hX⟩
          case measure => exact HIM.out
    · have hT := HI.out.top (Nat.le_refl _)
      obtain ⟨-, -, rr⟩ := kk _ hX
      have y0 : w1.cell? ⟨w.heap.size + 1 + 1 + 1, 0, none⟩ = some (.int .i64 a) := ro.cell (by rfl)
      have y1 : w1.cell? ⟨w.heap.size + 1 + 1 + 1, 1, none⟩ = some (.int .i64 b) := ro.cell (by rfl)
      have y2 : w1.cell? ⟨w.heap.size + 1 + 1 + 1, 2, none⟩ = some (.int .i64 g) := ro.cell (by rfl)
      have z0 : w1.cell? ⟨w.heap.size + 1 + 1, 0, none⟩ = some (.int .i64 0) := rr.cell (by rfl)
      have z1 : w1.cell? ⟨w.heap.size + 1 + 1, 1, none⟩ = some (.int .i64 0) := rr.cell (by rfl)
      have z2 : w1.cell? ⟨w.heap.size + 1 + 1, 2, none⟩ = some (.int .i64 0) := rr.cell (by rfl)
      have f0 := rr.fz 0
      have f1 := rr.fz 1
      have f2 := rr.fz 2
      have hF : (((w1.setCell ⟨w.heap.size + 1 + 1, 0, none⟩ (.int .i64 a)).setCell ⟨w.heap.size + 1 + 1, 1, none⟩ (.int .i64 b)).setCell ⟨w.heap.size + 1 + 1, 2, none⟩ (.int .i64 g)).heap[w.heap.size + 1 + 1]? = some (.cells #[.int .i64 a, .int .i64 b, .int .i64 g] 65 (0, 0)) := ((rr.set 0 (.int .i64 a)).set 1 (.int .i64 b)).set 2 (.int .i64 g)
      have hXw := hBw _ hX
      have hXf : Below w.heap.size w (((w1.setCell ⟨w.heap.size + 1 + 1, 0, none⟩ (.int .i64 a)).setCell ⟨w.heap.size + 1 + 1, 1, none⟩ (.int .i64 b)).setCell ⟨w.heap.size + 1 + 1, 2, none⟩ (.int .i64 g)) := ((hXw.setCell (p := ⟨w.heap.size + 1 + 1, 0, none⟩) (by show w.heap.size ≤ w.heap.size + 1 + 1; omega) _).setCell (p := ⟨w.heap.size + 1 + 1, 1, none⟩) (by show w.heap.size ≤ w.heap.size + 1 + 1; omega) _).setCell (p := ⟨w.heap.size + 1 + 1, 2, none⟩) (by show w.heap.size ≤ w.heap.size + 1 + 1; omega) _
      have HF := Lib.hid hF
      have HX := Lib.hid (And.intro hXf hT)
      clear hF hXf hXw rr ro hX hT HI
      go_wp2
      refine bodyPost_ret (results_cell_row rfl _ _ _ 65 #[.int .i64 a, .int .i64 b, .int .i64 g] (0, 0) _ rfl HF.out Tryz.underlying65 rfl (by kernel_rfl)) rfl ?_
      exact ⟨⟨a, b, g, rfl, HX.out.2⟩, HX.out.1⟩
end Go.Proofs
