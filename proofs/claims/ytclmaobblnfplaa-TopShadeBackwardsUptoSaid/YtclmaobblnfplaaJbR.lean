/- Jobs, exactly: CheckJobs of the reference. -/
import Derived.Test.YtclmaobblnfplaaJbE
namespace Go.Proofs
open Go.RowKit Go.MapKept
set_option maxHeartbeats 16000000
set_option maxRecDepth 1000000
theorem allE_or (l : List Int) (lo hi : Int) : allE l lo hi = 0 ∨ allE l lo hi = 3 := by unfold allE; split <;> simp
theorem allE_bad {l : List Int} {lo hi : Int} {k : Nat} {y : Int} (hy : l[k]? = some y) (h : withinI y lo hi ≠ 0) : allE l lo hi = 3 := by
  unfold allE
  rw [if_neg]
  intro h2
  exact h ((within_cases y lo hi).2.2.2 (h2 y (List.mem_of_getElem? hy)))
theorem allE_good {l : List Int} {lo hi : Int} (h : ∀ (k : Nat) (y : Int), l[k]? = some y → withinI y lo hi = 0) : allE l lo hi = 0 := by
  unfold allE
  rw [if_pos]
  intro y hy
  obtain ⟨k, hk⟩ := List.mem_iff_getElem?.1 hy
  exact (within_cases y lo hi).2.2.1 (h k y hk)
theorem orL_00 (x : Int) : orL [0, 0, x] = x := by
  unfold orL orL orL orL
  by_cases h : x = 0 <;> simp [h]
theorem timesE_cases (t d : List Int) (m : Nat) : ((t.length ≠ m ∨ d.length + 1 ≠ t.length) ∧ timesE t d m = 2) ∨ (¬ (t.length ≠ m ∨ d.length + 1 ≠ t.length) ∧ ((8 < t.length ∧ timesE t d m = 5) ∨ (t.length ≤ 8 ∧ ((allE t 0 1440 = 3 ∧ timesE t d m = 3) ∨ (allE t 0 1440 = 0 ∧ timesE t d m = allE d 0 1440))))) := by
  unfold timesE
  by_cases h : t.length ≠ m ∨ d.length + 1 ≠ t.length
  · refine .inl ⟨h, ?_⟩
    rw [if_pos h]
    simp [orL]
  · refine .inr ⟨h, ?_⟩
    rw [if_neg h]
    by_cases h8 : 8 < t.length
    · refine .inl ⟨h8, ?_⟩
      rw [if_pos h8]
      simp [orL]
    · refine .inr ⟨by omega, ?_⟩
      rw [if_neg h8]
      rcases allE_or t 0 1440 with h1 | h1 <;> rcases allE_or d 0 1440 with h2 | h2 <;> rw [h1, h2] <;> simp [orL]
theorem refJobX_ok (js : List JobT) (v : Value) (w : World) (hl : SlJ w v js) (hs : ∀ j ∈ js, j.2.1.length ≤ 1000 ∧ j.2.2.length ≤ 1000) :
    Calls Try.prog 6 #[v] w fun e w' => ∃ n, e = .returned (.int .i64 n) ∧ JobX js n ∧ Below w.heap.size w w' := by
  have H12 : RowKit.Hid (js.length = 0 → JobX js 12) := Lib.hid fun h => .inl ⟨h, rfl⟩
  have H5 : RowKit.Hid (32 < js.length → JobX js 5) := Lib.hid fun h => .inr ⟨by omega, .inl ⟨h, rfl⟩⟩
  have HN : RowKit.Hid (∀ n, 0 < js.length → js.length ≤ 32 → ScanE js (jobE js) n → JobX js n) := Lib.hid fun n h0 h h2 => .inr ⟨h0, .inr ⟨h, h2⟩⟩
  generalize JobX js = GX at H12 H5 HN ⊢
  have HS := Lib.hid hs
  clear hs
  have hB0 := Below.refl w.heap.size w
  by_cases h0 : js.length = 0
  · obtain ⟨A, cap, rfl⟩ := hl.form
    have hc : ((js.length : Int) == 0) = true := by rw [h0]; rfl
    have HR := Lib.hid (H12.out h0)
    clear h0 H12 H5 HN hl
    go_enter Try.func6, Try.ntmps6
    go_wp2
    go_ret
    exact ⟨12, rfl, HR.out, hB0⟩
  · by_cases h32 : 32 < js.length
    · obtain ⟨A, cap, rfl⟩ := hl.form
      have hc0 : ((js.length : Int) == 0) = false := by rw [beq_eq_false_iff_ne]; omega
      have hc : decide ((32 : Int) < js.length) = true := decide_eq_true (by omega)
      have HR := Lib.hid (H5.out h32)
      clear h0 h32 H12 H5 HN hl
      go_enter Try.func6, Try.ntmps6
      go_wp2
      go_ret
      exact ⟨5, rfl, HR.out, hB0⟩
    · have hc0 : ((js.length : Int) == 0) = false := by rw [beq_eq_false_iff_ne]; omega
      have hc : decide ((32 : Int) < js.length) = false := decide_eq_false (by omega)
      have HGX : RowKit.Hid (∀ n, ScanE js (jobE js) n → GX n) := Lib.hid fun n h => HN.out n (by omega) (by omega) h
      have hfew : js.length ≤ 32 := by omega
      obtain ⟨b, o, cap, rfl, hbJ, hat⟩ := hl.addr (by omega)
      obtain ⟨⟨nm0, t0, d0⟩, hj0⟩ : ∃ j, js[0]? = some j := ⟨_, List.getElem?_eq_getElem (by omega)⟩
      obtain ⟨vt0, vd0, -, q1, -, qt, -⟩ := hat 0 _ hj0
      dsimp only at q1 qt
      rw [Nat.zero_mul, Nat.add_zero] at q1
      obtain ⟨A0, c0, rfl⟩ := qt.form
      have hm0 : stN js = t0.length := by unfold stN; rw [hj0]
      have hp0 : (0 : Int) < js.length := by omega
      have hne0 : js ≠ [] := fun e => by rw [e] at h0; exact h0 rfl
      have HAT := Lib.hid hat
      clear h0 h32 H12 H5 HN hl hj0 qt hat
      go_enter Try.func6, Try.ntmps6
      go_wp2
      go_loopw [3] (fun i wr => ∃ k : Nat, k ≤ js.length ∧ i = .int .i64 k ∧ PreE js (jobE js) k ∧ Below w.heap.size w wr) (fun i _ => js.length - (intOf i).toNat)
      case atStart => exact ⟨0, Nat.zero_le _, rfl, PreE.zero _ _, hB0⟩
      case round =>
        clear hB0
        obtain ⟨k, hk, rfl, hp, hX⟩ := hrel
        rename World => w1
        rcases Nat.lt_or_eq_of_le hk with hkn | rfl
        · obtain ⟨⟨nm, tl, dl⟩, hc'⟩ : ∃ t, js[k]? = some t := ⟨_, List.getElem?_eq_getElem hkn⟩
          obtain ⟨vt, vd, j0, j1, j2, ht, hd⟩ := HAT.out k _ hc'
          have hln := HS.out _ (List.mem_of_getElem? hc')
          dsimp only at j0 j1 j2 ht hd hln
          obtain ⟨At, ct, rfl⟩ := ht.form
          obtain ⟨Ad, cd, rfl⟩ := hd.form
          have r0 := (hX.cell (p := ⟨b, o + k * 3, none⟩) hbJ).trans j0
          have hi0 : (0 : Int) ≤ k := by omega
          have hi1 : (k : Int) < js.length := by omega
          have htE : jobE js k (nm, tl, dl) = orL [nameE nm, twiceE nm ((js.take k).map (·.1)), timesE tl dl (stN js)] := rfl
          have hne : nameE nm = if nameB nm then 0 else 8 := rfl
          have kN := fun W => refNameX_ok nm W
          generalize nameB nm = nb at kN hne
          have HTE := Lib.hid htE
          have HNE := Lib.hid hne
          have HP := Lib.hid hp
          have HC := Lib.hid hc'
          have HJ := Lib.hid (And.intro j0 (And.intro j1 j2))
          have HTD := Lib.hid (And.intro ht hd)
          have HLN := Lib.hid hln
          have HKK := Lib.hid (show k + 1 ≤ js.length from hkn)
          have HKM := Lib.hid (show js.length - (k + 1) < js.length - k by omega)
          have HWK := Lib.hid (wrapsV (show k < 1048576 by omega))
          clear htE hne hp hc' j0 j1 j2 ht hd hln
          cases nb with
          | false =>
            have ht8 : jobE js k (nm, tl, dl) = 8 := by
              rw [HTE.out, HNE.out]
              simp [orL]
            have HR := Lib.hid (HGX.out 8 (by have := HP.out.bad HC.out (by rw [ht8]; decide); rwa [ht8] at this))
            clear ht8
            go_wp2_with (go_at_call 14; with_reducible refine (kN _).mono ?_; rintro e w2 ⟨rfl, rfl⟩)
            go_ret
            exact ⟨8, rfl, HR.out, hX⟩
          | true =>
          have hn0 : nameE nm = 0 := HNE.out
          have HN0 := Lib.hid hn0
          clear hn0
          go_wp2_with (go_at_call 14; with_reducible refine (kN _).mono ?_; rintro e w2 ⟨rfl, rfl⟩)
          clear r0 kN
          go_loopw [4] (fun j wr2 => ∃ m : Nat, m ≤ k ∧ j = .int .i64 m ∧ (∀ (i : Nat) (s' : JobT), i < m → js[i]? = some s' → s'.1 ≠ nm) ∧ Below w.heap.size w wr2) (fun j _ => k - (intOf j).toNat)
          case atStart => exact ⟨0, Nat.zero_le _, rfl, fun i s' h _ => absurd h (Nat.not_lt_zero i), hX⟩
          case round =>
            clear hX
            obtain ⟨m, hm, rfl, hdd, hY⟩ := hrel
            rename World => w3
            have r0 := (hY.cell (p := ⟨b, o + k * 3, none⟩) hbJ).trans HJ.out.1
            rcases Nat.lt_or_eq_of_le hm with hmn | rfl
            · obtain ⟨⟨nm2, tl2, dl2⟩, hc2⟩ : ∃ t, js[m]? = some t := ⟨_, List.getElem?_eq_getElem (by omega)⟩
              obtain ⟨vt2, vd2, p0, -, -, -, -⟩ := HAT.out m _ hc2
              dsimp only at p0
              replace p0 := (hY.cell (p := ⟨b, o + m * 3, none⟩) hbJ).trans p0
              have hj0 : (0 : Int) ≤ m := by omega
              have hj1 : (m : Int) < k := by omega
              have hj2 : (m : Int) < js.length := by omega
              obtain ⟨wm1, wm2⟩ := wrapsV (show m < 1048576 by omega)
              go_wp2_with fail
              go_quiet (fail)
              cases hss : (nm2.toList == nm.toList) with
              | true =>
                have hsame : nm2 = nm := by
                  apply Classical.byContradiction
                  intro h
                  rw [bytes_ne h] at hss
                  cases hss
                have ht9 : jobE js k (nm, tl, dl) = 9 := by
                  rw [HTE.out, HN0.out, twiceE_yes (s := nm) (l := (js.take k).map (·.1)) (mem_takeJ.2 ⟨m, _, hmn, hc2, hsame⟩)]
                  simp [orL]
                have HR := Lib.hid (HGX.out 9 (by have := HP.out.bad HC.out (by rw [ht9]; decide); rwa [ht9] at this))
                clear ht9 hsame hdd
                go_wp2
                go_ret
                exact ⟨9, rfl, HR.out, below_drewN hY _⟩
              | false =>
                go_wp2
                go_roundw
                case rel =>
                  refine ⟨m + 1, hmn, by simp, fun i u hi hu => ?_, below_drewN hY _⟩
                  rcases Nat.lt_or_eq_of_le (Nat.le_of_lt_succ hi) with h1 | rfl
                  · exact hdd i u h1 hu
                  · obtain rfl := Option.some.inj (hc2.symm.trans hu)
                    rintro rfl
                    simp at hss
                case measure => simp [intOf]; omega
            · have htw : twiceE nm ((js.take m).map (·.1)) = 0 := twiceE_no (fun h => by
                obtain ⟨j, u, h4, h5, h6⟩ := mem_takeJ.1 h
                exact hdd j u h4 h5 h6)
              have hE : jobE js m (nm, tl, dl) = timesE tl dl t0.length := by rw [HTE.out, HN0.out, htw, orL_00, hm0]
              have HE := Lib.hid hE
              have HTC := Lib.hid (timesE_cases tl dl t0.length)
              clear htw hE hdd r0
              have kk : ∀ V, Below w.heap.size w V → V.cell? ⟨b, o + m * 3 + 1, none⟩ = some (.slice At tl.length ct) ∧ V.cell? ⟨b, o + m * 3 + 2, none⟩ = some (.slice Ad dl.length cd) ∧ V.cell? ⟨b, o + 1, none⟩ = some (.slice A0 t0.length c0) := fun V h => ⟨(h.cell (p := ⟨b, _, none⟩) hbJ).trans HJ.out.2.1, (h.cell (p := ⟨b, _, none⟩) hbJ).trans HJ.out.2.2, (h.cell (p := ⟨b, _, none⟩) hbJ).trans q1⟩
              have hlT := HLN.out
              have wn1 : wrap64 ((tl.length : Int) - 1) = (tl.length : Int) - 1 := wrap64_small (by omega)
              have wn2 : IntKind.i64.wrap ((tl.length : Int) - 1) = (tl.length : Int) - 1 := wrap_small (by omega)
              obtain ⟨b1, hb1⟩ : ∃ b, ((tl.length : Int) != (t0.length : Int)) = b := ⟨_, rfl⟩
              obtain ⟨b2, hb2⟩ : ∃ b, ((dl.length : Int) != (tl.length : Int) - 1) = b := ⟨_, rfl⟩
              obtain ⟨b3, hb3⟩ : ∃ b, decide ((8 : Int) < (tl.length : Int)) = b := ⟨_, rfl⟩
              have hsh : (b1 || b2) = true ↔ tl.length ≠ t0.length ∨ dl.length + 1 ≠ tl.length := by
                rw [← hb1, ← hb2]
                simp only [Bool.or_eq_true, bne_iff_ne, ne_eq]
                omega
              have HSH := Lib.hid hsh
              clear hsh hlT
              go_wp2_with fail
              have hY2 := hY.drew
              cases b1 with
              | true =>
                refine wp_region_held_drew (S := fun V => V.cell? ⟨b, o + m * 3 + 1, none⟩ = some (.slice At tl.length ct) ∧ V.cell? ⟨b, o + m * 3 + 2, none⟩ = some (.slice Ad dl.length cd) ∧ V.cell? ⟨b, o + 1, none⟩ = some (.slice A0 t0.length c0)) (by kernel_rfl) (kk _ hY2) (fun hHeld => ?_)
                refine held_yes 0 (some 42) (.slice (some ⟨b, o, none⟩) js.length cap) rfl rfl (by kernel_rfl) (by kernel_rfl) (by kernel_rfl) (fun _ _ _ h => h) rfl (fun w' hS => by obtain ⟨s0, s1, s2⟩ := hS; go_simp) hHeld ?_
                try simp only [Act.put, List.setIfInBounds_toArray, List.set_cons_zero, List.set_cons_succ]
                refine held_yes 1 (some 43) (.int .i64 m) rfl rfl (by kernel_rfl) (by kernel_rfl) (by kernel_rfl) (fun _ _ _ h => h) rfl (fun w' hS => by obtain ⟨s0, s1, s2⟩ := hS; go_simp) hHeld ?_
                try simp only [Act.put, List.setIfInBounds_toArray, List.set_cons_zero, List.set_cons_succ]
                refine held_yes 2 (some 44) (.pointer (some ⟨b, o + m * 3, none⟩)) rfl rfl (by kernel_rfl) (by kernel_rfl) (by kernel_rfl) (fun _ _ _ h => h) rfl (fun w' hS => by obtain ⟨s0, s1, s2⟩ := hS; go_simp) hHeld ?_
                try simp only [Act.put, List.setIfInBounds_toArray, List.set_cons_zero, List.set_cons_succ]
                refine held_yes 3 (some 45) (.pointer (some ⟨b, o + m * 3 + 1, none⟩)) rfl rfl (by kernel_rfl) (by kernel_rfl) (by kernel_rfl) (fun _ _ _ h => h) rfl (fun w' hS => by obtain ⟨s0, s1, s2⟩ := hS; go_simp) hHeld ?_
                try simp only [Act.put, List.setIfInBounds_toArray, List.set_cons_zero, List.set_cons_succ]
                refine held_yes 4 (some 46) (.slice At tl.length ct) rfl rfl (by kernel_rfl) (by kernel_rfl) (by kernel_rfl) (fun _ _ _ h => h) rfl (fun w' hS => by obtain ⟨s0, s1, s2⟩ := hS; go_simp) hHeld ?_
                try simp only [Act.put, List.setIfInBounds_toArray, List.set_cons_zero, List.set_cons_succ]
                refine held_yes 5 (some 47) (.int .i64 tl.length) rfl rfl (by kernel_rfl) (by kernel_rfl) (by kernel_rfl) (fun _ _ _ h => h) rfl (fun w' hS => by obtain ⟨s0, s1, s2⟩ := hS; go_simp) hHeld ?_
                try simp only [Act.put, List.setIfInBounds_toArray, List.set_cons_zero, List.set_cons_succ]
                refine held_yes 6 (some 48) (.slice (some ⟨b, o, none⟩) js.length cap) rfl rfl (by kernel_rfl) (by kernel_rfl) (by kernel_rfl) (fun _ _ _ h => h) rfl (fun w' hS => by obtain ⟨s0, s1, s2⟩ := hS; go_simp) hHeld ?_
                try simp only [Act.put, List.setIfInBounds_toArray, List.set_cons_zero, List.set_cons_succ]
                refine held_yes 7 (some 49) (.pointer (some ⟨b, o, none⟩)) rfl rfl (by kernel_rfl) (by kernel_rfl) (by kernel_rfl) (fun _ _ _ h => h) rfl (fun w' hS => by obtain ⟨s0, s1, s2⟩ := hS; go_simp) hHeld ?_
                try simp only [Act.put, List.setIfInBounds_toArray, List.set_cons_zero, List.set_cons_succ]
                refine held_yes 8 (some 50) (.pointer (some ⟨b, o + 1, none⟩)) rfl rfl (by kernel_rfl) (by kernel_rfl) (by kernel_rfl) (fun _ _ _ h => h) rfl (fun w' hS => by obtain ⟨s0, s1, s2⟩ := hS; go_simp) hHeld ?_
                try simp only [Act.put, List.setIfInBounds_toArray, List.set_cons_zero, List.set_cons_succ]
                refine held_yes 9 (some 51) (.slice A0 t0.length c0) rfl rfl (by kernel_rfl) (by kernel_rfl) (by kernel_rfl) (fun _ _ _ h => h) rfl (fun w' hS => by obtain ⟨s0, s1, s2⟩ := hS; go_simp) hHeld ?_
                try simp only [Act.put, List.setIfInBounds_toArray, List.set_cons_zero, List.set_cons_succ]
                refine held_yes 10 (some 52) (.int .i64 t0.length) rfl rfl (by kernel_rfl) (by kernel_rfl) (by kernel_rfl) (fun _ _ _ h => h) rfl (fun w' hS => by obtain ⟨s0, s1, s2⟩ := hS; go_simp) hHeld ?_
                try simp only [Act.put, List.setIfInBounds_toArray, List.set_cons_zero, List.set_cons_succ]
                refine held_yes 11 (some 53) (.bool true) rfl rfl (by kernel_rfl) (by kernel_rfl) (by kernel_rfl) (fun _ _ _ h => h) rfl (fun w' hS => by obtain ⟨s0, s1, s2⟩ := hS; go_simp) hHeld ?_
                try simp only [Act.put, List.setIfInBounds_toArray, List.set_cons_zero, List.set_cons_succ]
                refine held_yes 12 (some 54) (.bool true) rfl rfl (by kernel_rfl) (by kernel_rfl) (by kernel_rfl) (fun _ _ _ h => h) rfl (fun w' hS => by obtain ⟨s0, s1, s2⟩ := hS; go_simp) hHeld ?_
                try simp only [Act.put, List.setIfInBounds_toArray, List.set_cons_zero, List.set_cons_succ]
                refine held_no 13 (some 55) rfl rfl (by kernel_rfl) (by kernel_rfl) (by kernel_rfl) (fun _ _ _ h => h) rfl hHeld ?_
                try simp only [Act.put, List.setIfInBounds_toArray, List.set_cons_zero, List.set_cons_succ]
                refine held_no 14 (some 56) rfl rfl (by kernel_rfl) (by kernel_rfl) (by kernel_rfl) (fun _ _ _ h => h) rfl hHeld ?_
                try simp only [Act.put, List.setIfInBounds_toArray, List.set_cons_zero, List.set_cons_succ]
                refine held_no 15 (some 57) rfl rfl (by kernel_rfl) (by kernel_rfl) (by kernel_rfl) (fun _ _ _ h => h) rfl hHeld ?_
                try simp only [Act.put, List.setIfInBounds_toArray, List.set_cons_zero, List.set_cons_succ]
                refine held_no 16 (some 58) rfl rfl (by kernel_rfl) (by kernel_rfl) (by kernel_rfl) (fun _ _ _ h => h) rfl hHeld ?_
                try simp only [Act.put, List.setIfInBounds_toArray, List.set_cons_zero, List.set_cons_succ]
                refine held_no 17 (some 59) rfl rfl (by kernel_rfl) (by kernel_rfl) (by kernel_rfl) (fun _ _ _ h => h) rfl hHeld ?_
                try simp only [Act.put, List.setIfInBounds_toArray, List.set_cons_zero, List.set_cons_succ]
                refine held_no 18 (some 60) rfl rfl (by kernel_rfl) (by kernel_rfl) (by kernel_rfl) (fun _ _ _ h => h) rfl hHeld ?_
                try simp only [Act.put, List.setIfInBounds_toArray, List.set_cons_zero, List.set_cons_succ]
                refine held_no 19 (some 61) rfl rfl (by kernel_rfl) (by kernel_rfl) (by kernel_rfl) (fun _ _ _ h => h) rfl hHeld ?_
                try simp only [Act.put, List.setIfInBounds_toArray, List.set_cons_zero, List.set_cons_succ]
                refine held_no 20 (some 62) rfl rfl (by kernel_rfl) (by kernel_rfl) (by kernel_rfl) (fun _ _ _ h => h) rfl hHeld ?_
                try simp only [Act.put, List.setIfInBounds_toArray, List.set_cons_zero, List.set_cons_succ]
                refine held_no 21 (some 63) rfl rfl (by kernel_rfl) (by kernel_rfl) (by kernel_rfl) (fun _ _ _ h => h) rfl hHeld ?_
                try simp only [Act.put, List.setIfInBounds_toArray, List.set_cons_zero, List.set_cons_succ]
                refine held_no 22 (some 64) rfl rfl (by kernel_rfl) (by kernel_rfl) (by kernel_rfl) (fun _ _ _ h => h) rfl hHeld ?_
                try simp only [Act.put, List.setIfInBounds_toArray, List.set_cons_zero, List.set_cons_succ]
                refine held_no 23 (some 65) rfl rfl (by kernel_rfl) (by kernel_rfl) (by kernel_rfl) (fun _ _ _ h => h) rfl hHeld ?_
                try simp only [Act.put, List.setIfInBounds_toArray, List.set_cons_zero, List.set_cons_succ]
                refine held_no 24 (some 66) rfl rfl (by kernel_rfl) (by kernel_rfl) (by kernel_rfl) (fun _ _ _ h => h) rfl hHeld ?_
                try simp only [Act.put, List.setIfInBounds_toArray, List.set_cons_zero, List.set_cons_succ]
                refine held_no 25 (some 67) rfl rfl (by kernel_rfl) (by kernel_rfl) (by kernel_rfl) (fun _ _ _ h => h) rfl hHeld ?_
                try simp only [Act.put, List.setIfInBounds_toArray, List.set_cons_zero, List.set_cons_succ]
                refine held_no 26 (some 68) rfl rfl (by kernel_rfl) (by kernel_rfl) (by kernel_rfl) (fun _ _ _ h => h) rfl hHeld ?_
                try simp only [Act.put, List.setIfInBounds_toArray, List.set_cons_zero, List.set_cons_succ]
                refine held_yes 27 (some 69) (.bool true) rfl rfl (by kernel_rfl) (by kernel_rfl) (by kernel_rfl) (fun _ _ _ h => h) rfl (fun w' hS => by obtain ⟨s0, s1, s2⟩ := hS; go_simp) hHeld ?_
                try simp only [Act.put, List.setIfInBounds_toArray, List.set_cons_zero, List.set_cons_succ]
                refine wpAnyH_done (by kernel_rfl) ?_ _
                have ht2 : jobE js m (nm, tl, dl) = 2 := by
                  rw [HE.out]
                  rcases HTC.out with ⟨-, h⟩ | ⟨h, -⟩
                  · exact h
                  · exact absurd (HSH.out.1 rfl) h
                have HR := Lib.hid (HGX.out 2 (by have := HP.out.bad HC.out (by rw [ht2]; decide); rwa [ht2] at this))
                clear ht2 hHeld
                go_wp2_with fail
                go_ret
                exact ⟨2, rfl, HR.out, hY2⟩
              | false =>
                refine wp_region_held_drew (S := fun V => V.cell? ⟨b, o + m * 3 + 1, none⟩ = some (.slice At tl.length ct) ∧ V.cell? ⟨b, o + m * 3 + 2, none⟩ = some (.slice Ad dl.length cd) ∧ V.cell? ⟨b, o + 1, none⟩ = some (.slice A0 t0.length c0)) (by kernel_rfl) (kk _ hY2) (fun hHeld => ?_)
                refine held_yes 0 (some 42) (.slice (some ⟨b, o, none⟩) js.length cap) rfl rfl (by kernel_rfl) (by kernel_rfl) (by kernel_rfl) (fun _ _ _ h => h) rfl (fun w' hS => by obtain ⟨s0, s1, s2⟩ := hS; go_simp) hHeld ?_
                try simp only [Act.put, List.setIfInBounds_toArray, List.set_cons_zero, List.set_cons_succ]
                refine held_yes 1 (some 43) (.int .i64 m) rfl rfl (by kernel_rfl) (by kernel_rfl) (by kernel_rfl) (fun _ _ _ h => h) rfl (fun w' hS => by obtain ⟨s0, s1, s2⟩ := hS; go_simp) hHeld ?_
                try simp only [Act.put, List.setIfInBounds_toArray, List.set_cons_zero, List.set_cons_succ]
                refine held_yes 2 (some 44) (.pointer (some ⟨b, o + m * 3, none⟩)) rfl rfl (by kernel_rfl) (by kernel_rfl) (by kernel_rfl) (fun _ _ _ h => h) rfl (fun w' hS => by obtain ⟨s0, s1, s2⟩ := hS; go_simp) hHeld ?_
                try simp only [Act.put, List.setIfInBounds_toArray, List.set_cons_zero, List.set_cons_succ]
                refine held_yes 3 (some 45) (.pointer (some ⟨b, o + m * 3 + 1, none⟩)) rfl rfl (by kernel_rfl) (by kernel_rfl) (by kernel_rfl) (fun _ _ _ h => h) rfl (fun w' hS => by obtain ⟨s0, s1, s2⟩ := hS; go_simp) hHeld ?_
                try simp only [Act.put, List.setIfInBounds_toArray, List.set_cons_zero, List.set_cons_succ]
                refine held_yes 4 (some 46) (.slice At tl.length ct) rfl rfl (by kernel_rfl) (by kernel_rfl) (by kernel_rfl) (fun _ _ _ h => h) rfl (fun w' hS => by obtain ⟨s0, s1, s2⟩ := hS; go_simp) hHeld ?_
                try simp only [Act.put, List.setIfInBounds_toArray, List.set_cons_zero, List.set_cons_succ]
                refine held_yes 5 (some 47) (.int .i64 tl.length) rfl rfl (by kernel_rfl) (by kernel_rfl) (by kernel_rfl) (fun _ _ _ h => h) rfl (fun w' hS => by obtain ⟨s0, s1, s2⟩ := hS; go_simp) hHeld ?_
                try simp only [Act.put, List.setIfInBounds_toArray, List.set_cons_zero, List.set_cons_succ]
                refine held_yes 6 (some 48) (.slice (some ⟨b, o, none⟩) js.length cap) rfl rfl (by kernel_rfl) (by kernel_rfl) (by kernel_rfl) (fun _ _ _ h => h) rfl (fun w' hS => by obtain ⟨s0, s1, s2⟩ := hS; go_simp) hHeld ?_
                try simp only [Act.put, List.setIfInBounds_toArray, List.set_cons_zero, List.set_cons_succ]
                refine held_yes 7 (some 49) (.pointer (some ⟨b, o, none⟩)) rfl rfl (by kernel_rfl) (by kernel_rfl) (by kernel_rfl) (fun _ _ _ h => h) rfl (fun w' hS => by obtain ⟨s0, s1, s2⟩ := hS; go_simp) hHeld ?_
                try simp only [Act.put, List.setIfInBounds_toArray, List.set_cons_zero, List.set_cons_succ]
                refine held_yes 8 (some 50) (.pointer (some ⟨b, o + 1, none⟩)) rfl rfl (by kernel_rfl) (by kernel_rfl) (by kernel_rfl) (fun _ _ _ h => h) rfl (fun w' hS => by obtain ⟨s0, s1, s2⟩ := hS; go_simp) hHeld ?_
                try simp only [Act.put, List.setIfInBounds_toArray, List.set_cons_zero, List.set_cons_succ]
                refine held_yes 9 (some 51) (.slice A0 t0.length c0) rfl rfl (by kernel_rfl) (by kernel_rfl) (by kernel_rfl) (fun _ _ _ h => h) rfl (fun w' hS => by obtain ⟨s0, s1, s2⟩ := hS; go_simp) hHeld ?_
                try simp only [Act.put, List.setIfInBounds_toArray, List.set_cons_zero, List.set_cons_succ]
                refine held_yes 10 (some 52) (.int .i64 t0.length) rfl rfl (by kernel_rfl) (by kernel_rfl) (by kernel_rfl) (fun _ _ _ h => h) rfl (fun w' hS => by obtain ⟨s0, s1, s2⟩ := hS; go_simp) hHeld ?_
                try simp only [Act.put, List.setIfInBounds_toArray, List.set_cons_zero, List.set_cons_succ]
                refine held_yes 11 (some 53) (.bool false) rfl rfl (by kernel_rfl) (by kernel_rfl) (by kernel_rfl) (fun _ _ _ h => h) rfl (fun w' hS => by obtain ⟨s0, s1, s2⟩ := hS; go_simp) hHeld ?_
                try simp only [Act.put, List.setIfInBounds_toArray, List.set_cons_zero, List.set_cons_succ]
                refine held_yes 12 (some 54) (.bool false) rfl rfl (by kernel_rfl) (by kernel_rfl) (by kernel_rfl) (fun _ _ _ h => h) rfl (fun w' hS => by obtain ⟨s0, s1, s2⟩ := hS; go_simp) hHeld ?_
                try simp only [Act.put, List.setIfInBounds_toArray, List.set_cons_zero, List.set_cons_succ]
                refine held_yes 13 (some 55) (.slice (some ⟨b, o, none⟩) js.length cap) rfl rfl (by kernel_rfl) (by kernel_rfl) (by kernel_rfl) (fun _ _ _ h => h) rfl (fun w' hS => by obtain ⟨s0, s1, s2⟩ := hS; go_simp) hHeld ?_
                try simp only [Act.put, List.setIfInBounds_toArray, List.set_cons_zero, List.set_cons_succ]
                refine held_yes 14 (some 56) (.int .i64 m) rfl rfl (by kernel_rfl) (by kernel_rfl) (by kernel_rfl) (fun _ _ _ h => h) rfl (fun w' hS => by obtain ⟨s0, s1, s2⟩ := hS; go_simp) hHeld ?_
                try simp only [Act.put, List.setIfInBounds_toArray, List.set_cons_zero, List.set_cons_succ]
                refine held_yes 15 (some 57) (.pointer (some ⟨b, o + m * 3, none⟩)) rfl rfl (by kernel_rfl) (by kernel_rfl) (by kernel_rfl) (fun _ _ _ h => h) rfl (fun w' hS => by obtain ⟨s0, s1, s2⟩ := hS; go_simp) hHeld ?_
                try simp only [Act.put, List.setIfInBounds_toArray, List.set_cons_zero, List.set_cons_succ]
                refine held_yes 16 (some 58) (.pointer (some ⟨b, o + m * 3 + 2, none⟩)) rfl rfl (by kernel_rfl) (by kernel_rfl) (by kernel_rfl) (fun _ _ _ h => h) rfl (fun w' hS => by obtain ⟨s0, s1, s2⟩ := hS; go_simp) hHeld ?_
                try simp only [Act.put, List.setIfInBounds_toArray, List.set_cons_zero, List.set_cons_succ]
                refine held_yes 17 (some 59) (.slice Ad dl.length cd) rfl rfl (by kernel_rfl) (by kernel_rfl) (by kernel_rfl) (fun _ _ _ h => h) rfl (fun w' hS => by obtain ⟨s0, s1, s2⟩ := hS; go_simp) hHeld ?_
                try simp only [Act.put, List.setIfInBounds_toArray, List.set_cons_zero, List.set_cons_succ]
                refine held_yes 18 (some 60) (.int .i64 dl.length) rfl rfl (by kernel_rfl) (by kernel_rfl) (by kernel_rfl) (fun _ _ _ h => h) rfl (fun w' hS => by obtain ⟨s0, s1, s2⟩ := hS; go_simp) hHeld ?_
                try simp only [Act.put, List.setIfInBounds_toArray, List.set_cons_zero, List.set_cons_succ]
                refine held_yes 19 (some 61) (.slice (some ⟨b, o, none⟩) js.length cap) rfl rfl (by kernel_rfl) (by kernel_rfl) (by kernel_rfl) (fun _ _ _ h => h) rfl (fun w' hS => by obtain ⟨s0, s1, s2⟩ := hS; go_simp) hHeld ?_
                try simp only [Act.put, List.setIfInBounds_toArray, List.set_cons_zero, List.set_cons_succ]
                refine held_yes 20 (some 62) (.int .i64 m) rfl rfl (by kernel_rfl) (by kernel_rfl) (by kernel_rfl) (fun _ _ _ h => h) rfl (fun w' hS => by obtain ⟨s0, s1, s2⟩ := hS; go_simp) hHeld ?_
                try simp only [Act.put, List.setIfInBounds_toArray, List.set_cons_zero, List.set_cons_succ]
                refine held_yes 21 (some 63) (.pointer (some ⟨b, o + m * 3, none⟩)) rfl rfl (by kernel_rfl) (by kernel_rfl) (by kernel_rfl) (fun _ _ _ h => h) rfl (fun w' hS => by obtain ⟨s0, s1, s2⟩ := hS; go_simp) hHeld ?_
                try simp only [Act.put, List.setIfInBounds_toArray, List.set_cons_zero, List.set_cons_succ]
                refine held_yes 22 (some 64) (.pointer (some ⟨b, o + m * 3 + 1, none⟩)) rfl rfl (by kernel_rfl) (by kernel_rfl) (by kernel_rfl) (fun _ _ _ h => h) rfl (fun w' hS => by obtain ⟨s0, s1, s2⟩ := hS; go_simp) hHeld ?_
                try simp only [Act.put, List.setIfInBounds_toArray, List.set_cons_zero, List.set_cons_succ]
                refine held_yes 23 (some 65) (.slice At tl.length ct) rfl rfl (by kernel_rfl) (by kernel_rfl) (by kernel_rfl) (fun _ _ _ h => h) rfl (fun w' hS => by obtain ⟨s0, s1, s2⟩ := hS; go_simp) hHeld ?_
                try simp only [Act.put, List.setIfInBounds_toArray, List.set_cons_zero, List.set_cons_succ]
                refine held_yes 24 (some 66) (.int .i64 tl.length) rfl rfl (by kernel_rfl) (by kernel_rfl) (by kernel_rfl) (fun _ _ _ h => h) rfl (fun w' hS => by obtain ⟨s0, s1, s2⟩ := hS; go_simp) hHeld ?_
                try simp only [Act.put, List.setIfInBounds_toArray, List.set_cons_zero, List.set_cons_succ]
                refine held_yes 25 (some 67) (.int .i64 (tl.length - 1)) rfl rfl (by kernel_rfl) (by kernel_rfl) (by kernel_rfl) (fun _ _ _ h => h) rfl (fun w' hS => by obtain ⟨s0, s1, s2⟩ := hS; go_simp) hHeld ?_
                try simp only [Act.put, List.setIfInBounds_toArray, List.set_cons_zero, List.set_cons_succ]
                refine held_yes 26 (some 68) (.bool b2) rfl rfl (by kernel_rfl) (by kernel_rfl) (by kernel_rfl) (fun _ _ _ h => h) rfl (fun w' hS => by obtain ⟨s0, s1, s2⟩ := hS; go_simp) hHeld ?_
                try simp only [Act.put, List.setIfInBounds_toArray, List.set_cons_zero, List.set_cons_succ]
                refine held_yes 27 (some 69) (.bool b2) rfl rfl (by kernel_rfl) (by kernel_rfl) (by kernel_rfl) (fun _ _ _ h => h) rfl (fun w' hS => by obtain ⟨s0, s1, s2⟩ := hS; go_simp) hHeld ?_
                try simp only [Act.put, List.setIfInBounds_toArray, List.set_cons_zero, List.set_cons_succ]
                refine wpAnyH_done (by kernel_rfl) ?_ _
                cases b2 with
                | true =>
                  have ht2 : jobE js m (nm, tl, dl) = 2 := by
                    rw [HE.out]
                    rcases HTC.out with ⟨-, h⟩ | ⟨h, -⟩
                    · exact h
                    · exact absurd (HSH.out.1 rfl) h
                  have HR := Lib.hid (HGX.out 2 (by have := HP.out.bad HC.out (by rw [ht2]; decide); rwa [ht2] at this))
                  clear ht2 hHeld
                  go_wp2_with fail
                  go_ret
                  exact ⟨2, rfl, HR.out, hY2⟩
                | false =>
                  have hT2 := (HTC.out).resolve_left (fun h => by have := HSH.out.2 h.1; cases this)
                  have HT2 := Lib.hid hT2.2
                  clear hT2 HTC HSH hb1 hb2 hHeld
                  obtain ⟨s0, s1, -⟩ := kk _ hY2
                  cases b3 with
                  | true =>
                    have ht5 : jobE js m (nm, tl, dl) = 5 := by
                      rw [HE.out]
                      rcases HT2.out with ⟨-, h⟩ | ⟨h, -⟩
                      · exact h
                      · have := of_decide_eq_true hb3
                        omega
                    have HR := Lib.hid (HGX.out 5 (by have := HP.out.bad HC.out (by rw [ht5]; decide); rwa [ht5] at this))
                    clear ht5
                    go_wp2_with fail
                    go_ret
                    exact ⟨5, rfl, HR.out, hY2⟩
                  | false =>
                    have hT3 := (HT2.out).resolve_left (fun h => by have := of_decide_eq_false hb3; omega)
                    have HT3 := Lib.hid hT3.2
                    have HL8 := Lib.hid hT3.1
                    clear hT3 HT2 hY
                    go_wp2_with fail
                    clear s0 s1
                    go_loopw [5] (fun j wr2 => ∃ q : Nat, q ≤ tl.length ∧ j = .int .i64 q ∧ (∀ (i : Nat) (y : Int), i < q → tl[i]? = some y → withinI y 0 1440 = 0) ∧ Below w.heap.size w wr2) (fun j _ => tl.length - (intOf j).toNat)
                    case atStart => exact ⟨0, Nat.zero_le _, rfl, fun i y h _ => absurd h (Nat.not_lt_zero i), hY2⟩
                    case round =>
                      clear hY2
                      obtain ⟨q, hq, rfl, hdd, hY⟩ := hrel
                      rename World => w4
                      obtain ⟨s0, s1, -⟩ := kk _ hY
                      have HDD := Lib.hid hdd
                      clear hdd
                      rcases Nat.lt_or_eq_of_le hq with hqn | rfl
                      · obtain ⟨bt, ot, y, hAt, -, hbl, hy, rk⟩ := (HTD.out.1.below hY).cells hqn
                        subst hAt
                        have kg := fun W => refRange9_ok y 0 1440 W
                        have hj0 : (0 : Int) ≤ q := by omega
                        have hj1 : (q : Int) < tl.length := by omega
                        have HQK := Lib.hid (show q + 1 ≤ tl.length from hqn)
                        have HQM := Lib.hid (show tl.length - (q + 1) < tl.length - q by omega)
                        obtain ⟨wq1, wq2⟩ := wrapsV (show q < 1048576 by have := HL8.out; omega)
                        have HY := Lib.hid hy
                        obtain ⟨ew, hew⟩ : ∃ ew, ew = withinI y 0 1440 := ⟨_, rfl⟩
                        rw [← hew] at kg
                        have HEW := Lib.hid hew
                        clear hew hy
                        by_cases hz : ew = 0
                        · have hnz : (ew != 0) = false := by simpa using hz
                          have HS1 : RowKit.Hid (∀ (i : Nat) (y : Int), i < q + 1 → tl[i]? = some y → withinI y 0 1440 = 0) := Lib.hid fun i z h1 h2 => by
                            rcases Nat.lt_or_eq_of_le (Nat.le_of_lt_succ h1) with h3 | rfl
                            · exact HDD.out i z h3 h2
                            · obtain rfl := Option.some.inj (HY.out.symm.trans h2)
                              rw [← HEW.out]
                              exact hz
                          clear hz
                          go_wp2_with (go_at_call 15; refine (kg _).mono ?_; rintro e v5 ⟨rfl, hv5⟩; obtain rfl := hv5)
                          go_roundw
                          case rel => exact ⟨q + 1, HQK.out, by simp, HS1.out, hY⟩
                          case measure => exact HQM.out
                        · have hnz : (ew != 0) = true := by simpa using hz
                          have ht3 : jobE js m (nm, tl, dl) = 3 := by
                            rw [HE.out]
                            rcases HT3.out with ⟨-, h⟩ | ⟨h, -⟩
                            · exact h
                            · rw [allE_bad HY.out (by rw [← HEW.out]; exact hz)] at h
                              cases h
                          have HR := Lib.hid (HGX.out 3 (by have := HP.out.bad HC.out (by rw [ht3]; decide); rwa [ht3] at this))
                          clear ht3 hz
                          go_wp2_with (go_at_call 15; refine (kg _).mono ?_; rintro e v5 ⟨rfl, hv5⟩; obtain rfl := hv5)
                          go_ret
                          exact ⟨3, rfl, HR.out, hY⟩
                      · have hT4 : jobE js m (nm, tl, dl) = allE dl 0 1440 := by
                          rw [HE.out]
                          rcases HT3.out with ⟨h, -⟩ | ⟨-, h⟩
                          · rw [allE_good (fun i y h2 => HDD.out i y (List.getElem?_eq_some_iff.1 h2).1 h2)] at h
                            cases h
                          · exact h
                        have HT4 := Lib.hid hT4
                        clear hT4 HT3 HDD
                        go_wp2_with fail
                        clear s0 s1
                        go_loopw [6] (fun j wr2 => ∃ q : Nat, q ≤ dl.length ∧ j = .int .i64 q ∧ (∀ (i : Nat) (y : Int), i < q → dl[i]? = some y → withinI y 0 1440 = 0) ∧ Below w.heap.size w wr2) (fun j _ => dl.length - (intOf j).toNat)
                        case atStart => exact ⟨0, Nat.zero_le _, rfl, fun i y h _ => absurd h (Nat.not_lt_zero i), hY⟩
                        case round =>
                          clear hY
                          obtain ⟨q, hq, rfl, hdd, hY⟩ := hrel
                          rename World => w5
                          obtain ⟨s0, s1, -⟩ := kk _ hY
                          have HDD := Lib.hid hdd
                          clear hdd
                          rcases Nat.lt_or_eq_of_le hq with hqn | rfl
                          · obtain ⟨bt, ot, y, hAt, -, hbl, hy, rk⟩ := (HTD.out.2.below hY).cells hqn
                            subst hAt
                            have kg := fun W => refRange9_ok y 0 1440 W
                            have hj0 : (0 : Int) ≤ q := by omega
                            have hj1 : (q : Int) < dl.length := by omega
                            have HQK := Lib.hid (show q + 1 ≤ dl.length from hqn)
                            have HQM := Lib.hid (show dl.length - (q + 1) < dl.length - q by omega)
                            obtain ⟨wq1, wq2⟩ := wrapsV (show q < 1048576 by have := HLN.out; omega)
                            have HY := Lib.hid hy
                            obtain ⟨ew, hew⟩ : ∃ ew, ew = withinI y 0 1440 := ⟨_, rfl⟩
                            rw [← hew] at kg
                            have HEW := Lib.hid hew
                            clear hew hy
                            by_cases hz : ew = 0
                            · have hnz : (ew != 0) = false := by simpa using hz
                              have HS1 : RowKit.Hid (∀ (i : Nat) (y : Int), i < q + 1 → dl[i]? = some y → withinI y 0 1440 = 0) := Lib.hid fun i z h1 h2 => by
                                rcases Nat.lt_or_eq_of_le (Nat.le_of_lt_succ h1) with h3 | rfl
                                · exact HDD.out i z h3 h2
                                · obtain rfl := Option.some.inj (HY.out.symm.trans h2)
                                  rw [← HEW.out]
                                  exact hz
                              clear hz
                              go_wp2_with (go_at_call 15; refine (kg _).mono ?_; rintro e v5 ⟨rfl, hv5⟩; obtain rfl := hv5)
                              go_roundw
                              case rel => exact ⟨q + 1, HQK.out, by simp, HS1.out, hY⟩
                              case measure => exact HQM.out
                            · have hnz : (ew != 0) = true := by simpa using hz
                              have ht3 : jobE js m (nm, tl, dl) = 3 := by
                                rw [HT4.out]
                                exact allE_bad HY.out (by rw [← HEW.out]; exact hz)
                              have HR := Lib.hid (HGX.out 3 (by have := HP.out.bad HC.out (by rw [ht3]; decide); rwa [ht3] at this))
                              clear ht3 hz
                              go_wp2_with (go_at_call 15; refine (kg _).mono ?_; rintro e v5 ⟨rfl, hv5⟩; obtain rfl := hv5)
                              go_ret
                              exact ⟨3, rfl, HR.out, hY⟩
                          · have hT5 : jobE js m (nm, tl, dl) = 0 := by
                              rw [HT4.out]
                              exact allE_good (fun i y h2 => HDD.out i y (List.getElem?_eq_some_iff.1 h2).1 h2)
                            have HS := Lib.hid (HP.out.step HC.out hT5)
                            obtain ⟨wk1, wk2⟩ := HWK.out
                            clear hT5 s0 s1
                            go_wp2_with fail
                            go_roundw
                            case rel => exact ⟨_, HKK.out, by simp, HS.out, hY⟩
                            case measure => exact HKM.out
        · have HR := Lib.hid (HGX.out 0 (hp.done (Nat.le_refl _)))
          clear hp
          go_wp2
          go_ret
          exact ⟨0, rfl, HR.out, hX⟩
end Go.Proofs
